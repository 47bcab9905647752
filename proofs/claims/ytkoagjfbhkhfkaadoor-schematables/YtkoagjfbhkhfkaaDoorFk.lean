/- Fork. -/
import Derived.Test.YtkoagjfbhkhfkaaDoorSf
namespace Go.Proofs.YtkoagjfbhkhfkaaDoor
open Go.RowKit Go.Lib
set_option maxRecDepth 100000
variable {w w' : World} {B c m r : Nat} {nv lv : Value} {E : List En} {L : List Tv} {Q : Nat → Prop}
/-- What stands at each round of Fork. -/
structure FS (w wr : World) (f mf g N : Nat) (E T : List En) : Prop where
  blk : Blk wr f [.map (some mf), .slice (some ⟨g, 0, none⟩) N N] 61
  map : wr.ownsMap Tryd.prog 9 heldR mf T.length (DT T)
  names : Blk wr g (namesV E) 9
  cols : ∀ x ∈ T, Blk wr x.2 (cellsC x.1.cols) 44
  ge : w.heap.size ≤ f ∧ w.heap.size ≤ mf ∧ w.heap.size ≤ g
  bel : Below w.heap.size w wr
theorem ownsMap_below {k n : Nat} {D : DataW Value} (h : w.ownsMap Tryd.prog 9 heldR k n D) (hb : Below w.heap.size w w') : w'.ownsMap Tryd.prog 9 heldR k n D := by
  have hl := h.lt
  obtain ⟨es, cl, h1, h2⟩ := h
  exact ⟨es, cl, (hb.block k hl).trans h1, h2⟩
theorem FS.below {wr w1 : World} {f mf g N : Nat} {T : List En} (h : FS w wr f mf g N E T) (hb : Below wr.heap.size wr w1) : FS w w1 f mf g N E T := ⟨h.blk.below hb, ownsMap_below h.map hb, h.names.below hb, fun x hx => (h.cols x hx).below hb, h.ge, bmore h.bel hb⟩
theorem FS.more {wr w3 w4 : World} {f mf g N : Nat} {T : List En} {x : En} (h0 : FS w wr f mf g N E T) (hb : Below wr.heap.size wr w3) (hx : Blk w3 x.2 (cellsC x.1.cols) 44) (hown : w4.ownsMap Tryd.prog 9 heldR mf (T.length + 1) (DT (x :: T))) (hg : w3.grownBy w4 (some mf)) : FS w w4 f mf g N E (x :: T) := by
  have h := h0.below hb
  have hk : ∀ {b : Nat} {l : List Value} {t : TypeId}, Blk w3 b l t → Blk w4 b l t := fun {b l t} hb => hb.block (hg.block b hb.lt (ne_some (hb.ne_map h.map)))
  refine ⟨hk h.blk, hown, hk h.names, fun y hy => ?_, h.ge, h.bel.grown hg h.bel.size (fun k hk => by cases hk; exact h.ge.2.1)⟩
  rcases List.mem_cons.1 hy with rfl | hy
  · exact hk hx
  · exact hk (h.cols y hy)
theorem FS.put {wr : World} {f mf g N : Nat} {T : List En} (h : FS w wr f mf g N E T) (hf : T.length ≤ 3) (t : Tb) (ht : t.n.length ≤ 100000) (q : Nat) : ∃ w', (Instr.mapUpdate 59 (.map (some mf)) (.string (str t.n)) (tv (t, q))).run Tryd.prog wr = .ok () w' ∧ w'.ownsMap Tryd.prog 9 heldR mf (T.length + 1) (DT ((t, q) :: T)) ∧ wr.grownBy w' (some mf) := by
  obtain ⟨w', h1, h2, h3⟩ := h.map.update keyed9 Tryd.underlying59 (by unfold maxLen; omega) (key := .string (str t.n)) (kl := .string t.n) (by have := WideMaps.keyOf_string_mk (s := str t.n) Tryd.underlying9 (by unfold maxLen; rw [str_size]; omega); rwa [show (str t.n).data.toList = t.n from rfl] at this) (show heldR (tv (t, q)) = some (.held (tv (t, q)), []) from rfl)
  exact ⟨w', h1, h2, h3⟩
theorem FS.cat {wr : World} {f mf g N : Nat} {T : List En} (h : FS w wr f mf g N E T) (hN : E.length = N) (he : T.map (·.1) = E.map (·.1)) (hok : ∀ x ∈ E, rtB x.1.n x.1.cols x.1.p x.1.r = true) (hf : N ≤ 3) : Cat wr f mf (.slice (some ⟨g, 0, none⟩) N N) T := by
  have hl : T.length = N := by have := congrArg List.length he; simpa [hN] using this
  have hn : namesV T = namesV E := by
    have e1 : ∀ X : List En, namesV X = ((X.map (·.1)).reverse).map (fun t => Value.string (str t.n)) := fun X => by rw [namesV, ← List.map_reverse, List.map_map]; rfl
    rw [e1, e1, he]
  refine ⟨h.blk, h.map, ⟨by rw [namesV_length]; omega, .inr ⟨g, N, _, by rw [hl], Nat.zero_le _, h.names, by omega, by unfold maxLen; omega, ?_, ?_⟩⟩, h.cols, fun x hx => ?_, by omega⟩
  · simp [namesV_length, hN]
  · rw [hn, hl]
    apply List.take_of_length_le
    simp [namesV_length, hN]
  · have : x.1 ∈ E.map (·.1) := by rw [← he]; exact List.mem_map.2 ⟨x, hx, rfl⟩
    obtain ⟨y, hy, hxy⟩ := List.mem_map.1 this
    rw [← hxy]
    exact hok y hy
def FPost (w : World) (E : List En) (e : Ending) (w' : World) : Prop := ∃ f mf g T, e = .returned (.pointer (some ⟨f, 0, none⟩)) ∧ Cat w' f mf (.slice (some ⟨g, 0, none⟩) E.length E.length) T ∧ T.map (·.1) = E.map (·.1) ∧ (w.heap.size ≤ f ∧ w.heap.size ≤ mf ∧ w.heap.size ≤ g) ∧ Below w.heap.size w w'
set_option maxHeartbeats 4000000 in
theorem fork17 (h : Cat w c m nv E) (hnd : (E.map (·.1.n)).Nodup) :
    Calls Tryd.prog 17 #[.pointer (some ⟨c, 0, none⟩)] w (FPost w E) := by
  have hfew := h.few
  have hcl := h.blk.lt
  obtain ⟨na, ncap, rfl⟩ := names_form h
  obtain ⟨N, hN⟩ : ∃ N, E.length = N := ⟨_, rfl⟩
  have HNN : Hid (E.length = N) := hN
  have HC : Hid (∀ w1, Below w.heap.size w w1 → Cat w1 c m (.slice na N ncap) E) := fun w1 h1 => by rw [← hN]; exact h.below h1
  have H23 : Hid (∀ w1, Below w.heap.size w w1 → Calls Tryd.prog 23 #[.pointer (some ⟨c, 0, none⟩)] w1 fun e w' => ∃ g, e = .returned (.slice (some ⟨g, 0, none⟩) N N) ∧ w1.heap.size ≤ g ∧ Blk w' g (namesV E) 9 ∧ Below w1.heap.size w1 w') := fun w1 h1 => by
    have := names7 (h.below h1)
    rwa [hN] at this
  have hok := h.ok
  have HOK : Hid (∀ x ∈ E, rtB x.1.n x.1.cols x.1.p x.1.r = true) := h.ok
  rw [hN] at hfew
  clear hN h hok
  go_enter Tryd.func17, Tryd.ntmps17
  go_wp2_with (first
    | (go_at_call 25; refine (new4 _).mono ?_; rintro e w1 ⟨f, mf, rfl, hcat, hf, hm, hb1⟩; (have HCF : Hid _ := hcat); clear hcat)
    | (go_at_call 23; refine (H23.out _ hb1).mono ?_; rintro e w2 ⟨g, rfl, hg, hblk, hb2⟩; have cf := HCF.out.blk.below hb2; have q1 := cf.frozen 1; have q2 := cf.here (j := 1) rfl; have F2 := bmore hb1 hb2; have hfc : c ≠ f := Nat.ne_of_lt (Nat.lt_of_lt_of_le hcl hf); have q3 := ((HC.out _ F2).blk.other (p := ⟨f, 1, none⟩) hfc (.slice (some ⟨g, 0, none⟩) N N)).here (j := 1) rfl))
  have HF0 : Hid (FS w (w2.setCell ⟨f, 1, none⟩ (.slice (some ⟨g, 0, none⟩) N N)) f mf g N E []) := by
    refine ⟨cf.set _, (ownsMap_below HCF.out.map hb2).setCell (fun e => cf.ne_map (ownsMap_below HCF.out.map hb2) e.symm) _, hblk.other (hblk.ne cf (by decide)) _, by simp, ⟨hf, hm, Nat.le_trans hb1.size hg⟩, bset F2 hf _⟩
  clear q1 q2 q3 cf hblk hb2 hb1 F2 hg HCF H23 hfc
  go_loopw [19] (fun q wr => ∃ (k : Nat) (T : List En), k ≤ N ∧ q = .int .i64 (k : Int) ∧ Hid (FS w wr f mf g N E T ∧ T.map (·.1) = ((E.reverse.take k).map (·.1)).reverse)) (fun q _ => N - (RowKit.intOf q).toNat)
  case atStart => exact ⟨0, [], by omega, rfl, HF0.out, rfl⟩
  case round =>
    obtain ⟨k, T, hk, rfl, HO⟩ := hrel
    have hB := HO.out.1.bel
    by_cases hlt : k < N
    · have hlt1 : (k : Int) < (N : Int) := by omega
      have hlt0 : (0 : Int) ≤ (k : Int) := by omega
      obtain ⟨x, hx⟩ : ∃ x, E.reverse[k]? = some x := ⟨_, List.getElem?_eq_getElem (by rw [List.length_reverse, HNN.out]; exact hlt)⟩
      have hxm : x ∈ E := List.mem_reverse.1 (List.mem_of_getElem? hx)
      obtain ⟨gn, cap, he, hgn, hcn⟩ := (HC.out wr hB).nameAt hx
      simp only [Value.slice.injEq] at he
      obtain ⟨rfl, he2, rfl⟩ := he
      clear he2
      have hxn := rtB_name (HOK.out x hxm)
      have hxs : (str x.1.n).size ≤ maxLen := by rw [str_size]; unfold maxLen; omega
      have HLK : Hid (∀ W, Below w.heap.size w W → (Instr.lookup 59 (.map (some m)) (.string (str x.1.n)) false).run Tryd.prog W = .ok (tv x) W) := fun W hW => by
        have hlk := (HC.out W hW).look1 (str x.1.n) hxs
        rw [bs_str, fnd_self hnd x hxm] at hlk
        exact hlk
      have htk : E.reverse.take (k + 1) = E.reverse.take k ++ [x] := by
        have hk' := List.getElem?_eq_some_iff.1 hx
        rw [List.take_succ_eq_append_getElem hk'.1, hk'.2]
      have HT : Hid (E.reverse.take (k + 1) = E.reverse.take k ++ [x]) := htk
      have hcols := rtB_cols (HOK.out x hxm)
      have hTL : T.length ≤ 3 := by
        have h6 := congrArg List.length HO.out.2
        simp at h6
        rw [HNN.out] at h6
        omega
      have H40 : Hid (∀ W, Below w.heap.size w W → _) := fun W hW => copied9 (str x.1.n) (str x.1.p) _ x.1.cols x.1.r W ((HC.out W hW).sc hxm) (by omega)
      have HPU : Hid (∀ W, Below wr.heap.size wr W → ∀ q, _) := fun W hW q => (HO.out.1.below hW).put hTL x.1 (by omega) q
      have HS : Hid (∀ W, Below w.heap.size w W → Blk W f [.map (some mf), .slice (some ⟨g, 0, none⟩) N N] 61 → W.cell? ⟨f, 0, none⟩ = some (.map (some mf)) ∧ W.cell? ⟨c, 0, none⟩ = some (.map (some m)) ∧ (Instr.lookup 59 (.map (some m)) (.string (str x.1.n)) false).run Tryd.prog W = .ok (tv x) W) := fun W hW hf => ⟨hf.here rfl, (HC.out W hW).blk.here rfl, HLK.out W hW⟩
      obtain ⟨y, yb⟩ := x
      simp only [tv] at hcn HLK H40 HT HPU HS hcols
      obtain ⟨NL, hNL⟩ : ∃ NL, y.cols.length = NL := ⟨_, rfl⟩
      rw [hNL] at H40 HPU HS
      have HNL : Hid (y.cols.length = NL) := hNL
      clear htk hcols hNL HLK hTL hx hxm hxn hxs
      go_wp2_with fail
      have F0 : Below wr.heap.size wr wr.drew := (Below.refl _ _).drew
      have G0 : Below w.heap.size w wr.drew := hB.drew
      have hS0 := HS.out _ G0 (HO.out.1.below F0).blk
      go_region_held3 (fun W => W.cell? ⟨f, 0, none⟩ = some (.map (some mf)) ∧ W.cell? ⟨c, 0, none⟩ = some (.map (some m)) ∧ (Instr.lookup 59 (.map (some m)) (.string (str y.n)) false).run Tryd.prog W = .ok (TB (str y.n) (.slice (some ⟨yb, 0, none⟩) NL NL) (str y.p) y.r) W) (first | exact hS0 | exact hS3 | exact hS4) (first
        | (go_at_call 40; (with_reducible refine (H40.out _ G0).mono ?_); rintro e w3 ⟨g1, rfl, hg1, hblk1, hb3⟩; have F3 := bmore F0 hb3; have G3 := bmore G0 hb3; have hS3 := HS.out _ G3 (HO.out.1.below F3).blk; obtain ⟨w4, hrun4, hown4, hgr4⟩ := HPU.out _ F3 g1; have HF4 : Hid (FS w w4 f mf g N E ((y, g1) :: T)) := HO.out.1.more F3 hblk1 hown4 hgr4; have hS4 := HS.out _ HF4.out.bel HF4.out.blk))
      go_wp2
      go_roundw
      case rel => exact ⟨k + 1, (y, g1) :: T, by omega, by simp, HF4.out, by rw [HT.out, List.map_append, List.reverse_append, List.map_cons, HO.out.2]; rfl⟩
      case measure => simp [RowKit.intOf]; omega
    · have hlt1 : ¬ (k : Int) < (N : Int) := by omega
      go_wp2
      go_ret
      obtain ⟨h1, h2⟩ := HO.out
      rw [List.take_of_length_le (by rw [List.length_reverse, HNN.out]; omega), List.map_reverse, List.reverse_reverse] at h2
      refine show FPost _ _ _ _ from ⟨f, mf, g, T, rfl, ?_, h2, h1.ge, h1.bel⟩
      rw [HNN.out]
      exact h1.cat HNN.out h2 HOK.out hfew
end Go.Proofs.YtkoagjfbhkhfkaaDoor
