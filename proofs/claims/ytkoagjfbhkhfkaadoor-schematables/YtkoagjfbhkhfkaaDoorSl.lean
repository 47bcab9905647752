/- Same of both catalogs, whichever way. -/
import Derived.Test.YtkoagjfbhkhfkaaDoorSk
namespace Go.Proofs.YtkoagjfbhkhfkaaDoor
open Go.RowKit Go.Lib
set_option maxRecDepth 100000
variable {w w' : World} {c m c' m' r r' : Nat} {nv nv' lv lv' : Value} {E E' : List En} {L L' : List Tv} {Q Q' : Nat → Prop}
set_option maxHeartbeats 2000000 in
theorem rsame16 (h : RCat Q w r lv L) (h' : RCat Q' w r' lv' L') :
    Calls Tryd.prog 16 #[.pointer (some ⟨r, 0, none⟩), .pointer (some ⟨r', 0, none⟩)] w (EQ w (L.map (·.1) = L'.map (·.1))) := by
  have HT : Hid (∀ w1, Below w.heap.size w w1 → Calls Tryd.prog 32 #[lv, lv'] w1 fun e w' => ∃ b : Bool, e = .returned (.bool b) ∧ Hid (b = true ↔ L.map (·.1) = L'.map (·.1)) ∧ Below w1.heap.size w1 w') := fun w1 h1 => tables32g _ _ L L' w1 (h.below h1).tl (h'.below h1).tl (fun x hx => by have := rtB_cols (h.ok x hx); omega) (fun x hx => by have := rtB_cols (h'.ok x hx); omega) (by have := h.few; omega) (by have := h'.few; omega)
  obtain ⟨⟨la, lc, rfl, _, _⟩, _⟩ := id h.tl
  obtain ⟨⟨la', lc', rfl, _, _⟩, _⟩ := id h'.tl
  have HS : Hid (∀ W, Below w.heap.size w W → W.cell? ⟨r, 0, none⟩ = some (.slice la L.length lc) ∧ W.cell? ⟨r', 0, none⟩ = some (.slice la' L'.length lc')) := fun W hW => ⟨(h.below hW).blk.here rfl, (h'.below hW).blk.here rfl⟩
  have F0 : Below w.heap.size w w.drew := (Below.refl _ _).drew
  have hS0 := HS.out _ F0
  clear h h'
  generalize L.length = N at *
  generalize L'.length = M at *
  obtain ⟨P, hP⟩ : ∃ P, (L.map (·.1) = L'.map (·.1)) = P := ⟨_, rfl⟩
  rw [hP] at HT ⊢
  clear hP
  go_enter Tryd.func16, Tryd.ntmps16
  go_wp2_with fail
  go_region_held3 (fun W => W.cell? ⟨r, 0, none⟩ = some (.slice la N lc) ∧ W.cell? ⟨r', 0, none⟩ = some (.slice la' M lc')) (first | exact hS0 | exact HS.out _ F1) (first
    | (go_at_call 32; (with_reducible refine (HT.out _ F0).mono ?_); rintro e w1 ⟨b, rfl, hbb, hb1⟩; have F1 := bmore F0 hb1))
  go_wp2
  go_ret
  exact ⟨b, rfl, hbb.out, F1⟩
theorem same15_nil2 (c : Nat) (w : World) : Calls Tryd.prog 15 #[.pointer (some ⟨c, 0, none⟩), .pointer none] w fun e w' => e = .returned (.bool false) ∧ Below w.heap.size w w' := by
  go_enter Tryd.func15, Tryd.ntmps15
  go_wp2_with fail
  go_quiet (fail)
  go_wp2_with fail
  go_ret
  exact ⟨rfl, bdrewN (Below.refl _ _) _⟩
def nmE (E : List En) : List ByteArray := E.reverse.map fun x => str x.1.n
theorem Cat.sx (h : Cat w c m nv E) : SX w nv (nmE E) := by
  refine SX.own (B := 0) (n := E.length) ?_
  have : (nmE E).map Value.string = namesV E := by simp [nmE, namesV]
  rw [this]
  exact h.names
theorem nmE_len (E : List En) : (nmE E).length = E.length := by simp [nmE]
set_option maxHeartbeats 4000000 in
theorem same15 (h : Cat w c m nv E) (h' : Cat w c' m' nv' E') (hnd : (E.map (·.1.n)).Nodup) (hnd' : (E'.map (·.1.n)).Nodup) :
    Calls Tryd.prog 15 #[.pointer (some ⟨c, 0, none⟩), .pointer (some ⟨c', 0, none⟩)] w (EQ w (E.map (·.1) = E'.map (·.1))) := by
  have hfew := h.few
  obtain ⟨na, ncap, rfl⟩ := names_form h
  obtain ⟨na', ncap', rfl⟩ := names_form h'
  obtain ⟨N, hN⟩ : ∃ N, E.length = N := ⟨_, rfl⟩
  have HNN : Hid (E.length = N) := hN
  have HC : Hid (∀ w1, Below w.heap.size w w1 → Cat w1 c m (.slice na N ncap) E) := fun w1 h1 => by rw [← hN]; exact h.below h1
  obtain ⟨M, hM⟩ : ∃ M, E'.length = M := ⟨_, rfl⟩
  have HC' : Hid (∀ w1, Below w.heap.size w w1 → Cat w1 c' m' (.slice na' M ncap') E') := fun w1 h1 => by rw [← hM]; exact h'.below h1
  have H38 : Hid (∀ w1, Below w.heap.size w w1 → Calls Tryd.prog 38 #[.slice na N ncap, .slice na' M ncap'] w1 fun e w' => ∃ b : Bool, e = .returned (.bool b) ∧ Hid (b = true ↔ nmE E = nmE E') ∧ Below w1.heap.size w1 w') := fun w1 h1 => eq38 _ _ _ _ w1 (HC.out w1 h1).sx (HC'.out w1 h1).sx (by rw [nmE_len]; have := h.few; omega) (by rw [nmE_len]; have := h'.few; omega)
  have HOK : Hid (∀ x ∈ E, rtB x.1.n x.1.cols x.1.p x.1.r = true) := h.ok
  have HOK' : Hid (∀ x ∈ E', rtB x.1.n x.1.cols x.1.p x.1.r = true) := h'.ok
  rw [hN] at hfew
  obtain ⟨P, hP⟩ : ∃ P, (E.map (·.1) = E'.map (·.1)) = P := ⟨_, rfl⟩
  have HP1 : Hid (P → E.map (·.1) = E'.map (·.1)) := fun p => by rw [hP]; exact p
  have HP2 : Hid (E.map (·.1) = E'.map (·.1) → P) := fun p => by rw [hP] at p; exact p
  have HPN : Hid (P → nmE E = nmE E') := fun p => by
    have := HP1.out p
    have e1 : ∀ X : List En, nmE X = ((X.map (·.1)).reverse).map (fun t => str t.n) := fun X => by rw [nmE, ← List.map_reverse, List.map_map]; rfl
    rw [e1, e1, this]
  rw [hP]
  have HS : Hid (∀ W, Below w.heap.size w W → W.cell? ⟨c, 1, none⟩ = some (.slice na N ncap) ∧ W.cell? ⟨c', 1, none⟩ = some (.slice na' M ncap')) := fun W hW => ⟨(HC.out W hW).blk.here rfl, (HC'.out W hW).blk.here rfl⟩
  have F0 : Below w.heap.size w w.drew := (Below.refl _ _).drew
  have hS0 := HS.out _ F0
  have HMM : Hid (E'.length = M) := hM
  clear h h' hP hN hM
  obtain ⟨V1, hV1⟩ : ∃ V1, E.reverse.map (·.1) = V1 := ⟨_, rfl⟩
  obtain ⟨V2, hV2⟩ : ∃ V2, E'.reverse.map (·.1) = V2 := ⟨_, rfl⟩
  have HV1 : Hid (E.reverse.map (·.1) = V1) := hV1
  have HV2 : Hid (E'.reverse.map (·.1) = V2) := hV2
  have HV : Hid (P → V1 = V2) := fun p => by rw [← hV1, ← hV2, List.map_reverse, List.map_reverse, HP1.out p]
  clear hV1 hV2
  go_enter Tryd.func15, Tryd.ntmps15
  go_wp2_with fail
  go_region_held3 (fun W => W.cell? ⟨c, 1, none⟩ = some (.slice na N ncap) ∧ W.cell? ⟨c', 1, none⟩ = some (.slice na' M ncap')) (first | exact hS0 | exact HS.out _ F1) (first
    | (go_at_call 38; (with_reducible refine (H38.out _ F0).mono ?_); rintro e w1 ⟨b, rfl, hbb, hb1⟩; have F1 := bmore F0 hb1))
  cases b
  · go_wp2
    go_ret
    exact EQ.no (fun p => by have := hbb.out.2 (HPN.out p); cases this) F1
  · simp only [Bool.not_true]
    have hnm := hbb.out.1 rfl
    have HNM : Hid (nmE E = nmE E') := hnm
    have e1 := (HS.out _ F1).1
    clear hnm hbb
    have hl2 : E'.length = E.length := by have := congrArg List.length HNM.out; rw [nmE_len, nmE_len] at this; exact this.symm
    have HL2 : Hid (E'.length = E.length) := hl2
    clear hl2
    go_wp2_with fail
    go_loopw [30] (fun q wr => ∃ k : Nat, k ≤ N ∧ q = .int .i64 (k : Int) ∧ Hid ((∀ i, i < k → V1[i]? = V2[i]?) ∧ Below w.heap.size w wr)) (fun q _ => N - (RowKit.intOf q).toNat)
    case atStart => exact ⟨0, by omega, rfl, fun i hi => by omega, F1⟩
    case round =>
      obtain ⟨k, hk, rfl, HW⟩ := hrel
      have hB := HW.out.2
      by_cases hlt : k < N
      · have hlt1 : (k : Int) < (N : Int) := by omega
        have hlt0 : (0 : Int) ≤ (k : Int) := by omega
        obtain ⟨x, hx⟩ : ∃ x, E.reverse[k]? = some x := ⟨_, List.getElem?_eq_getElem (by rw [List.length_reverse, HNN.out]; exact hlt)⟩
        obtain ⟨y, hy⟩ : ∃ y, E'.reverse[k]? = some y := ⟨_, List.getElem?_eq_getElem (by rw [List.length_reverse, HL2.out, HNN.out]; exact hlt)⟩
        have hxm : x ∈ E := List.mem_reverse.1 (List.mem_of_getElem? hx)
        have hym : y ∈ E' := List.mem_reverse.1 (List.mem_of_getElem? hy)
        have hnn : x.1.n = y.1.n := by
          have := congrArg (fun l => l[k]?) HNM.out
          simp only [nmE, List.getElem?_map, hx, hy, Option.map_some, Option.some.injEq] at this
          have h5 := congrArg bs this
          rwa [bs_str, bs_str] at h5
        have HXY : Hid (V1[k]? = some x.1 ∧ V2[k]? = some y.1) := ⟨by rw [← HV1.out, List.getElem?_map, hx]; rfl, by rw [← HV2.out, List.getElem?_map, hy]; rfl⟩
        obtain ⟨gn, cap, he, hgn, hcn⟩ := (HC.out wr hB).nameAt hx
        simp only [Value.slice.injEq] at he
        obtain ⟨rfl, he2, rfl⟩ := he
        clear he2
        have hxn := rtB_name (HOK.out x hxm)
        have hxs : (str x.1.n).size ≤ maxLen := by rw [str_size]; unfold maxLen; omega
        have HLK : Hid (∀ W, Below w.heap.size w W → (Instr.lookup 59 (.map (some m)) (.string (str x.1.n)) false).run Tryd.prog W = .ok (tv x) W ∧ (Instr.lookup 59 (.map (some m')) (.string (str x.1.n)) false).run Tryd.prog W = .ok (tv y) W) := fun W hW => by
          have hlk := (HC.out W hW).look1 (str x.1.n) hxs
          rw [bs_str, fnd_self hnd x hxm] at hlk
          have hlk' := (HC'.out W hW).look1 (str x.1.n) hxs
          rw [bs_str, hnn, fnd_self hnd' y hym] at hlk'
          refine ⟨hlk, ?_⟩
          rw [hnn]
          exact hlk'
        have H39 : Hid (∀ W, Below w.heap.size w W → Calls Tryd.prog 39 #[tv x, tv y] W fun e w' => ∃ b : Bool, e = .returned (.bool b) ∧ Hid (b = true ↔ x.1 = y.1) ∧ Below W.heap.size W w') := fun W hW => (alike39 _ _ _ _ _ _ x.1.cols y.1.cols _ _ W ((HC.out W hW).sc hxm) ((HC'.out W hW).sc hym) (by have := rtB_cols (HOK.out x hxm); omega) (by have := rtB_cols (HOK'.out y hym); omega)).mono fun e w' ⟨b, h1, h2, h3⟩ => ⟨b, h1, h2.trans tb_eq, h3⟩
        have HS2 : Hid (∀ W, Below w.heap.size w W → W.cell? ⟨c, 0, none⟩ = some (.map (some m)) ∧ W.cell? ⟨c', 0, none⟩ = some (.map (some m')) ∧ (Instr.lookup 59 (.map (some m)) (.string (str x.1.n)) false).run Tryd.prog W = .ok (tv x) W ∧ (Instr.lookup 59 (.map (some m')) (.string (str x.1.n)) false).run Tryd.prog W = .ok (tv y) W) := fun W hW => ⟨(HC.out W hW).blk.here rfl, (HC'.out W hW).blk.here rfl, (HLK.out W hW).1, (HLK.out W hW).2⟩
        obtain ⟨x1, xb⟩ := x
        obtain ⟨y1, yb⟩ := y
        simp only [tv] at hcn H39 HS2 HXY
        clear HLK hx hy hxm hym hxn hxs hnn
        generalize str x1.n = xs at *
        generalize str x1.p = xp at *
        generalize x1.r = xr at *
        generalize x1.cols.length = xl at *
        generalize str y1.n = ys at *
        generalize str y1.p = yp at *
        generalize y1.r = yr at *
        generalize y1.cols.length = yl at *
        go_wp2_with fail
        have G0 : Below w.heap.size w wr.drew := hB.drew
        have hS1 := HS2.out _ G0
        go_region_held3 (fun W => W.cell? ⟨c, 0, none⟩ = some (.map (some m)) ∧ W.cell? ⟨c', 0, none⟩ = some (.map (some m')) ∧ (Instr.lookup 59 (.map (some m)) (.string xs) false).run Tryd.prog W = .ok (TB xs (.slice (some ⟨xb, 0, none⟩) xl xl) xp xr) W ∧ (Instr.lookup 59 (.map (some m')) (.string xs) false).run Tryd.prog W = .ok (TB ys (.slice (some ⟨yb, 0, none⟩) yl yl) yp yr) W) (first | exact hS1 | exact HS2.out _ G1) (first
          | (go_at_call 39; (with_reducible refine (H39.out _ G0).mono ?_); rintro e w3 ⟨b, rfl, hbb, hb3⟩; have G1 := bmore G0 hb3))
        all_goals (
          cases b
          · go_wp2
            go_ret
            refine EQ.no (fun p => ?_) G1
            have h5 := HXY.out
            rw [HV.out p, h5.2] at h5
            have := hbb.out.2 (Option.some.inj h5.1.symm)
            cases this
          · have HXE : Hid (x1 = y1) := hbb.out.1 rfl
            clear hbb
            go_wp2
            go_roundw
            case rel => exact ⟨k + 1, by omega, by simp, fun i hi => by
              by_cases hik : i < k
              · exact HW.out.1 i hik
              · obtain rfl : i = k := by omega
                rw [HXY.out.1, HXY.out.2, HXE.out], G1⟩
            case measure => simp [RowKit.intOf]; omega)
      · have hlt1 : ¬ (k : Int) < (N : Int) := by omega
        go_wp2
        go_ret
        refine EQ.yes (HP2.out ?_) hB
        have h7 : V1 = V2 := ext_upto (N := N) (by rw [← HV1.out, List.length_map, List.length_reverse]; exact HNN.out) (by rw [← HV2.out, List.length_map, List.length_reverse, HL2.out]; exact HNN.out) (fun i hi => HW.out.1 i (by omega))
        rw [← HV1.out, ← HV2.out, List.map_reverse, List.map_reverse] at h7
        exact List.reverse_inj.1 h7
end Go.Proofs.YtkoagjfbhkhfkaaDoor
