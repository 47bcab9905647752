/- A catalog: Tables. -/
import Derived.Test.YtkoagjfbhkhfkaaDoorCh
namespace Go.Proofs.YtkoagjfbhkhfkaaDoor
open Go.RowKit Go.Lib
set_option maxRecDepth 100000
variable {w w' : World} {c m : Nat} {nv : Value} {E : List En}
def toV (x : En) : Tv := (x.1, .slice (some ⟨x.2, 0, none⟩) x.1.cols.length x.1.cols.length)
theorem run_make_tabs (n : Nat) (hn : n ≤ 100000) (w : World) :
    (Instr.makeSlice 22 (.int .i64 0) (.int .i64 (n : Int))).run Tryd.prog w = .ok (.slice (some ⟨w.heap.size, 0, none⟩) 0 n) (w.alloc (.cells (madeCells TB0.cells (n * 4)) 32)) := by
  obtain ⟨i, hi, hzz⟩ := Option.map_eq_some_iff.1 info32
  simp only [Prod.mk.injEq] at hzz
  obtain ⟨hz, hs, hb⟩ := hzz
  have hr := run_make (P := Tryd.prog) w 22 32 i _ Tryd.underlying22 hi hz .i64 .i64 0 n (by omega) (by omega) (by rw [hb]; omega) (by omega)
  simp only [Int.toNat_natCast, hs, Int.toNat_zero] at hr
  exact hr
/-- What stands at each round of Tables. -/
structure TS (w wr : World) (v : Value) (T : List En) : Prop where
  own : wr.ownsRow w.heap.size 32 4 v T.length (cellsT (T.map toV))
  cols : ∀ x ∈ T, Blk wr x.2 (cellsC x.1.cols) 44 ∧ w.heap.size ≤ x.2
  bel : Below w.heap.size w wr
theorem TS.below {wr w1 : World} {v : Value} {T : List En} (h : TS w wr v T) (hb : Below wr.heap.size wr w1) : TS w w1 v T := ⟨ownsRow_below h.own hb, fun x hx => ⟨(h.cols x hx).1.below hb, (h.cols x hx).2⟩, bmore h.bel hb⟩
theorem TS.more {wr w1 w2 : World} {v v' : Value} {T : List En} {x : En} (h : TS w wr v T) (hb : Below wr.heap.size wr w1) (hx : Blk w1 x.2 (cellsC x.1.cols) 44) (hx2 : w.heap.size ≤ x.2) (hown : w2.ownsRow w.heap.size 32 4 v' (T.length + 1) (cellsT (T.map toV) ++ cellT (toV x))) (hg : w1.grownBy w2 v.ownBlock) : TS w w2 v' (T ++ [x]) := by
  have h1 := h.below hb
  have hk : ∀ {b : Nat} {l : List Value}, Blk w1 b l 44 → Blk w2 b l 44 := fun {b l} hb => hb.block (hg.block b hb.lt (fun e => hb.ne_row (ownsRow_zero h1.own) (by decide) e.symm))
  refine ⟨?_, fun y hy => ?_, h1.bel.grown hg h1.bel.size (fun k hk => (ownsRow_ge h1.own hk).1)⟩
  · rw [List.map_append, List.map_cons, List.map_nil, cellsT_snoc, List.length_append]
    exact hown
  · rcases List.mem_append.1 hy with hy | hy
    · exact ⟨hk (h1.cols y hy).1, (h1.cols y hy).2⟩
    · simp at hy
      subst hy
      exact ⟨hk hx, hx2⟩
def TPost (w : World) (U : List Tb) (e : Ending) (w' : World) : Prop := ∃ va vc T, e = .returned (.slice va T.length vc) ∧ TS w w' (.slice va T.length vc) T ∧ T.map (·.1) = U
set_option maxHeartbeats 2000000 in
theorem tables18 (h : Cat w c m nv E) (hnd : (E.map (·.1.n)).Nodup) :
    Calls Tryd.prog 18 #[.pointer (some ⟨c, 0, none⟩)] w (TPost w (E.map (·.1)).reverse) := by
  have hfew := h.few
  have e1 := h.blk.here (j := 1) rfl
  have hcl := h.blk.lt
  obtain ⟨na, ncap, rfl⟩ := names_form h
  obtain ⟨N, hN⟩ : ∃ N, E.length = N := ⟨_, rfl⟩
  have HNN : Hid (E.length = N) := hN
  have HC : Hid (∀ w1, Below w.heap.size w w1 → Cat w1 c m (.slice na E.length ncap) E) := fun w1 h1 => h.below h1
  obtain ⟨i32, hi32, hzz⟩ := Option.map_eq_some_iff.1 info32
  simp only [Prod.mk.injEq] at hzz
  obtain ⟨hz32, hs32, hb32⟩ := hzz
  rw [hN] at e1 hfew
  have hmk := run_make_tabs N (by omega)
  have HT0 : Hid (TS w (w.alloc (.cells (madeCells TB0.cells (N * 4)) 32)) (.slice (some ⟨w.heap.size, 0, none⟩) 0 N) []) := ⟨⟨rfl, .inr ⟨w.heap.size, N, _, rfl, Nat.le_refl _, (MapKept.heap_alloc w _).1, Nat.zero_le _, by unfold maxLen; omega, by rw [size_madeCells], by simp [cellsT]⟩⟩, by simp, al _ _⟩
  clear hN
  generalize madeCells TB0.cells (N * 4) = mk at *
  go_enter Tryd.func18, Tryd.ntmps18
  go_wp2
  go_loopw [3, 19] (fun v q wr => ∃ (k : Nat) (va : Option Addr) (vn vc : Nat) (T : List En), k ≤ N ∧ q = .int .i64 (k : Int) ∧ v = .slice va vn vc ∧ Hid (vn = T.length ∧ TS w wr (.slice va vn vc) T ∧ T.map (·.1) = (E.reverse.take k).map (·.1))) (fun _ q _ => N - (RowKit.intOf q).toNat)
  case atStart => exact ⟨0, _, _, _, [], by omega, rfl, rfl, rfl, HT0.out, rfl⟩
  case round =>
    obtain ⟨k, va, vn, vc, T, hk, rfl, rfl, HO⟩ := hrel
    have hB := HO.out.2.1.bel
    by_cases hlt : k < N
    · have hlt1 : (k : Int) < (N : Int) := by omega
      have hlt0 : (0 : Int) ≤ (k : Int) := by omega
      obtain ⟨x, hx⟩ : ∃ x, E.reverse[k]? = some x := ⟨_, List.getElem?_eq_getElem (by rw [List.length_reverse, HNN.out]; exact hlt)⟩
      have hxm : x ∈ E := List.mem_reverse.1 (List.mem_of_getElem? hx)
      obtain ⟨gn, cap, he, hgn, hcn⟩ := (HC.out wr hB).nameAt hx
      simp only [Value.slice.injEq] at he
      obtain ⟨rfl, _, rfl⟩ := he
      have hxs : (str x.1.n).size ≤ maxLen := by
        have h5 := rtB_name (h.ok x hxm)
        rw [str_size]; unfold maxLen; omega
      have hlk := (HC.out wr hB).look1 (str x.1.n) hxs
      rw [bs_str, fnd_self hnd x hxm] at hlk
      simp only [Option.map_some, Option.getD_some, tv] at hlk
      have c0 := (HC.out wr hB).blk.here (j := 0) rfl
      have htk : E.reverse.take (k + 1) = E.reverse.take k ++ [x] := by
        have hk' := List.getElem?_eq_some_iff.1 hx
        rw [List.take_succ_eq_append_getElem hk'.1, hk'.2]
      have HT : Hid (E.reverse.take (k + 1) = E.reverse.take k ++ [x]) := htk
      have hcols := rtB_cols (h.ok x hxm)
      have H40 := copied9 (str x.1.n) (str x.1.p) _ x.1.cols x.1.r wr ((HC.out wr hB).sc hxm) (by omega)
      have HTL : Hid (T.length ≤ 3 ∧ vn = T.length) := ⟨by
        have h6 := congrArg List.length HO.out.2.2
        simp at h6
        rw [HNN.out] at h6
        omega, HO.out.1⟩
      have HOW : Hid (∀ w1, Below wr.heap.size wr w1 → w1.ownsRow w.heap.size 32 4 (.slice va vn vc) vn (cellsT (T.map toV))) := fun w1 hb => by
        have h7 := ownsRow_below HO.out.2.1.own hb
        rwa [← HO.out.1] at h7
      obtain ⟨y, yb⟩ := x
      simp only at hcn hlk H40 HT hcols
      obtain ⟨NL, hNL⟩ : ∃ NL, y.cols.length = NL := ⟨_, rfl⟩
      rw [hNL] at hlk H40
      have HNL : Hid (y.cols.length = NL) := hNL
      clear htk hcols hNL
      go_wp2_with (first
        | (go_at_call 40; refine H40.mono ?_; rintro e w1 ⟨g1, rfl, hg1, hblk1, hb1⟩)
        | (at_builtin; (refine wpList_append_lies _ rfl (.tmp 23) (.tmp 31) 22 rfl w.heap.size 32 i32 _ 4 64 Tryd.underlying22 hi32 hz32 hs32 hb32 rfl (by decide) (.slice va vn vc) vn (cellsT (T.map toV)) rfl (HOW.out _ (bmore hb1 (al _ _))) ⟨w1.heap.size, 0, none⟩ 1 1 [.string (str y.n), .slice (some ⟨g1, 0, none⟩) NL NL, .string (str y.p), .int .i64 y.r] rfl rfl (World.news_of_block (blk_new w1 [.string (str y.n), .slice (some ⟨g1, 0, none⟩) NL NL, .string (str y.p), .int .i64 y.r] 32)) (by simp [Value.oneCell']) (by decide) (by have := HTL.out; unfold maxLen; omega) (by have := HTL.out; omega) (bmore hB (bmore hb1 (al _ _))).size _ rfl ?_; intro g2 cap2 w2 hown2 hgr2 hat2 hlt2)))
      go_roundw
      case rel =>
        refine ⟨k + 1, _, _, _, T ++ [(y, g1)], by omega, by simp, rfl, ?_⟩
        show _ ∧ _ ∧ _
        refine ⟨by rw [List.length_append, HTL.out.2]; rfl, ?_, by rw [HT.out, List.map_append, List.map_append, HO.out.2.2]; rfl⟩
        refine HO.out.2.1.more (x := (y, g1)) (bmore hb1 (al _ _)) (hblk1.below (al _ _)) (Nat.le_trans hB.size hg1) ?_ hgr2
        simp only [cellT, toV, HNL.out]
        rw [← HTL.out.2]
        exact hown2
      case measure => simp [RowKit.intOf]; omega
    · have hlt1 : ¬ (k : Int) < (N : Int) := by omega
      go_wp2
      go_ret
      obtain ⟨h1, h2, h3⟩ := HO.out
      subst h1
      rw [List.take_of_length_le (by rw [List.length_reverse, HNN.out]; omega)] at h3
      exact show TPost _ _ _ _ from ⟨va, vc, T, rfl, h2, by rw [h3, List.map_reverse]⟩
end Go.Proofs.YtkoagjfbhkhfkaaDoor
