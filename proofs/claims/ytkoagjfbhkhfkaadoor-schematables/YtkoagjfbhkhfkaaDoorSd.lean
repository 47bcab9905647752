/- The reference's Tables. -/
import Derived.Test.YtkoagjfbhkhfkaaDoorSc2
namespace Go.Proofs.YtkoagjfbhkhfkaaDoor
open Go.RowKit Go.Lib
set_option maxRecDepth 100000
variable {w w' : World} {Q : Nat → Prop} {r : Nat} {lv : Value} {L : List Tv}
/-- What stands at each round of the reference's Tables. -/
structure RT (w wr : World) (v : Value) (T : List Tv) : Prop where
  own : wr.ownsRow w.heap.size 32 4 v T.length (cellsT T)
  cols : ∀ x ∈ T, SCP (fun k => w.heap.size ≤ k ∧ v.ownBlock ≠ some k) wr x.2 x.1.cols
  bel : Below w.heap.size w wr
theorem RT.below {wr w1 : World} {v : Value} {T : List Tv} (h : RT w wr v T) (hb : Below wr.heap.size wr w1) : RT w w1 v T := ⟨ownsRow_below h.own hb, fun x hx => (h.cols x hx).keep hb.size (fun k hk _ => hb.block k hk), bmore h.bel hb⟩
theorem RT.more {wr w1 w2 : World} {v v' : Value} {T : List Tv} {x : Tv} {g : Nat} (h : RT w wr v T) (hb : Below wr.heap.size wr w1) (hx : SCP (fun k => wr.heap.size ≤ k) w1 x.2 x.1.cols) (hown : w2.ownsRow w.heap.size 32 4 v' (T.length + 1) (cellsT T ++ cellT x)) (hg : w1.grownBy w2 v.ownBlock) (hv : v'.ownBlock = some g) (hat : v.ownBlock = some g ∨ g = w1.heap.size) : RT w w2 v' (T ++ [x]) := by
  have h1 := h.below hb
  have hk : ∀ {u : Value} {l : List Cl}, SCP (fun k => w.heap.size ≤ k ∧ v.ownBlock ≠ some k) w1 u l → SCP (fun k => w.heap.size ≤ k ∧ v'.ownBlock ≠ some k) w2 u l := fun {u l} hs => by
    have h2 := hs.imp (Q := fun k => (w.heap.size ≤ k ∧ v.ownBlock ≠ some k) ∧ k < w1.heap.size) (fun k hk hp => ⟨hp, hk⟩)
    refine (h2.keep hg.size (fun k hk hp => hg.block k hk (fun e => hp.1.2 e.symm))).imp (fun k _ hp => ⟨hp.1.1, fun e => ?_⟩)
    rw [hv] at e
    cases e
    rcases hat with h3 | h3
    · exact hp.1.2 h3
    · omega
  refine ⟨?_, fun y hy => ?_, h1.bel.grown hg h1.bel.size (fun k hk => (ownsRow_ge h1.own hk).1)⟩
  · rw [cellsT_snoc, List.length_append]
    exact hown
  · rcases List.mem_append.1 hy with hy | hy
    · exact hk (h1.cols y hy)
    · simp at hy
      subst hy
      refine hk (hx.imp (fun k _ hp => ⟨Nat.le_trans h.bel.size hp, fun e => ?_⟩))
      have := (ownsRow_ge h.own e).2
      omega
def RTPost (w : World) (U : List Tb) (e : Ending) (w' : World) : Prop := ∃ v T, e = .returned v ∧ TL (fun _ => True) w' v T ∧ T.map (·.1) = U ∧ Below w.heap.size w w'
set_option maxHeartbeats 2000000 in
theorem rtables33 (h : RCat Q w r lv L) : Calls Tryd.prog 33 #[.pointer (some ⟨r, 0, none⟩)] w (RTPost w (L.map (·.1))) := by
  have hfew := h.few
  have e0 := h.blk.here (j := 0) rfl
  have HC : Hid (∀ w1, Below w.heap.size w w1 → RCat Q w1 r lv L) := fun w1 h1 => h.below h1
  obtain ⟨⟨a, cp, rfl, _, hat⟩, _⟩ := h.tl
  obtain ⟨N, hN⟩ : ∃ N, L.length = N := ⟨_, rfl⟩
  have HNN : Hid (L.length = N) := hN
  have HA : Hid (0 < L.length → ∃ g o, a = some ⟨g, o, none⟩ ∧ g < w.heap.size ∧ (g ≠ r ∧ Q g) ∧ TabsAt w g o L) := hat
  obtain ⟨i32, hi32, hzz⟩ := Option.map_eq_some_iff.1 info32
  simp only [Prod.mk.injEq] at hzz
  obtain ⟨hz32, hs32, hb32⟩ := hzz
  rw [hN] at e0 hfew
  have hrl := h.blk.lt
  clear hN hat
  go_enter Tryd.func33, Tryd.ntmps33
  go_wp2
  go_loopw [3, 4] (fun v q wr => ∃ (k : Nat) (va : Option Addr) (vn vc : Nat) (T : List Tv), k ≤ N ∧ q = .int .i64 (k : Int) ∧ v = .slice va vn vc ∧ Hid (vn = T.length ∧ RT w wr (.slice va vn vc) T ∧ T.map (·.1) = (L.take k).map (·.1))) (fun _ q _ => N - (RowKit.intOf q).toNat)
  case atStart => exact ⟨0, none, 0, 0, [], by omega, rfl, rfl, rfl, ⟨⟨rfl, .inl ⟨rfl, rfl⟩⟩, by simp, Below.refl _ _⟩, rfl⟩
  case round =>
    obtain ⟨k, va, vn, vc, T, hk, rfl, rfl, HO⟩ := hrel
    have hB := HO.out.2.1.bel
    have e1 := (HC.out wr hB).blk.here (j := 0) rfl
    rw [HNN.out] at e1
    by_cases hlt : k < N
    · have hlt1 : (k : Int) < (N : Int) := by omega
      have hlt0 : (0 : Int) ≤ (k : Int) := by omega
      obtain ⟨x, hx⟩ : ∃ x, L[k]? = some x := ⟨_, List.getElem?_eq_getElem (by rw [HNN.out]; exact hlt)⟩
      have hxm := List.mem_of_getElem? hx
      obtain ⟨g, o, rfl, hgl, _, hco⟩ := HA.out (by rw [HNN.out]; omega)
      obtain ⟨q0, q1, q2, q3⟩ := hco k x hx
      have c0 := (hB.cell (p := ⟨g, o + k * 4, none⟩) hgl).trans q0
      have c1 := (hB.cell (p := ⟨g, o + k * 4 + 1, none⟩) hgl).trans q1
      have c2 := (hB.cell (p := ⟨g, o + k * 4 + 2, none⟩) hgl).trans q2
      have c3 := (hB.cell (p := ⟨g, o + k * 4 + 3, none⟩) hgl).trans q3
      have hcx := rtB_cols (h.ok x hxm)
      have H42 := own42 (str x.1.n) (str x.1.p) x.2 x.1.cols x.1.r wr ((HC.out wr hB).tl.2 x hxm).sc (by omega) hcx.1
      obtain ⟨xa, xn, xc, hxv⟩ := SV_one (h.tl.2 x hxm)
      rw [hxv] at c1 H42
      have HT : Hid (L.take (k + 1) = L.take k ++ [x]) := by
        show _ = _
        have hk2 := List.getElem?_eq_some_iff.1 hx
        rw [List.take_succ_eq_append_getElem hk2.1, hk2.2]
      have HTL : Hid (T.length ≤ 3 ∧ vn = T.length) := ⟨by
        have h6 := congrArg List.length HO.out.2.2
        simp at h6
        rw [HNN.out] at h6
        omega, HO.out.1⟩
      have HOW : Hid (∀ w1, Below wr.heap.size wr w1 → w1.ownsRow w.heap.size 32 4 (.slice va vn vc) vn (cellsT T)) := fun w1 hb => by
        have h7 := ownsRow_below HO.out.2.1.own hb
        rwa [← HO.out.1] at h7
      obtain ⟨NL, hNL⟩ : ∃ NL, x.1.cols.length = NL := ⟨_, rfl⟩
      rw [hNL] at H42
      have HNL : Hid (x.1.cols.length = NL) := hNL
      clear hco hx q0 q1 q2 q3 hcx hNL
      go_wp2_with (first
        | (go_at_call 42; refine H42.mono ?_; rintro e w1 ⟨va1, vc1, rfl, hs1, hb1⟩)
        | (at_builtin; (refine wpList_append_lies _ rfl (.tmp 18) (.tmp 27) 22 rfl w.heap.size 32 i32 _ 4 64 Tryd.underlying22 hi32 hz32 hs32 hb32 rfl (by decide) (.slice va vn vc) vn (cellsT T) rfl (HOW.out _ (bmore hb1 (al _ _))) ⟨w1.heap.size, 0, none⟩ 1 1 [.string (str x.1.n), .slice va1 NL vc1, .string (str x.1.p), .int .i64 x.1.r] rfl rfl (World.news_of_block (blk_new w1 [.string (str x.1.n), .slice va1 NL vc1, .string (str x.1.p), .int .i64 x.1.r] 32)) (by simp [Value.oneCell']) (by decide) (by have := HTL.out; unfold maxLen; omega) (by have := HTL.out; omega) (bmore hB (bmore hb1 (al _ _))).size _ rfl ?_; intro g2 cap2 w2 hown2 hgr2 hat2 hlt2)))
      go_roundw
      case rel =>
        refine ⟨k + 1, _, _, _, T ++ [(x.1, .slice va1 NL vc1)], by omega, by simp, rfl, ?_⟩
        show _ ∧ _ ∧ _
        refine ⟨by rw [List.length_append, HTL.out.2]; rfl, ?_, by rw [HT.out, List.map_append, List.map_append, HO.out.2.2]; rfl⟩
        refine HO.out.2.1.more (x := (x.1, .slice va1 NL vc1)) (g := g2) (bmore hb1 (al _ _)) (hs1.keep (al _ _).size (fun k hk _ => (al _ _).block k hk)) ?_ hgr2 rfl hat2
        rw [← HTL.out.2]
        exact hown2
      case measure => simp [RowKit.intOf]; omega
    · have hlt1 : ¬ (k : Int) < (N : Int) := by omega
      go_wp2
      go_ret
      obtain ⟨h1, h2, h3⟩ := HO.out
      rw [List.take_of_length_le (by rw [HNN.out]; omega)] at h3
      exact show RTPost _ _ _ _ from ⟨_, T, rfl, TL.own h2.own (fun _ _ => trivial) (fun y hy => (h2.cols y hy).imp (fun _ _ _ => trivial)), h3, h2.bel⟩
end Go.Proofs.YtkoagjfbhkhfkaaDoor
