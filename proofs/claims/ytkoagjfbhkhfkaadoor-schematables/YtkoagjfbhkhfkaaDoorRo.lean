/- The reference's own; few; tables behind a slice. -/
import Derived.Test.YtkoagjfbhkhfkaaDoorRr
namespace Go.Proofs.YtkoagjfbhkhfkaaDoor
open Go.RowKit Go.Lib
set_option maxRecDepth 100000
variable {w w' : World}
/-- Columns behind a slice, in a block of P. -/
def SCP (P : Nat → Prop) (w : World) (v : Value) (l : List Cl) : Prop := ∃ a c, v = .slice a l.length c ∧ l.length ≤ c ∧ (0 < l.length → ∃ g o, a = some ⟨g, o, none⟩ ∧ g < w.heap.size ∧ P g ∧ ColsAt w g o l)
theorem SCP.sc {P : Nat → Prop} {v : Value} {l : List Cl} (h : SCP P w v l) : SC w v l := by
  obtain ⟨a, c, h1, _, h2⟩ := h
  refine ⟨a, c, h1, fun h0 => ?_⟩
  obtain ⟨g, o, h3, h4, _, h5⟩ := h2 h0
  exact ⟨g, o, h3, h4, h5⟩
theorem SCP.imp {P Q : Nat → Prop} {v : Value} {l : List Cl} (h : SCP P w v l) (hPQ : ∀ g, g < w.heap.size → P g → Q g) : SCP Q w v l := by
  obtain ⟨a, c, h1, hc, h2⟩ := h
  refine ⟨a, c, h1, hc, fun h0 => ?_⟩
  obtain ⟨g, o, h3, h4, h6, h5⟩ := h2 h0
  exact ⟨g, o, h3, h4, hPQ g h4 h6, h5⟩
theorem SCP.keep {P : Nat → Prop} {v : Value} {l : List Cl} (h : SCP P w v l) (hs : w.heap.size ≤ w'.heap.size) (hk : ∀ k, k < w.heap.size → P k → w'.heap[k]? = w.heap[k]?) : SCP P w' v l := by
  obtain ⟨a, c, h1, hc, h2⟩ := h
  refine ⟨a, c, h1, hc, fun h0 => ?_⟩
  obtain ⟨g, o, h3, h4, h6, h5⟩ := h2 h0
  refine ⟨g, o, h3, Nat.lt_of_lt_of_le h4 hs, h6, fun i x hx => ?_⟩
  have := h5 i x hx
  simpa only [World.cell?, hk g h4 h6] using this
theorem info44 : (Tryd.prog.info? 44).map (fun i => (i.zero, i.size, i.bytes)) = some (some (.agg #[.string ByteArray.empty, .int .u8 0]), 2, 24) := info29
/-- A row that is owned reads as columns. -/
theorem SCP.own {v : Value} {n : Nat} {l : List Cl} (h : w.ownsRow 0 44 2 v n (cellsC l)) {P : Nat → Prop} (hP : ∀ g, v.ownBlock = some g → P g) : SCP P w v l := by
  obtain ⟨h1, h2⟩ := h
  rw [cellsC_length] at h1
  have hn : l.length = n := by omega
  rcases h2 with ⟨rfl, rfl⟩ | ⟨g, cap, cur, rfl, _, h3, h4, h5, h6, h7⟩
  · exact ⟨none, 0, by rw [hn], by omega, fun h0 => by omega⟩
  · refine ⟨_, cap, by rw [hn], by omega, fun _ => ⟨g, 0, rfl, (Array.getElem?_eq_some_iff.1 h3).1, hP g rfl, fun i x hx => ?_⟩⟩
    obtain ⟨e1, e2⟩ := cellsC_get l i x hx
    have hil := (List.getElem?_eq_some_iff.1 hx).1
    rw [← h7, List.getElem?_take] at e1 e2
    rw [if_pos (by omega)] at e1 e2
    constructor
    · simpa [World.cell?, h3] using e1
    · simpa [World.cell?, h3] using e2
theorem Blk.grow {b : Nat} {l : List Value} {t : TypeId} {row : Option Nat} (h : Blk w b l t) (hg : w.grownBy w' row) (hne : some b ≠ row) : Blk w' b l t := h.block (hg.block b h.lt hne)
theorem own_empty (W : World) (t : TypeId) (sz : Nat) {g : Nat} (hg : W.heap.size = g) : (W.alloc (.cells #[] t)).ownsRow 0 t sz (.slice (some ⟨g, 0, none⟩) 0 0) 0 [] := by
  subst hg
  exact ⟨by simp, .inr ⟨W.heap.size, 0, #[], rfl, Nat.zero_le _, (MapKept.heap_alloc W _).1, Nat.le_refl _, by simp [maxLen], by simp, by simp⟩⟩
theorem ColsAt.news {g o : Nat} {l : List Cl} (h : ColsAt w g o l) : ∀ j u, (cellsC l)[j]? = some u → w.cell? ((⟨g, o, none⟩ : Addr).add j) = some u := fun j u hu => by
  rw [show (⟨g, o, none⟩ : Addr).add j = ⟨g, o + j, none⟩ by unfold Addr.add; split <;> simp_all]
  exact h.range j u hu
set_option maxHeartbeats 1000000 in
theorem own42 (n p : ByteArray) (v : Value) (l : List Cl) (r : Int) (w : World) (hv : SC w v l) (hl : l.length ≤ 1000) (h1 : 1 ≤ l.length) :
    Calls Tryd.prog 42 #[TB n v p r] w fun e w' => ∃ va vc, e = .returned (TB n (.slice va l.length vc) p r) ∧ SCP (fun g => w.heap.size ≤ g) w' (.slice va l.length vc) l ∧ Below w.heap.size w w' := by
  have HSC : Hid (∀ w1, Below w.heap.size w w1 → SC w1 v l) := fun w1 h => hv.below h
  obtain ⟨a, c, rfl, hat⟩ := hv
  obtain ⟨g, o, rfl, _, _⟩ := hat h1
  have HN : Hid (∀ w1, Below w.heap.size w w1 → ∀ j u, (cellsC l)[j]? = some u → w1.cell? ((⟨g, o, none⟩ : Addr).add j) = some u) := fun w1 hb => by
    obtain ⟨a', c', he, hat'⟩ := HSC.out w1 hb
    cases he
    obtain ⟨g', o', he', _, hco⟩ := hat' h1
    cases he'
    exact hco.news
  obtain ⟨i44, hi44, hzz⟩ := Option.map_eq_some_iff.1 info44
  simp only [Prod.mk.injEq] at hzz
  obtain ⟨hz44, hs44, hb44⟩ := hzz
  have hcl := cellsC_length l
  have hone := cellsC_one l
  obtain ⟨N, hN⟩ : ∃ N, l.length = N := ⟨_, rfl⟩
  rw [hN] at hcl hl h1 ⊢
  have HF : Hid (∀ (w5 : World) (v' : Value), w5.ownsRow 0 44 2 v' (0 + N) ([] ++ cellsC l) → ∀ P : Nat → Prop, (∀ g, v'.ownBlock = some g → P g) → ∃ va vc, v' = .slice va N vc ∧ SCP P w5 v' l) := fun w5 v' h P hP => by
    rw [Nat.zero_add, List.nil_append] at h
    have h2 := SCP.own h hP
    obtain ⟨va, vc, h3, _⟩ := id h2
    exact ⟨va, vc, by rw [h3, hN], h2⟩
  clear hat HSC hN
  generalize cellsC l = cs at *
  go_enter Tryd.func42, Tryd.ntmps42
  go_wp2_with (at_builtin; go_must (refine wpList_append_own_at _ rfl (.tmp 3) (.tmp 5) 30 rfl 0 44 i44 _ 2 24 Tryd.underlying30 hi44 hz44 hs44 hb44 rfl (by decide) (.slice (some ⟨w.heap.size + 1 + 1, 0, none⟩) 0 0) 0 [] rfl (own_empty _ 44 2 (by simp)) ⟨g, o, none⟩ N c cs rfl hcl (HN.out _ (bal (bal (al _ _) _) _)) hone (by unfold maxLen; omega) (by omega) (Nat.zero_le _) ?_; intro v' w5 hown5 hgr5 _ hat5; obtain ⟨va, vc, rfl, hscp⟩ := HF.out w5 v' hown5 (fun g => w.heap.size + 2 ≤ g) (fun g hg => by rcases hat5 with h | h <;> (rw [hg] at h; simp [Value.ownBlock] at h; omega)); have b0 : Blk w5 w.heap.size [.string n, .slice (some ⟨g, o, none⟩) N c, .string p, .int .i64 r] 32 := ((blk_new w _ 32).below (bal (al _ _) _)).grow hgr5 (by simp [Value.ownBlock]; omega); have b1 : Blk w5 (w.heap.size + 1) [.string ⟨#[]⟩, .slice none 0 0, .string ⟨#[]⟩, .int .i64 0] 32 := ((blk_at (w.alloc _) _ 32 (by simp)).below (al _ _)).grow hgr5 (by simp [Value.ownBlock]); have F5 : Below w.heap.size w w5 := (bal (bal (al _ _) _) _).grown hgr5 (by simp; omega) (fun k hk => by simp [Value.ownBlock] at hk; omega); have e0 := b0.here (j := 0) rfl; have e1 := b0.here (j := 1) rfl; have e2 := b0.here (j := 2) rfl; have e3 := b0.here (j := 3) rfl; have d0 := b1.here (j := 0) rfl; have d1 := b1.here (j := 1) rfl; have d2 := b1.here (j := 2) rfl; have d3 := b1.here (j := 3) rfl; have fe := b0.frozen; have fd := b1.frozen))
  refine bodyPost_ret (results_cell rfl _ _ _ (w.heap.size + 1) [.string n, .slice va N vc, .string p, .int .i64 r] 32 ?_ rfl _ Tryd.underlying32 rfl (by kernel_rfl)) rfl ⟨va, vc, rfl, ?_, ?_⟩
  · exact ((((b1.other (by simp) _).set _).set _).set _).set _
  · refine (hscp.keep (w' := _) (by simp [World.setCell]) (fun k _ hk => ?_)).imp (fun g _ h => by omega)
    rw [Below.heap_setCell _ _ _ _ (by simp; omega), Below.heap_setCell _ _ _ _ (by simp; omega), Below.heap_setCell _ _ _ _ (by simp; omega), Below.heap_setCell _ _ _ _ (by simp; omega), Below.heap_setCell _ _ _ _ (by simp; omega)]
  · exact bset (bset (bset (bset (bset F5 (by simp) _) (by simp) _) (by simp) _) (by simp) _) (by simp) _
end Go.Proofs.YtkoagjfbhkhfkaaDoor
