/- The document's disk: New, spend, Cut. -/
import Derived.Test.YtnganmekiloigaaCr
namespace Go.Proofs.Ytnganmekiloigaa
open Go.RowKit
set_option maxRecDepth 100000
variable {W W' : World} {r : Nat} {lv xv : Value} {D : Dk}

/-- The Writes of the document's disk. -/
def XRow (W : World) (r : Nat) (xv : Value) (l : List (Nat × Bs)) : Prop := (xv = .slice none 0 0 ∧ l = []) ∨ (∃ g c, xv = .slice (some ⟨g, 0, none⟩) l.length c ∧ 0 ≤ l.length ∧ W.rangeAt g 0 (cellsW l) ∧ g < W.heap.size ∧ g ≠ r)
/-- The sectors of the document's disk. -/
def LRow (W : World) (r : Nat) (lv : Value) (l : List Bs) : Prop := ∃ g c, lv = .slice (some ⟨g, 0, none⟩) l.length c ∧ Secs W g l ∧ g < W.heap.size ∧ g ≠ r
/-- The document's disk at the block r. -/
structure RD (W : World) (r : Nat) (lv xv : Value) (D : Dk) : Prop where
  dx : ∃ L, Dx W r lv xv (.bool D.cut) (.int .i64 L) (.bool D.off) ∧ (D.cut = true → L = D.left)
  secs : LRow W r lv D.secs
  wait : XRow W r xv D.wait
  ok : D.Ok
def rfoot (r : Nat) (lv xv : Value) : Nat → Prop := fun k => k = r ∨ lv.ownBlock = some k ∨ xv.ownBlock = some k
theorem XRow.block {l : List (Nat × Bs)} (h : XRow W r xv l) (hs : W.heap.size ≤ W'.heap.size) (e : ∀ k, xv.ownBlock = some k → W'.heap[k]? = W.heap[k]?) : XRow W' r xv l := by
  rcases h with h | ⟨g, c, rfl, h0, hr, hg, hn⟩
  · exact .inl h
  · exact .inr ⟨g, c, rfl, h0, fun j v hv => (World.cell?_of_block (a := ⟨g, 0 + j, none⟩) (e g rfl)).trans (hr j v hv), by omega, hn⟩
theorem LRow.block {l : List Bs} (h : LRow W r lv l) (hs : W.heap.size ≤ W'.heap.size) (e : ∀ k, lv.ownBlock = some k → W'.heap[k]? = W.heap[k]?) : LRow W' r lv l := by
  obtain ⟨g, c, rfl, h1, h2, h3⟩ := h
  exact ⟨g, c, rfl, h1.block (e g rfl), by omega, h3⟩
theorem RD.rlt (h : RD W r lv xv D) : r < W.heap.size := by
  obtain ⟨L, h1, _⟩ := h.dx
  exact h1.lt
theorem RD.foot_lt (h : RD W r lv xv D) : ∀ k, rfoot r lv xv k → k < W.heap.size := by
  rintro k (rfl | hk | hk)
  · exact h.rlt
  · obtain ⟨g, c, rfl, h1, h2, h3⟩ := h.secs
    cases hk
    exact h2
  · rcases h.wait with ⟨rfl, _⟩ | ⟨g, c, rfl, h0, hr, hg, hn⟩
    · cases hk
    · cases hk
      exact hg
theorem RD.blocks (h : RD W r lv xv D) (hs : W.heap.size ≤ W'.heap.size) (e : ∀ k, rfoot r lv xv k → W'.heap[k]? = W.heap[k]?) : RD W' r lv xv D := by
  obtain ⟨L, h1, h2⟩ := h.dx
  exact ⟨⟨L, h1.block (e r (.inl rfl)), h2⟩, h.secs.block hs (fun k hk => e k (.inr (.inl hk))), h.wait.block hs (fun k hk => e k (.inr (.inr hk))), h.ok⟩
theorem RD.below (h : RD W r lv xv D) (hb : Below W.heap.size W W') : RD W' r lv xv D := h.blocks hb.size fun k hk => hb.block k (h.foot_lt k hk)
theorem RD.keep {F : Nat → Prop} (h : RD W r lv xv D) (hb : Keep F W W') (hF : ∀ k, rfoot r lv xv k → ¬ F k) : RD W' r lv xv D := h.blocks hb.size fun k hk => hb.block k (h.foot_lt k hk) (hF k hk)
theorem kr (W : World) (r o : Nat) (v : Value) : Keep (fun k => k = r) W (W.setCell ⟨r, o, none⟩ v) := Keep.set (F := fun k => k = r) (Keep.refl _ W) (p := ⟨r, o, none⟩) (.inr rfl) v
theorem Keep.kr {a b : World} {r : Nat} (h : Keep (fun k => k = r) a b) (o : Nat) (v : Value) : Keep (fun k => k = r) a (b.setCell ⟨r, o, none⟩ v) := Keep.set (F := fun k => k = r) h (p := ⟨r, o, none⟩) (.inr rfl) v
/-- Cells of the disk itself are turned. -/
theorem RD.turn (h : RD W r lv xv D) (hk : Keep (fun k => k = r) W W') {D' : Dk} {L : Int} (hx : Dx W' r lv xv (.bool D'.cut) (.int .i64 L) (.bool D'.off)) (hL : D'.cut = true → L = D'.left) (hs : D'.secs = D.secs) (hw : D'.wait = D.wait) (ho : D'.Ok) : RD W' r lv xv D' := by
  refine ⟨⟨L, hx, hL⟩, ?_, ?_, ho⟩
  · rw [hs]
    exact h.secs.block hk.size (fun k e => hk.block k (h.foot_lt k (.inr (.inl e))) (fun e' => by
      obtain ⟨g, c, rfl, h1, h2, h3⟩ := h.secs
      cases e
      exact h3 e'))
  · rw [hw]
    exact h.wait.block hk.size (fun k e => hk.block k (h.foot_lt k (.inr (.inr e))) (fun e' => by
      rcases h.wait with ⟨rfl, _⟩ | ⟨g, c, rfl, h0, hr, hg, hn⟩
      · cases e
      · cases e
        exact hn e'))

set_option maxHeartbeats 1000000 in
theorem rspend87 (h : RD W r lv xv D) :
    Calls Try.prog 87 #[.pointer (some ⟨r, 0, none⟩)] W fun e w' => e = .returned (.bool D.spend.1) ∧ RD w' r lv xv D.spend.2 ∧ Keep (fun k => k = r) W w' := by
  obtain ⟨L, hx, hL⟩ := h.dx
  obtain ⟨x0, x1, x2, x3, x4, z0, z1, z2, z3, z4⟩ := id hx
  have hsp := h.ok.spend
  obtain ⟨q1, q2, q3⟩ := spend_secs D
  by_cases hc : D.cut = true
  · have hL' := hL hc
    by_cases h0 : D.left = 0
    · have e1 : D.spend = (false, { D with off := true }) := by unfold Dk.spend; rw [if_pos hc, if_pos h0]
      have hR := h.turn (W' := W.setCell ⟨r, 4, none⟩ (.bool true)) (D' := { D with off := true }) (kr W r 4 _) (hx.set4 _) hL rfl rfl (by rw [e1] at hsp; exact hsp)
      rw [e1]
      rw [hc] at x2
      rw [hL', h0] at x3
      clear h hx hL hsp e1 hL'
      go_enter Try.func87, Try.ntmps87
      go_wp2
      go_ret
      exact ⟨rfl, hR, kr W r 4 _⟩
    · have e1 : D.spend = (true, { D with left := D.left - 1 }) := by unfold Dk.spend; rw [if_pos hc, if_neg h0]
      have hl := h.ok.left
      have hR := h.turn (W' := W.setCell ⟨r, 3, none⟩ (.int .i64 (D.left - 1))) (D' := { D with left := D.left - 1 }) (kr W r 3 _) (hx.set3 _) (fun _ => rfl) rfl rfl (by rw [e1] at hsp; exact hsp)
      rw [e1]
      rw [hc] at x2
      rw [hL'] at x3
      generalize D.left = l at *
      have hl0 : (l == 0) = false := by simpa using h0
      clear h hx hL hsp e1 hL'
      go_enter Try.func87, Try.ntmps87
      go_wp2
      go_ret
      exact ⟨rfl, hR, kr W r 3 _⟩
  · have e1 : D.spend = (true, D) := by unfold Dk.spend; rw [if_neg hc]
    have hc' : D.cut = false := by simpa using hc
    have hR := fun M => h.turn (W' := W.setCell ⟨r, 3, none⟩ (.int .i64 M)) (D' := D) (L := M) (kr W r 3 _) (hx.set3 _) (fun e => absurd e hc) rfl rfl h.ok
    have HR : Hid (∀ M, RD (W.setCell ⟨r, 3, none⟩ (.int .i64 M)) r lv xv D) := hR
    rw [e1]
    rw [hc'] at x2
    clear h hx hL hsp e1 hR
    go_enter Try.func87, Try.ntmps87
    go_wp2
    go_ret
    exact ⟨rfl, HR.out _, kr W r 3 _⟩

set_option maxHeartbeats 1000000 in
theorem rcut62 (h : RD W r lv xv D) (n : Int) (hn : -9223372036854775808 ≤ n ∧ n ≤ 9223372036854775807) :
    Calls Try.prog 62 #[.pointer (some ⟨r, 0, none⟩), .int .i64 n] W fun e w' => e = .returned (.tuple #[]) ∧ RD w' r lv xv (D.doCut n) ∧ Keep (fun k => k = r) W w' := by
  obtain ⟨L, hx, hL⟩ := h.dx
  obtain ⟨x0, x1, x2, x3, x4, z0, z1, z2, z3, z4⟩ := id hx
  unfold Dk.doCut
  by_cases ho : D.off = true
  · rw [if_pos ho]
    rw [ho] at x4
    clear hx hL
    go_enter Try.func62, Try.ntmps62
    go_wp2
    go_end0
    exact ⟨rfl, h, Keep.refl _ _⟩
  · rw [if_neg ho]
    have ho' : D.off = false := by simpa using ho
    have hR := h.turn (W' := (W.setCell ⟨r, 2, none⟩ (.bool true)).setCell ⟨r, 3, none⟩ (.int .i64 (max n 0))) (D' := { D with cut := true, left := max n 0 }) ((kr W r 2 _).kr 3 _) ((hx.set2 _).set3 _) (fun _ => rfl) rfl rfl ⟨h.ok.secs, h.ok.wait, by simp only; omega⟩
    rw [ho'] at x4
    generalize ({ D with cut := true, left := max n 0 } : Dk) = Dc at *
    clear hx hL h
    by_cases hn0 : 0 ≤ n
    · rw [show max n 0 = n by omega] at hR
      go_enter Try.func62, Try.ntmps62
      go_wp2
      go_end0
      exact ⟨rfl, hR, (kr W r 2 _).kr 3 _⟩
    · rw [show max n 0 = 0 by omega] at hR
      go_enter Try.func62, Try.ntmps62
      go_wp2
      go_end0
      exact ⟨rfl, hR, (kr W r 2 _).kr 3 _⟩

/-! ### New -/
theorem info90z : (Try.prog.info? 90).map (fun i => (i.zero, i.size, i.bytes)) = some (some (.agg (cellsB Z64).toArray), 64, 64) := by kernel_rfl
theorem rsecs_new (w : World) (n : Nat) {W : World} (h : W.heap[w.heap.size]? = some (.cells (madeCells (cellsB Z64).toArray (n * 64)) 90 (0, 0))) : Secs W w.heap.size (newDk n).secs := by
  have hc : ∀ j, j < n * 64 → W.cell? ⟨w.heap.size, j, none⟩ = some (.int .u8 0) := fun j hj => by
    simp only [World.cell?, h]
    exact made_get n j hj
  refine ⟨fun i x hx j v hv => ?_, fun i hi j hj => ?_⟩
  · have hi : i < n := by have := (List.getElem?_eq_some_iff.1 hx).1; simpa [newDk] using this
    have hxe : x = List.replicate 64 0 := by
      have := (List.getElem?_eq_some_iff.1 hx).2
      simp only [newDk, List.getElem_replicate] at this
      exact this.symm
    have hj : j < 64 := by
      have := (List.getElem?_eq_some_iff.1 hv).1
      rw [cellsB_length, hxe, List.length_replicate] at this
      exact this
    rw [hc _ (by omega)]
    rw [hxe, cellsB_get _ j (by rw [List.length_replicate]; exact hj)] at hv
    rw [← hv]
    rw [rep_getD]
    rfl
  · have hi' : i < n := by simpa [newDk] using hi
    refine ⟨by rw [hc _ (by omega)]; rfl, ?_⟩
    simp [World.frozen?, h]

set_option maxHeartbeats 1000000 in
theorem rnew45 (n : Nat) (w : World) (h1 : 1 ≤ n) (h2 : n ≤ 128) : Calls Try.prog 45 #[.int .i64 (n : Int)] w fun e w' => e = .returned (.pointer (some ⟨w.heap.size + 1, 0, none⟩)) ∧ RD w' (w.heap.size + 1) (.slice (some ⟨w.heap.size, 0, none⟩) n n) (.slice none 0 0) (newDk n) ∧ Below w.heap.size w w' := by
  have ha : ¬ ((n : Int) < 1) := by omega
  have hb : ¬ ((128 : Int) < (n : Int)) := by omega
  obtain ⟨i0, hi0, hz0, hz1, hz2⟩ := info_parts info90z
  have hmk := fun w => run_make (P := Try.prog) w 98 90 i0 _ Try.underlying98 hi0 hz0 .i64 .i64 (n : Int) (n : Int) (by omega) (Int.le_refl _) (by rw [hz2]; omega) (by omega)
  simp only [hz1] at hmk
  go_enter Try.func45, Try.ntmps45
  go_wp2
  go_ret
  refine ⟨rfl, ⟨⟨0, ?_, fun _ => rfl⟩, ?_, .inl ⟨rfl, rfl⟩, newDk_ok n⟩, bmore (al _ _) (al _ _)⟩
  · exact ⟨by simp, by simp, by simp [newDk], by simp, by simp [newDk], by simp, by simp, by simp, by simp, by simp⟩
  · exact ⟨w.heap.size, n, by simp [newDk], rsecs_new w n (((al _ _).block w.heap.size (by simp)).trans (MapKept.heap_alloc w _).1), by simp; omega, by omega⟩
end Go.Proofs.Ytnganmekiloigaa
