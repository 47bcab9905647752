/- Deeds of a log that came in; Switch as a story's end. -/
import Derived.Test.YtnganmekiloigaaJq
namespace Go.Proofs.Ytnganmekiloigaa
open Go.RowKit
set_option maxRecDepth 100000
variable {w w' : World} {B d s x q E : Nat}
/-- A deed on a log: what, bytes, a number, truths. -/
abbrev WDeed := Int × Bs × Int × List Bool
def DeedAtW (B0 : Nat) (W : World) (b o : Nat) (x : WDeed) : Prop := ∃ vb vk, (W.cell? ⟨b, o, none⟩ = some (.int .i64 x.1) ∧ W.cell? ⟨b, o + 1, none⟩ = some vb ∧ W.cell? ⟨b, o + 2, none⟩ = some (.int .i64 x.2.2.1) ∧ W.cell? ⟨b, o + 3, none⟩ = some vk) ∧ InB B0 W vb x.2.1 ∧ InK B0 W vk x.2.2.2
/-- The slice v reads as these deeds, all below B0. -/
def InDW (B0 : Nat) (W : World) (v : Value) (l : List WDeed) : Prop := ∃ a c, v = .slice a l.length c ∧ (l.length : Int) ≤ 9223372036854775807 ∧ (0 < l.length → ∃ b o, a = some ⟨b, o, none⟩ ∧ b < B0 ∧ ∀ j x, l[j]? = some x → DeedAtW B0 W b (o + j * 4) x)
/-- A deed, in every later world. -/
structure DW (W0 : World) (b o : Nat) (k N : Int) (vb vk : Value) (l : Bs) (kl : List Bool) : Prop where
  cells : ∀ W, Below W0.heap.size W0 W → W.cell? ⟨b, o, none⟩ = some (.int .i64 k) ∧ W.cell? ⟨b, o + 1, none⟩ = some vb ∧ W.cell? ⟨b, o + 2, none⟩ = some (.int .i64 N) ∧ W.cell? ⟨b, o + 3, none⟩ = some vk
  inb : InB W0.heap.size W0 vb l
  ink : InK W0.heap.size W0 vk kl
theorem dw_of {W0 : World} {a : Option Addr} {n c : Nat} {l : List WDeed} (h : InDW W0.heap.size W0 (.slice a n c) l) {i : Nat} (hi : i < l.length) : ∃ b o, a = some ⟨b, o, none⟩ ∧ ∃ k N vb vk bs kl, DW W0 b (o + i * 4) k N vb vk bs kl := by
  obtain ⟨a', c', hv, _, h3⟩ := h
  simp only [Value.slice.injEq] at hv
  obtain ⟨rfl, -, -⟩ := hv
  obtain ⟨b, o, ha, hb, hat⟩ := h3 (by omega)
  obtain ⟨vb, vk, ⟨c0, c1, c2, c3⟩, h4, h5⟩ := hat i _ (List.getElem?_eq_getElem hi)
  exact ⟨b, o, ha, _, _, vb, vk, _, _, ⟨fun W k => ⟨(k.cell (p := ⟨b, _, none⟩) hb).trans c0, (k.cell (p := ⟨b, _, none⟩) hb).trans c1, (k.cell (p := ⟨b, _, none⟩) hb).trans c2, (k.cell (p := ⟨b, _, none⟩) hb).trans c3⟩, h4, h5⟩⟩
/-- A new log, and a story of nothing. -/
theorem sy_new (h : LG B w d s (newDk (2 * 6)) x ⟨0, 1, 0, 0, false⟩ []) : Sy B (w.alloc (.cells #[.slice none 0 0, .slice none 0 0] 67)) d s x w.heap.size 1 := by
  refine ⟨_, _, [], 0, 0, [], [], .slice none 0 0, .slice none 0 0, h.new _, by simp, h.size, inv_new 6, rfl, Nat.le_refl _, blk_new w [.slice none 0 0, .slice none 0 0] 67, RLG.nil _ _, RLG.nil _ _⟩
/-- Behind a Switch that is done, and a crash. -/
structure Sw (B : Nat) (w : World) (d s x o : Nat) (bs : Bs) : Prop where
  ex : ∃ D W u e1, LG B w d s D x W [] ∧ Inv 6 D W.half W.e W.cnt W.en u e1 [bs] [] ∧ W.half = o
theorem Sy.ends {a : Option Addr} {m c : Nat} {bs : Bs} (h : Sy B w d s x q E) (hE : E ≤ 60000) (hv : InB B w (.slice a m c) bs) (hm : m ≤ 400) :
    ∃ hf : Nat, (hf = 0 ∨ hf = 1) ∧ (Calls Try.prog 43 #[.pointer (some ⟨x, 0, none⟩)] w fun e w' => e = .returned (.int .i64 (hf : Int)) ∧ w' = w) ∧
    Calls Try.prog 41 #[.pointer (some ⟨x, 0, none⟩), .slice a m c] w fun e w' => (e = .returned (.int .i64 2) ∧ m = 0 ∧ Below B w w') ∨ (e = .returned (.int .i64 15) ∧ 342 < m ∧ Below B w w') ∨ (e = .returned (.int .i64 0) ∧ 0 < m ∧ Sw B w' d s x (1 - hf) bs ∧ Below B w w') := by
  obtain ⟨D, W, H, u, e1, S, M, sv, mv, A, hq, hqB, I, hbr, he, hb, hS, hM⟩ := h.ex
  have hsz := A.size
  have hml : m = bs.length := by obtain ⟨a', c', hv', _⟩ := hv; simp only [Value.slice.injEq] at hv'; exact hv'.2.1
  have hwl : D.wait.length ≤ 50000 := by rw [I.wait, waitOf_length]; have := I.en'; have := I.room; omega
  refine ⟨W.half, I.half, half43 A.wal, ?_⟩
  by_cases hm0 : m < 1
  · refine (switch41_range A.wal hbr (.inl hm0)).mono ?_
    rintro e w1 ⟨rfl, B1⟩
    exact .inl ⟨rfl, by omega, B1.mono hsz⟩
  · by_cases hf : 6 < (m + 56) / 57
    · refine (switch41_full (R := 6) A hbr I.len (by omega) (by omega) hf).mono ?_
      rintro e w1 ⟨rfl, B1⟩
      exact .inr (.inl ⟨rfl, by omega, B1.mono hsz⟩)
    · obtain ⟨H', hH, hq', A', hlb⟩ := lg_bytes A hq hqB hv
      have hnp : np bs = (m + 56) / 57 := by rw [hml]; rfl
      refine (switch41_ok (R := 6) (l := bs) A' hbr I.cut I.off hwl I.len (by omega) I.half (by omega) hlb.1 (by omega) (by omega) (fun g o ha => by subst ha; exact List.mem_cons_of_mem _ (hlb.2 _ _ _ rfl (by omega))) (by rw [hnp]; omega)).mono ?_
      rintro e w1 ⟨rfl, A1, K1, B1⟩
      have I2 := (I.switch (by omega) (by omega) (b := bs) ⟨by omega, by omega⟩ (by rw [hnp]; omega) (D' := D.more ((1 - W.half) * 6 + 0) (layP (W.e + 1) 0 bs)) rfl).2
      exact .inr (.inr ⟨rfl, by omega, ⟨_, _, _, _, A1.less (by simp), I2, rfl⟩, B1⟩)
theorem Sw.crash {o : Nat} {bs : Bs} {l : List Bool} {v : Value} (h : Sw B w d s x o bs) (hv : KB w v l) (hvB : ∀ a n c, v = .slice (some a) n c → 0 < l.length → a.block < B) :
    Calls Try.prog 18 #[.pointer (some ⟨d, 0, none⟩), v] w fun e w' => e = .returned (.tuple #[]) ∧ Sw B w' d s x o bs ∧ Below B w w' := by
  obtain ⟨D, W, u, e1, A, I, ho⟩ := h.ex
  have hwt : D.wait = [] := by rw [I.wait]; rfl
  refine (lg_crash A.disk hv hvB (by rw [hwt]; simp)).mono ?_
  rintro e w1 ⟨rfl, A1, K1, B1⟩
  exact ⟨rfl, ⟨_, W, u, e1, ⟨A1, A.wal.block (K1 x (by simp)), A.nx, A.bx⟩, I.crash_nil l, ho⟩, B1⟩
theorem Sw.opens {o : Nat} {bs : Bs} (h : Sw B w d s x o bs) : Calls Try.prog 35 #[.pointer (some ⟨d, 0, none⟩)] w fun e w' => ∃ x2 ua uc, e = .returned (.tuple #[.pointer (some ⟨x2, 0, none⟩), .slice ua 1 uc, .int .i64 0]) ∧ RL w' (.slice ua 1 uc) [bs] ∧
    (∀ W, Below w'.heap.size w' W → (Calls Try.prog 43 #[.pointer (some ⟨x2, 0, none⟩)] W fun e w' => e = .returned (.int .i64 (o : Int)) ∧ w' = W) ∧ (Calls Try.prog 43 #[.pointer (some ⟨x, 0, none⟩)] W fun e w' => e = .returned (.int .i64 (o : Int)) ∧ w' = W)) ∧ Below w.heap.size w w' := by
  obtain ⟨D, W, u, e1, A, I, ho⟩ := h.ex
  subst ho
  refine (open_inv (A.alone.less (by simp)) I (by omega) (by omega)).mono ?_
  rintro e w1 ⟨x2, ua, uc, rfl, hb, hr, B1, hx⟩
  exact ⟨x2, ua, uc, rfl, hr, fun W1 k => ⟨by have h := half43 (hb.below k); exact h, by have h := half43 ((A.wal.below B1).below k); exact h⟩, B1⟩
end Go.Proofs.Ytnganmekiloigaa
