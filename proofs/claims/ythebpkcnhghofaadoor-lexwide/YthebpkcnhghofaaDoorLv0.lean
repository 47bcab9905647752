/- Small facts for the law LexWide. -/
import Derived.Test.YthebpkcnhghofaaDoorLe
import Derived.Test.YthebpkcnhghofaaDoorLc
import Derived.Test.YthebpkcnhghofaaDoorLg
import Derived.BigQuiet
namespace Go.Proofs.YthebpkcnhghofaaDoor
open Go.RowKit Go.Lib Go.Joins
set_option maxRecDepth 100000

theorem wb_len (i : Nat) (c : UInt8) : (wb i c).length ≤ 3 := by unfold wb; split <;> simp
theorem wideB_len : ∀ (l : Bs) (i : Nat), (wideB i l).length ≤ 3 * l.length
  | [], _ => by simp [wideB]
  | c :: t, i => by
    have h1 := wideB_len t (i + 1)
    have h2 := wb_len i c
    rw [wideB, List.length_append, List.length_cons]
    omega
theorem brow_form {B : Nat} {v : Value} {l : Bs} {w : World} (h : BRow B v l w) : ∃ a c, v = .slice a l.length c := by
  rcases h.2 with ⟨e, h'⟩ | ⟨g, cap, cur, e, _⟩
  · rw [h']; exact ⟨_, _, e⟩
  · exact ⟨_, _, e⟩
theorem at2 (w : World) : ∀ j, j < ([9, 10] : Bs).length → (w.alloc (.cells #[.int .u8 9, .int .u8 10] 5)).cell? ((⟨w.heap.size, 0, none⟩ : Addr).add j) = some (.int .u8 ((([9, 10] : Bs).getD j 0).toNat : Int)) := by
  intro j hj
  rw [show (⟨w.heap.size, 0, none⟩ : Addr).add j = ⟨w.heap.size, j, none⟩ by unfold Addr.add; split <;> simp_all]
  rw [World.cell?_alloc_at _ _ _ _ rfl]
  match j, hj with
  | 0, _ => rfl
  | 1, _ => rfl
theorem at1 (w : World) (b : UInt8) : (w.alloc (.cells #[.int .u8 (b.toNat : Int)] 5)).cell? ⟨w.heap.size, 0, none⟩ = some (.int .u8 (b.toNat : Int)) := by
  rw [World.cell?_alloc_at _ _ _ _ rfl]; rfl

end Go.Proofs.YthebpkcnhghofaaDoor
