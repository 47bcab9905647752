/- The reference's Key. -/
import Derived.Test.YtipnaphikbjhbaaDoorKey
import Derived.Test.YtipnaphikbjhbaaDoorQuote
namespace Go.Proofs.YtipnaphikbjhbaaDoor
open Go.RowKit Go.Lib

/-- The key words in one text, as the reference has it. -/
def kwText : ByteArray := ⟨(([99, 114, 101, 97, 116, 101, 32, 116, 97, 98, 108, 101, 32, 105, 110, 116, 32, 116, 101, 120, 116, 32, 114, 101, 102, 101, 114, 101, 110, 99, 101, 115, 32, 105, 110, 115, 101, 114, 116, 32].append [105, 110, 116, 111, 32, 118, 97, 108, 117, 101, 115, 32, 102, 114, 111, 109, 32, 116, 111, 32, 117, 112, 100, 97, 116, 101, 32, 115, 101, 116, 32, 119, 104, 101, 114, 101, 32, 100, 101, 108]).append ([101, 116, 101, 32, 115, 101, 108, 101, 99, 116, 32, 105, 110, 32, 106, 111, 105, 110, 32, 111, 110, 32, 97, 115, 32, 111, 102, 32, 98, 101, 116, 119, 101, 101, 110, 32, 97, 110, 100, 32].append [111, 114, 100, 101, 114, 32, 98, 101, 103, 105, 110, 32, 99, 111, 109, 109, 105, 116, 32, 114, 111, 108, 108, 98, 97, 99, 107, 32, 112, 114, 117, 110, 101, 32, 111, 114, 32, 110, 111, 116])).toArray⟩

theorem kw_count : Lib.countB kwText ⟨#[32]⟩ = 28 := by kernel_rfl
theorem kw_split : Lib.splitB ⟨#[32]⟩ 0 28 kwText = words.map str := by kernel_rfl
theorem kw_size : kwText.size = 160 := by kernel_rfl

def kwCells : Array Value := (words.map fun x => Value.string (str x)).toArray

theorem split33 (w : World) (hg : Good w) :
    Calls Tryd.prog 73 #[.string kwText, .string ⟨#[32]⟩] w fun e w' => e = .returned (.slice (some ⟨w.heap.size, 0, none⟩) 29 29) ∧ w' = w.alloc (.cells kwCells 9) := by
  obtain ⟨m, hm⟩ := hg.mx
  have c := Tryd.strings_Split kwText ⟨#[32]⟩ m w (by rw [kw_size]; omega) hm (by decide)
  rw [kw_count, kw_split] at c
  refine c.mono ?_
  rintro e w' ⟨rfl, rfl⟩
  refine ⟨rfl, ?_⟩
  rw [List.map_map]; rfl

theorem kwCells_get (k : Nat) (h : k < 29) : kwCells[k]? = some (.string (str (words.getD k []))) := by
  have hl : words.length = 29 := rfl
  simp [kwCells, h, hl]

theorem key_upto (l : Bs) (h : ∀ j, j < 29 → words.getD j [] ≠ l) : keyR l = false := by
  cases hk : keyR l
  · rfl
  · have := List.contains_iff_mem.1 hk
    obtain ⟨j, hj, e⟩ := List.getElem_of_mem this
    have hl : words.length = 29 := rfl
    exact absurd (by simp [hj, e]) (h j (by omega))
theorem key_at (l : Bs) (k : Nat) (hk : k < 29) (h : words.getD k [] = l) : keyR l = true := by
  have hl : words.length = 29 := rfl
  apply List.contains_iff_mem.2
  have : words[k]? = some l := by rw [← h]; simp [hk, hl]
  exact List.mem_of_getElem? this

end Go.Proofs.YtipnaphikbjhbaaDoor
