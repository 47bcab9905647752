/- What came in: bytes, deeds, texts; plain. -/
import Derived.Test.YtjgdcdeekpeenaaMb
namespace Go.Proofs.Ytjgdcdeekpeenaa
open Go.RowKit Go.Shelf
set_option maxRecDepth 100000
/-- Bytes that came in. -/
def InU (w : World) (v : Value) (l : List Nat) : Prop := ∃ a c, v = .slice a l.length c ∧ (0 < l.length → ∃ b o, a = some ⟨b, o, none⟩ ∧ b < w.heap.size ∧ ∀ (i x : Nat), l[i]? = some x → x < 256 ∧ w.cell? ⟨b, o + i, none⟩ = some (.int .u8 (x : Int)))
/-- A deed: its kind, who, a key, a number. -/
structure Dd where
  kind : Int
  id : Int
  key : ByteArray
  n : Int
/-- Deeds that came in. -/
def InD (w : World) (v : Value) (l : List Dd) : Prop := ∃ a c, v = .slice a l.length c ∧ (0 < l.length → ∃ b o, a = some ⟨b, o, none⟩ ∧ b < w.heap.size ∧ ∀ (i : Nat) (x : Dd), l[i]? = some x → x.key.size ≤ maxLen ∧ w.cell? ⟨b, o + i * 4, none⟩ = some (.int .i64 x.kind) ∧ w.cell? ⟨b, o + i * 4 + 1, none⟩ = some (.int .i64 x.id) ∧ w.cell? ⟨b, o + i * 4 + 2, none⟩ = some (.string x.key) ∧ w.cell? ⟨b, o + i * 4 + 3, none⟩ = some (.int .i64 x.n))
/-- Texts that came in. -/
def InT (w : World) (v : Value) (l : List ByteArray) : Prop := ∃ a c, v = .slice a l.length c ∧ (0 < l.length → ∃ b o, a = some ⟨b, o, none⟩ ∧ b < w.heap.size ∧ ∀ (i : Nat) (x : ByteArray), l[i]? = some x → x.size ≤ maxLen ∧ w.cell? ⟨b, o + i, none⟩ = some (.string x))
end Go.Proofs.Ytjgdcdeekpeenaa
