/- Rows of bytes of the call's own: append, and the text of them. -/
import Derived.Test.YtipnaphikbjhbaaDoorQuote
import Derived.Laws.BytesArg
import Derived.OwnWalk
import Derived.Lib.ConvBytes
namespace Go.Proofs.YtipnaphikbjhbaaDoor
open Go.RowKit Go.Lib

theorem info5 : (Tryd.prog.info? 5).map (fun i => (i.zero, i.size, i.bytes)) = some (some (.int .u8 0), 1, 1) := by kernel_rfl

/-- The cells of bytes. -/
def cellsB (l : Bs) : List Value := l.map fun b => Value.int .u8 (b.toNat : Int)
theorem cellsB_length (l : Bs) : (cellsB l).length = l.length := by simp [cellsB]
/-- The slice v is the call's own and holds just the bytes l. -/
def BRow (B : Nat) (v : Value) (l : Bs) (w : World) : Prop := w.ownsRow B 5 1 v l.length (cellsB l)
theorem BRow.alloc {B : Nat} {v : Value} {l : Bs} {w : World} (h : BRow B v l w) (o : Obj) : BRow B v l (w.alloc o) := World.ownsRow.alloc h o
theorem BRow.none (B : Nat) (w : World) : BRow B (.slice none 0 0) [] w := World.ownsRow_nil _ _ _ _

theorem push_below {B : Nat} {w0 wr w1 : World} {v : Value} {l : Bs} {o : Obj} (hb : Below B w0 wr) (hown : BRow B v l wr) (hg : (wr.alloc o).grownBy w1 v.ownBlock) (hB : B ≤ wr.heap.size) : Below B w0 w1 :=
  (hb.alloc hB o).grown hg (by simp; omega) (fun k hk => (World.ownsRow.lt hown k hk).1)

theorem push_own {w : World} {ops : Array Oper} {rest : List Oper} {o : Oper} {a : Act} {Q : Exit → Act → World → Prop} (hgd : o.guard = none) (s x : Operand)
    (ho : o.op = .call { callee := .builtin .append, args := #[s, x], argTypes := #[119, 119] }) (B : Nat) (v : Value) (l : Bs) (b : UInt8) (hs : a.eval s = v) (hown : BRow B v l w)
    (ad : Addr) (hx : a.eval x = .slice (some ad) 1 1) (hc : w.cell? ad = some (.int .u8 (b.toNat : Int))) (hlen : l.length < 1000000) (hB : B ≤ w.heap.size)
    (h : ∀ v' w', BRow B v' (l ++ [b]) w' → w.grownBy w' v.ownBlock → wpList Tryd.prog ops Q rest (a.put o.dst v') w') : wpList Tryd.prog ops Q (o :: rest) a w := by
  obtain ⟨i0, hi, hz0, hz1, hz2⟩ := info_parts info5
  refine wpList_append_own _ hgd s x 119 ho B 5 i0 (.int .u8 0) 1 1 Tryd.underlying119 hi hz0 hz1 hz2 rfl (by decide) v l.length (cellsB l) hs hown ad 1 1 [.int .u8 (b.toNat : Int)] hx rfl ?_ ?_ (by unfold maxLen; omega) (by omega) hB ?_
  · intro j u hj
    match j, hj with
    | 0, hj =>
      simp at hj
      subst hj
      simpa [Addr.add] using hc
  · intro u hu
    simp at hu
    subst hu
    rfl
  · intro v' w' h1 h2 _
    refine h v' w' ?_ h2
    unfold BRow
    rw [show (l ++ [b]).length = l.length + 1 by simp, show cellsB (l ++ [b]) = cellsB l ++ [.int .u8 (b.toNat : Int)] by simp [cellsB]]
    exact h1

theorem strOf_eq (l : Bs) : strOfNums (l.map fun b => (b.toNat : Int)) = str l := by
  unfold strOfNums str
  congr 2
  rw [List.map_map]
  conv => rhs; rw [← List.map_id l]
  apply List.map_congr_left
  intro b _
  simp

theorem conv_own {B : Nat} {v : Value} {l : Bs} {w : World} (h : BRow B v l w) : (convert 119 9 v).run Tryd.prog w = .ok (.string (str l)) w := by
  have h' := h
  obtain ⟨h1, ⟨rfl, h2⟩ | ⟨g, cap, cur, rfl, hBg, hw, hn, hcap, hsz, htk⟩⟩ := h
  · have : l = [] := List.eq_nil_of_length_eq_zero h2
    subst this
    exact run_convert_bytes_nil w 119 5 Tryd.underlying119 Tryd.underlying5 0 0 9 Tryd.underlying9
  · rw [← strOf_eq]
    refine run_convert_bytes_arg w 119 5 Tryd.underlying119 Tryd.underlying5 g 0 l.length cap _ (by simp) ?_ 9 Tryd.underlying9
    intro i hi
    have := World.ownsRow.cells h' (g := g) rfl i (.int .u8 ((l[i]).toNat : Int)) (by simp [cellsB, hi])
    rw [show ((⟨g, 0, none⟩ : Addr).add i) = ⟨g, 0 + i, none⟩ by unfold Addr.add; split <;> simp_all] at this
    rw [this]
    simp [hi]

theorem take_step {s : ByteArray} {k : Nat} (h : k < s.size) : (bs s).take (k + 1) = (bs s).take k ++ [s[k]'h] := by
  rw [List.take_succ_eq_append_getElem (by rw [bs_length]; exact h)]
  rfl
theorem fold_step {s : ByteArray} {k : Nat} (h : k < s.size) : foldR ((bs s).take (k + 1)) = foldR ((bs s).take k) ++ [foldB (s[k]'h)] := by
  rw [take_step h]; simp [foldR]

end Go.Proofs.YtipnaphikbjhbaaDoor
