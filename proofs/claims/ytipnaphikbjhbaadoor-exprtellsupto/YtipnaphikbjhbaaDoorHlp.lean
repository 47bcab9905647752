/- Slices of bytes that are read; rows of bytes; the result of a call. -/
import Derived.Test.YtipnaphikbjhbaaDoorVal
import Derived.Lib.AppendStr
namespace Go.Proofs.YtipnaphikbjhbaaDoor
open Go.RowKit Go.Lib

/-- From this place on the cells hold these bytes. -/
def At (w : World) (b o : Nat) (l : Bs) : Prop := ∀ i, i < l.length → w.cell? ⟨b, o + i, none⟩ = some (.int .u8 ((l.getD i 0).toNat : Int))
/-- The slice v reads as the bytes l. -/
def SB (w : World) (v : Value) (l : Bs) : Prop := (∃ a c, v = .slice a 0 c ∧ l = []) ∨ (∃ b o c, v = .slice (some ⟨b, o, none⟩) l.length c ∧ 0 < l.length ∧ l.length ≤ c ∧ c ≤ maxLen ∧ At w b o l)
theorem At.below {w w' : World} {b o : Nat} {l : Bs} (h : At w b o l) (hb : Below w.heap.size w w') : At w' b o l := fun i hi => by
  rw [hb.cell (World.block_lt_of_cell? _ _ (h i hi))]; exact h i hi
theorem SB.below {w w' : World} {v : Value} {l : Bs} (h : SB w v l) (hb : Below w.heap.size w w') : SB w' v l := by
  rcases h with h | ⟨b, o, c, h1, h2, h3, h4, h5⟩
  · exact .inl h
  · exact .inr ⟨b, o, c, h1, h2, h3, h4, h5.below hb⟩
theorem At.head {w : World} {b o : Nat} {x : UInt8} {l : Bs} (h : At w b o (x :: l)) : w.cell? ⟨b, o, none⟩ = some (.int .u8 (x.toNat : Int)) := by
  have := h 0 (by simp)
  simpa using this
theorem At.tail {w : World} {b o : Nat} {x : UInt8} {l : Bs} (h : At w b o (x :: l)) : At w b (o + 1) l := fun i hi => by
  have := h (i + 1) (by simp; omega)
  rw [List.getD_cons_succ, show o + (i + 1) = o + 1 + i by omega] at this
  exact this
theorem At.take {w : World} {b o : Nat} {l : Bs} (n : Nat) (h : At w b o l) : At w b o (l.take n) := fun i hi => by
  rw [List.length_take] at hi
  rw [h i (by omega)]
  simp [List.getD, show i < n by omega]
theorem At.drop {w : World} {b o : Nat} {l : Bs} (n : Nat) (h : At w b o l) : At w b (o + n) (l.drop n) := fun i hi => by
  rw [List.length_drop] at hi
  have := h (n + i) (by omega)
  rw [← Nat.add_assoc] at this
  rw [this]
  simp [List.getD]
theorem cellsB_append (a b : Bs) : cellsB (a ++ b) = cellsB a ++ cellsB b := by simp [cellsB]
theorem cellsB_get (l : Bs) (j : Nat) (h : j < l.length) : (cellsB l)[j]? = some (.int .u8 ((l.getD j 0).toNat : Int)) := by
  simp [cellsB, h]
/-- append(v, bytes...): the source's cells hold the bytes. -/
theorem push_all {w : World} {ops : Array Oper} {rest : List Oper} {o : Oper} {a : Act} {Q : Exit → Act → World → Prop} (hgd : o.guard = none) (s x : Operand)
    (ho : o.op = .call { callee := .builtin .append, args := #[s, x], argTypes := #[119, 119] }) (B : Nat) (v : Value) (l l2 : Bs) (hs : a.eval s = v) (hown : BRow B v l w)
    (ad : Addr) (c : Nat) (hx : a.eval x = .slice (some ad) l2.length c) (hc : ∀ j, j < l2.length → w.cell? (ad.add j) = some (.int .u8 ((l2.getD j 0).toNat : Int)))
    (hlen : l.length + l2.length < 1000000) (hB : B ≤ w.heap.size)
    (h : ∀ v' w', BRow B v' (l ++ l2) w' → w.grownBy w' v.ownBlock → wpList Tryd.prog ops Q rest (a.put o.dst v') w') : wpList Tryd.prog ops Q (o :: rest) a w := by
  obtain ⟨i0, hi, hz0, hz1, hz2⟩ := info_parts info5
  refine wpList_append_own _ hgd s x 119 ho B 5 i0 (.int .u8 0) 1 1 Tryd.underlying119 hi hz0 hz1 hz2 rfl (by decide) v l.length (cellsB l) hs hown ad l2.length c (cellsB l2) hx (by rw [cellsB_length]; omega) ?_ ?_ (by unfold maxLen; omega) (by omega) hB ?_
  · intro j u hj
    have hjl : j < l2.length := by
      have := (List.getElem?_eq_some_iff.1 hj).1
      rw [cellsB_length] at this; exact this
    rw [cellsB_get l2 j hjl] at hj
    rw [hc j hjl]; exact hj
  · intro u hu
    simp only [cellsB, List.mem_map] at hu
    obtain ⟨b, _, rfl⟩ := hu
    rfl
  · intro v' w' h1 h2 _
    refine h v' w' ?_ h2
    unfold BRow
    rw [List.length_append, cellsB_append]
    exact h1
/-- A new block of one byte is a row of the call's own. -/
theorem brow_one {B g : Nat} {w : World} (hg : w.heap.size = g) (hB : B ≤ w.heap.size) (b : UInt8) : BRow B (.slice (some ⟨g, 0, none⟩) 1 1) [b] (w.alloc (.cells #[.int .u8 (b.toNat : Int)] 5)) := by
  subst hg
  exact ⟨rfl, .inr ⟨w.heap.size, 1, #[.int .u8 (b.toNat : Int)], rfl, hB, (MapKept.heap_alloc w _).1, Nat.le_refl _, by unfold maxLen; omega, rfl, rfl⟩⟩
theorem conv_at {b o c : Nat} {l : Bs} {w : World} (hat : At w b o l) : (convert 119 9 (.slice (some ⟨b, o, none⟩) l.length c)).run Tryd.prog w = .ok (.string (str l)) w := by
  rw [← strOf_eq]
  exact run_convert_bytes_arg w 119 5 Tryd.underlying119 Tryd.underlying5 b o l.length c _ (by simp) (fun i hi => by rw [hat i hi]; simp [List.getD, hi]) 9 Tryd.underlying9
theorem bcell {W w1 : World} (hb : Below W.heap.size W w1) : (∀ b o, b < W.heap.size → w1.cell? ⟨b, o, none⟩ = W.cell? ⟨b, o, none⟩) ∧ (∀ b o, b < W.heap.size → w1.frozen? ⟨b, o, none⟩ = W.frozen? ⟨b, o, none⟩) :=
  ⟨fun b o h => hb.cell (p := ⟨b, o, none⟩) h, fun b o h => hb.frozen (p := ⟨b, o, none⟩) h⟩
theorem al (w : World) (o : Obj) : Below w.heap.size w (w.alloc o) := (Below.refl _ _).alloc (Nat.le_refl _) o
theorem conv_n {b o c n : Nat} {l : Bs} {w : World} (hl : Hid (l.length = n)) (hat : At w b o l) : (convert 119 9 (.slice (some ⟨b, o, none⟩) n c)).run Tryd.prog w = .ok (.string (str l)) w := by
  have := conv_at (c := c) hat
  rw [hl.out] at this
  exact this
/-- The result's block as it was laid, and what becomes of it. -/
theorem res_cells {w w1 w2 : World} {o o' : Obj} (h1 : Below (w.alloc o).heap.size (w.alloc o) w1) (h2 : Below (w1.alloc o').heap.size (w1.alloc o') w2) (i : Nat) :
    w2.cell? ⟨w.heap.size, i, none⟩ = (w.alloc o).cell? ⟨w.heap.size, i, none⟩ ∧ w2.frozen? ⟨w.heap.size, i, none⟩ = (w.alloc o).frozen? ⟨w.heap.size, i, none⟩ := by
  have hz := h1.size
  simp at hz
  have b1 : Below (w.alloc o).heap.size (w.alloc o) (w1.alloc o') := h1.alloc (by simp; omega) o'
  have b2 := bmore b1 h2
  exact ⟨b2.cell (p := ⟨w.heap.size, i, none⟩) (by simp), b2.frozen (p := ⟨w.heap.size, i, none⟩) (by simp)⟩
theorem two_below {w w1 w2 : World} {o o' : Obj} (h1 : Below (w.alloc o).heap.size (w.alloc o) w1) (h2 : Below (w1.alloc o').heap.size (w1.alloc o') w2) : Below w.heap.size w w2 :=
  bmore (bmore (bmore (al w o) h1) (al w1 o')) h2
/-- What was laid last, behind a call. -/
theorem new_cells {w1 w2 : World} {o' : Obj} (h2 : Below (w1.alloc o').heap.size (w1.alloc o') w2) (i : Nat) :
    w2.cell? ⟨w1.heap.size, i, none⟩ = (w1.alloc o').cell? ⟨w1.heap.size, i, none⟩ ∧ w2.frozen? ⟨w1.heap.size, i, none⟩ = (w1.alloc o').frozen? ⟨w1.heap.size, i, none⟩ :=
  ⟨h2.cell (p := ⟨w1.heap.size, i, none⟩) (by simp), h2.frozen (p := ⟨w1.heap.size, i, none⟩) (by simp)⟩
theorem set3 {w W : World} (h : Below w.heap.size w W) (x0 x1 x2 : Value) : Below w.heap.size w (((W.setCell ⟨w.heap.size, 0, none⟩ x0).setCell ⟨w.heap.size, 1, none⟩ x1).setCell ⟨w.heap.size, 2, none⟩ x2) :=
  ((h.setCell (Nat.le_refl _) x0).setCell (Nat.le_refl _) x1).setCell (Nat.le_refl _) x2
theorem strCells_eq (s : ByteArray) : strCells s = cellsB (bs s) := rfl
/-- append(v, s...): a text's bytes behind a row of the call's own. -/
theorem push_str {w : World} {ops : Array Oper} {rest : List Oper} {o : Oper} {a : Act} {Q : Exit → Act → World → Prop} (hgd : o.guard = none) (s x : Operand)
    (ho : o.op = .call { callee := .builtin .append, args := #[s, x], argTypes := #[119, 9] }) (B : Nat) (v : Value) (l : Bs) (hs : a.eval s = v) (hown : BRow B v l w)
    (t : ByteArray) (hx : a.eval x = .string t) (hlen : l.length + t.size ≤ 140737488355328) (hB : B ≤ w.heap.size)
    (h : ∀ v' w', BRow B v' (l ++ bs t) w' → w.grownBy w' v.ownBlock → wpList Tryd.prog ops Q rest (a.put o.dst v') w') : wpList Tryd.prog ops Q (o :: rest) a w := by
  obtain ⟨i0, hi, hz0, hz1, hz2⟩ := info_parts info5
  refine wpList_append_own_string _ hgd s x 119 9 ho B 5 i0 Tryd.underlying119 Tryd.underlying9 hi hz0 hz1 hz2 v l.length (cellsB l) hs hown t hx (by unfold maxLen; omega) hlen hB ?_
  intro v' w' h1 h2 _
  refine h v' w' ?_ h2
  unfold BRow
  rw [List.length_append, cellsB_append, bs_length, ← strCells_eq]
  exact h1
theorem grow2 {B : Nat} {w0 w w1 : World} {v : Value} {l : Bs} (hb : Below B w0 w) (hown : BRow B v l w) (hg : w.grownBy w1 v.ownBlock) (hB : B ≤ w.heap.size) : Below B w0 w1 ∧ B ≤ w1.heap.size := by
  have h := hb.grown hg hB (fun k hk => (World.ownsRow.lt hown k hk).1)
  have hz : w.heap.size ≤ w1.heap.size := hg.size
  exact ⟨h, by omega⟩
/-! ### the reference's -/
theorem byte_eq (U j : Nat) : (U : Int) / 2 ^ (8 * j) % 256 = ((UInt8.ofNat (U / 256 ^ j % 256)).toNat : Int) := by
  have h2 : (2 : Int) ^ (8 * j) = (((256 : Nat) ^ j : Nat) : Int) := by
    rw [show (256 : Nat) = 2 ^ 8 from rfl, ← Nat.pow_mul]
    exact (Int.natCast_pow 2 (8 * j)).symm
  rw [h2, UInt8.toNat_ofNat']
  generalize (256 : Nat) ^ j = m
  omega
end Go.Proofs.YtipnaphikbjhbaaDoor
