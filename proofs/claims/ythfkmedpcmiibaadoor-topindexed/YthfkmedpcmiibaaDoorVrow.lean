/- Slices of values: those that came in, and rows of the call's own. -/
import Derived.Test.YthfkmedpcmiibaaDoorRows2
namespace Go.Proofs.YthfkmedpcmiibaaDoor
open Go.RowKit Go.Lib

/-- A value: kind, number, text. -/
abbrev Vt := Int × Int × ByteArray
abbrev vv (x : Vt) : Value := V x.1 x.2.1 x.2.2
def okV (x : Vt) : Bool := rightV x.1 x.2.1 (bs x.2.2)
def bytesT (x : Vt) : Bs := bytesV x.1 x.2.1 (bs x.2.2)

/-- From this place on the cells hold these values. -/
def VAt (w : World) (b o : Nat) (l : List Vt) : Prop := ∀ i (x : Vt), l[i]? = some x → w.cell? ⟨b, o + i * 3, none⟩ = some (.int .u8 x.1) ∧ w.cell? ⟨b, o + i * 3 + 1, none⟩ = some (.int .i64 x.2.1) ∧ w.cell? ⟨b, o + i * 3 + 2, none⟩ = some (.string x.2.2)
/-- The slice v reads as these values. -/
def SV (w : World) (v : Value) (l : List Vt) : Prop := (∃ a c, v = .slice a 0 c ∧ l = []) ∨ (∃ b o c, v = .slice (some ⟨b, o, none⟩) l.length c ∧ 0 < l.length ∧ l.length ≤ c ∧ c ≤ maxLen ∧ VAt w b o l)

theorem VAt.below {w w' : World} {b o : Nat} {l : List Vt} (h : VAt w b o l) (hb : Below w.heap.size w w') : VAt w' b o l := fun i x hx => by
  obtain ⟨h0, h1, h2⟩ := h i x hx
  exact ⟨by rw [hb.cell (World.block_lt_of_cell? _ _ h0)]; exact h0, by rw [hb.cell (World.block_lt_of_cell? _ _ h1)]; exact h1, by rw [hb.cell (World.block_lt_of_cell? _ _ h2)]; exact h2⟩
theorem SV.below {w w' : World} {v : Value} {l : List Vt} (h : SV w v l) (hb : Below w.heap.size w w') : SV w' v l := by
  rcases h with h | ⟨b, o, c, h1, h2, h3, h4, h5⟩
  · exact .inl h
  · exact .inr ⟨b, o, c, h1, h2, h3, h4, h5.below hb⟩

/-- The cells of values. -/
def cellsV : List Vt → List Value
  | [] => []
  | x :: t => .int .u8 x.1 :: .int .i64 x.2.1 :: .string x.2.2 :: cellsV t
theorem cellsV_length : ∀ l : List Vt, (cellsV l).length = l.length * 3
  | [] => rfl
  | x :: t => by simp [cellsV, cellsV_length t]; omega
theorem cellsV_append : ∀ a b : List Vt, cellsV (a ++ b) = cellsV a ++ cellsV b
  | [], _ => rfl
  | x :: t, b => by simp [cellsV, cellsV_append t b]
theorem cellsV_at : ∀ (l : List Vt) (i : Nat) (x : Vt), l[i]? = some x → (cellsV l)[i * 3]? = some (.int .u8 x.1) ∧ (cellsV l)[i * 3 + 1]? = some (.int .i64 x.2.1) ∧ (cellsV l)[i * 3 + 2]? = some (.string x.2.2)
  | [], i, x, h => by simp at h
  | y :: t, 0, x, h => by
    simp at h
    subst h
    simp [cellsV]
  | y :: t, i + 1, x, h => by
    have ih := cellsV_at t i x (by simpa using h)
    rw [show (i + 1) * 3 = i * 3 + 3 by omega]
    simpa [cellsV] using ih
theorem cellsV_one (l : List Vt) : ∀ u ∈ cellsV l, u.oneCell' = true := by
  induction l with
  | nil => intro u hu; simp [cellsV] at hu
  | cons x t ih =>
    intro u hu
    simp only [cellsV, List.mem_cons] at hu
    rcases hu with rfl | rfl | rfl | hu
    · rfl
    · rfl
    · rfl
    · exact ih u hu

theorem info46 : (Tryd.prog.info? 56).map (fun i => (i.zero, i.size, i.bytes)) = some (some (.agg #[.int .u8 0, .int .i64 0, .string ⟨#[]⟩]), 3, 32) := by kernel_rfl
/-- The slice v is the call's own and holds just these values. -/
def VRow (B : Nat) (v : Value) (l : List Vt) (w : World) : Prop := w.ownsRow B 56 3 v l.length (cellsV l)
theorem VRow.nil (B : Nat) (w : World) : VRow B (.slice none 0 0) [] w := World.ownsRow_nil _ _ _ _
theorem VRow.below {B : Nat} {v : Value} {l : List Vt} {w w' : World} (h : VRow B v l w) (hb : Below w.heap.size w w') : VRow B v l w' := by
  obtain ⟨h1, h2 | ⟨g, cap, cur, rfl, hBg, hw, hn, hcap, hsz, htk⟩⟩ := h
  · exact ⟨h1, .inl h2⟩
  · refine ⟨h1, .inr ⟨g, cap, cur, rfl, hBg, ?_, hn, hcap, hsz, htk⟩⟩
    have hg : g < w.heap.size := (Array.getElem?_eq_some_iff.1 hw).1
    rw [hb.block g hg]; exact hw
theorem add_offv (b off i : Nat) : (⟨b, off, none⟩ : Addr).add i = ⟨b, off + i, none⟩ := by
  unfold Addr.add
  by_cases h : i = 0 <;> simp [h]
theorem VRow.sv {B : Nat} {v : Value} {l : List Vt} {w : World} (h : VRow B v l w) : SV w v l := by
  have h' := h
  obtain ⟨h1, ⟨rfl, h2⟩ | ⟨g, cap, cur, rfl, hBg, hw, hn, hcap, hsz, htk⟩⟩ := h
  · exact .inl ⟨_, _, rfl, List.eq_nil_of_length_eq_zero h2⟩
  · by_cases hl : 0 < l.length
    · refine .inr ⟨g, 0, cap, rfl, hl, hn, hcap, fun i x hx => ?_⟩
      obtain ⟨c0, c1, c2⟩ := cellsV_at l i x hx
      have k0 := World.ownsRow.cells h' (g := g) rfl _ _ c0
      have k1 := World.ownsRow.cells h' (g := g) rfl _ _ c1
      have k2 := World.ownsRow.cells h' (g := g) rfl _ _ c2
      rw [add_offv] at k0 k1 k2
      exact ⟨k0, by rw [Nat.add_assoc]; exact k1, by rw [Nat.add_assoc]; exact k2⟩
    · exact .inl ⟨_, cap, by rw [show l.length = 0 by omega], List.eq_nil_of_length_eq_zero (by omega)⟩

/-- append(v, x): one value behind a row of the call's own. -/
theorem push_val {w : World} {ops : Array Oper} {rest : List Oper} {o : Oper} {a : Act} {Q : Exit → Act → World → Prop} (hgd : o.guard = none) (s x : Operand)
    (ho : o.op = .call { callee := .builtin .append, args := #[s, x], argTypes := #[29, 29] }) (B : Nat) (v : Value) (l : List Vt) (y : Vt) (hs : a.eval s = v) (hown : VRow B v l w)
    (g : Nat) (hx : a.eval x = .slice (some ⟨g, 0, none⟩) 1 1) (hc : w.cell? ⟨g, 0, none⟩ = some (.int .u8 y.1) ∧ w.cell? ⟨g, 1, none⟩ = some (.int .i64 y.2.1) ∧ w.cell? ⟨g, 2, none⟩ = some (.string y.2.2))
    (hlen : l.length < 1000000) (hB : B ≤ w.heap.size)
    (h : ∀ v' w', VRow B v' (l ++ [y]) w' → w.grownBy w' v.ownBlock → wpList Tryd.prog ops Q rest (a.put o.dst v') w') : wpList Tryd.prog ops Q (o :: rest) a w := by
  obtain ⟨i0, hi, hz0, hz1, hz2⟩ := info_parts info46
  refine wpList_append_own _ hgd s x 29 ho B 56 i0 _ 3 32 Tryd.underlying29 hi hz0 hz1 hz2 rfl (by decide) v l.length (cellsV l) hs hown ⟨g, 0, none⟩ 1 1 (cellsV [y]) hx (by simp [cellsV]) ?_ (cellsV_one _) (by unfold maxLen; omega) (by omega) hB ?_
  · intro j u hj
    rw [add_offv, Nat.zero_add]
    match j, hj with
    | 0, hj => simp [cellsV] at hj; subst hj; exact hc.1
    | 1, hj => simp [cellsV] at hj; subst hj; exact hc.2.1
    | 2, hj => simp [cellsV] at hj; subst hj; exact hc.2.2
    | j + 3, hj => simp [cellsV] at hj
  · intro v' w' h1 h2 _
    refine h v' w' ?_ h2
    unfold VRow
    rw [show (l ++ [y]).length = l.length + 1 by simp, cellsV_append]
    exact h1

/-- A row of values stays where a row of bytes grows. -/
theorem VRow.kept {B : Nat} {v u : Value} {l : List Vt} {b : Bs} {w w' : World} (h : VRow B v l w) (hu : BRow B u b w) (hg : w.grownBy w' u.ownBlock) : VRow B v l w' := by
  obtain ⟨h1, h2 | ⟨g, cap, cur, rfl, hBg, hw, hn, hcap, hsz, htk⟩⟩ := h
  · exact ⟨h1, .inl h2⟩
  · refine ⟨h1, .inr ⟨g, cap, cur, rfl, hBg, ?_, hn, hcap, hsz, htk⟩⟩
    have hlt : g < w.heap.size := (Array.getElem?_eq_some_iff.1 hw).1
    rw [hg.block g hlt ?_]
    · exact hw
    · intro e
      obtain ⟨_, ⟨rfl, _⟩ | ⟨g', cap', cur', rfl, _, hw', _⟩⟩ := hu
      · simp [Value.ownBlock] at e
      · simp [Value.ownBlock] at e
        subst e
        rw [hw] at hw'
        simp at hw'
/-- A row of bytes stays where a row of values grows. -/
theorem BRow.kept {B : Nat} {v u : Value} {l : List Vt} {b : Bs} {w w' : World} (hu : BRow B u b w) (h : VRow B v l w) (hg : w.grownBy w' v.ownBlock) : BRow B u b w' := by
  obtain ⟨h1, h2 | ⟨g, cap, cur, rfl, hBg, hw, hn, hcap, hsz, htk⟩⟩ := hu
  · exact ⟨h1, .inl h2⟩
  · refine ⟨h1, .inr ⟨g, cap, cur, rfl, hBg, ?_, hn, hcap, hsz, htk⟩⟩
    have hlt : g < w.heap.size := (Array.getElem?_eq_some_iff.1 hw).1
    rw [hg.block g hlt ?_]
    · exact hw
    · intro e
      obtain ⟨_, ⟨rfl, _⟩ | ⟨g', cap', cur', rfl, _, hw', _⟩⟩ := h
      · simp [Value.ownBlock] at e
      · simp [Value.ownBlock] at e
        subst e
        rw [hw] at hw'
        simp at hw'
theorem growV {B : Nat} {w0 w w1 : World} {v : Value} {l : List Vt} (hb : Below B w0 w) (hown : VRow B v l w) (hg : w.grownBy w1 v.ownBlock) (hB : B ≤ w.heap.size) : Below B w0 w1 ∧ B ≤ w1.heap.size := by
  have h := hb.grown hg hB (fun k hk => (World.ownsRow.lt hown k hk).1)
  have hz : w.heap.size ≤ w1.heap.size := hg.size
  exact ⟨h, by omega⟩

end Go.Proofs.YthfkmedpcmiibaaDoor
