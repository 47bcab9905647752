/- value.Bytes of every value. -/
import Derived.Test.YthfkmedpcmiibaaDoorPut
import Derived.Test.YthfkmedpcmiibaaDoorRead
import Derived.Lib.AppendStr
namespace Go.Proofs.YthfkmedpcmiibaaDoor
open Go.RowKit Go.Lib

theorem strCells_eq (s : ByteArray) : strCells s = cellsB (bs s) := rfl

/-- append(v, s...): a text's bytes behind a row of the call's own. -/
theorem push_str {w : World} {ops : Array Oper} {rest : List Oper} {o : Oper} {a : Act} {Q : Exit → Act → World → Prop} (hgd : o.guard = none) (s x : Operand)
    (ho : o.op = .call { callee := .builtin .append, args := #[s, x], argTypes := #[25, 9] }) (B : Nat) (v : Value) (l : Bs) (hs : a.eval s = v) (hown : BRow B v l w)
    (t : ByteArray) (hx : a.eval x = .string t) (hlen : l.length + t.size ≤ 140737488355328) (hB : B ≤ w.heap.size)
    (h : ∀ v' w', BRow B v' (l ++ bs t) w' → w.grownBy w' v.ownBlock → wpList Tryd.prog ops Q rest (a.put o.dst v') w') : wpList Tryd.prog ops Q (o :: rest) a w := by
  obtain ⟨i0, hi, hz0, hz1, hz2⟩ := info_parts info5
  refine wpList_append_own_string _ hgd s x 25 9 ho B 5 i0 Tryd.underlying25 Tryd.underlying9 hi hz0 hz1 hz2 v l.length (cellsB l) hs hown t hx (by unfold maxLen; omega) hlen hB ?_
  intro v' w' h1 h2 _
  refine h v' w' ?_ h2
  unfold BRow
  rw [List.length_append, cellsB_append, bs_length, ← strCells_eq]
  exact h1

theorem grow2 {B : Nat} {w0 w w1 : World} {v : Value} {l : Bs} (hb : Below B w0 w) (hown : BRow B v l w) (hg : w.grownBy w1 v.ownBlock) (hB : B ≤ w.heap.size) : Below B w0 w1 ∧ B ≤ w1.heap.size := by
  have h := hb.grown hg hB (fun k hk => (World.ownsRow.lt hown k hk).1)
  have hz : w.heap.size ≤ w1.heap.size := hg.size
  exact ⟨h, by omega⟩

set_option maxRecDepth 100000 in
set_option maxHeartbeats 4000000 in
theorem bytes_text (s : ByteArray) (w : World) (hr : rightR (bs s) = true) (hg : Good w) :
    Calls Tryd.prog 14 #[V 2 0 s] w fun e w' => ∃ v, e = .returned (.tuple #[v, .int .i64 0]) ∧ BRow w.heap.size v (2 :: (bs s ++ [0])) w' ∧ Below w.heap.size w w' := by
  have hsz : s.size ≤ 32 := right_len hr
  have c12 : ∀ w1, Good w1 → Calls Tryd.prog 27 #[V 2 0 s] w1 fun e w' => e = .returned (.bool true) ∧ Below w1.heap.size w1 w' := fun w1 h => by
    have := rightv12 2 0 s w1 (by omega) h
    rw [rightV_text, hr] at this
    exact this
  obtain ⟨B, hB⟩ : ∃ B, w.heap.size = B := ⟨_, rfl⟩
  rw [hB]
  have hA : Below w.heap.size w (w.alloc (.cells #[.int .u8 2, .int .i64 0, .string s] 56)) := al _ _
  have hcell : ∀ w1, Below (w.alloc (.cells #[.int .u8 2, .int .i64 0, .string s] 56)).heap.size (w.alloc (.cells #[.int .u8 2, .int .i64 0, .string s] 56)) w1 →
      w1.cell? ⟨B, 0, none⟩ = some (.int .u8 2) ∧ w1.cell? ⟨B, 2, none⟩ = some (.string s) := fun w1 h => by
    rw [h.cell (p := ⟨B, 0, none⟩) (by simp [← hB]), h.cell (p := ⟨B, 2, none⟩) (by simp [← hB]), ← hB]
    exact ⟨World.cell?_alloc_at _ _ _ _ rfl, World.cell?_alloc_at _ _ _ _ rfl⟩
  go_enter Tryd.func14, Tryd.ntmps14
  go_wp2_with (first
    | (go_at_call 27; refine (c12 _ (hg.below hA)).mono ?_; rintro e w1 ⟨rfl, hb⟩; obtain ⟨hc0, hc1⟩ := hcell w1 hb; have hz1 : B + 1 ≤ w1.heap.size := by { have := hb.size; simp at this; omega }; have hc2 : ∀ o, (w1.alloc o).cell? ⟨B, 2, none⟩ = some (.string s) := fun o => by { rw [World.cell?_alloc_old _ _ _ (show B ≠ w1.heap.size by omega)]; exact hc1 })
    | (at_builtin; refine push_str rfl (.tmp 20) (.tmp 22) rfl B _ [2] rfl (brow_one (g := w1.heap.size) rfl (by omega) 2) s rfl (by simp; omega) (by simp; omega) ?_; intro v' w3 hown hgrow)
    | (at_builtin; refine push_own rfl (.tmp 24) (.tmp 25) rfl B _ ([2] ++ bs s) 0 rfl (hown.alloc _) ⟨w3.heap.size, 0, none⟩ rfl (by simp) (by simp; omega) (by simp; have := hgrow.size; simp at this; omega) ?_; intro v2 w4 hown2 hgrow2))
  go_ret2
  have h5 : Below B w w1 := hB ▸ bmore hA hb
  have h6 := grow2 (h5.alloc (by omega) _) (brow_one (g := w1.heap.size) rfl (by omega) 2) hgrow (by simp; omega)
  have h7 := grow2 (h6.1.alloc h6.2 _) (hown.alloc _) hgrow2 (by simp; omega)
  exact ⟨_, rfl, hown2, h7.1⟩

set_option maxRecDepth 100000 in
set_option maxHeartbeats 4000000 in
theorem bytes_no (k n : Int) (s : ByteArray) (w : World) (hs : s.size < 4611686018427387904) (hr : rightV k n (bs s) = false) (hg : Good w) :
    Calls Tryd.prog 14 #[V k n s] w fun e w' => e = .returned (.tuple #[.slice none 0 0, .int .i64 3]) ∧ Below w.heap.size w w' := by
  have c12 : ∀ w1, Good w1 → Calls Tryd.prog 27 #[V k n s] w1 fun e w' => e = .returned (.bool false) ∧ Below w1.heap.size w1 w' := fun w1 h => by
    have := rightv12 k n s w1 hs h
    rw [hr] at this
    exact this
  have hgo : ∀ o, Good (w.alloc o) := fun o => hg.below (al _ _)
  go_enter Tryd.func14, Tryd.ntmps14
  go_wp2_with (go_at_call 27; refine (c12 _ (hgo _)).mono ?_; rintro e w1 ⟨rfl, hb⟩)
  go_ret2
  exact ⟨rfl, bmore (al _ _) hb⟩

/-- value.Bytes of a value that can be. -/
theorem bytes_yes (k n : Int) (s : ByteArray) (w : World) (hn : inI64 n) (hr : rightV k n (bs s) = true) (hg : Good w) :
    Calls Tryd.prog 14 #[V k n s] w fun e w' => ∃ v, e = .returned (.tuple #[v, .int .i64 0]) ∧ BRow w.heap.size v (bytesV k n (bs s)) w' ∧ Below w.heap.size w w' := by
  rcases rightV_cases hr with ⟨rfl, hs⟩ | ⟨rfl, rfl, hs⟩
  · rw [bytesV_int]
    have e : s = ⟨#[]⟩ := by rw [← str_bs s, hs]
    subst e
    exact bytes_int n hn.1 hn.2 w hg
  · rw [bytesV_text]
    exact bytes_text s w hs hg

/-! ### the reference's -/
theorem byte_eq (U j : Nat) : (U : Int) / 2 ^ (8 * j) % 256 = ((UInt8.ofNat (U / 256 ^ j % 256)).toNat : Int) := by
  have h2 : (2 : Int) ^ (8 * j) = (((256 : Nat) ^ j : Nat) : Int) := by
    rw [show (256 : Nat) = 2 ^ 8 from rfl, ← Nat.pow_mul]
    exact (Int.natCast_pow 2 (8 * j)).symm
  rw [h2, UInt8.toNat_ofNat']
  generalize (256 : Nat) ^ j = m
  omega
theorem be8_take_step (u : Nat) (hu : u < 18446744073709551616) (k : Nat) (h : k < 8) : (be8 u).take (k + 1) = (be8 u).take k ++ [UInt8.ofNat (u / 256 ^ (7 - k) % 256)] := by
  have h7 : UInt8.ofNat (u / 256 / 256 / 256 / 256 / 256 / 256 / 256) = UInt8.ofNat (u / 256 / 256 / 256 / 256 / 256 / 256 / 256 % 256) := by
    congr 1; omega
  match k, h with
  | 0, _ => simp only [be8, h7]; simp [Nat.div_div_eq_div_mul]
  | 1, _ => simp [be8, Nat.div_div_eq_div_mul]
  | 2, _ => simp [be8, Nat.div_div_eq_div_mul]
  | 3, _ => simp [be8, Nat.div_div_eq_div_mul]
  | 4, _ => simp [be8, Nat.div_div_eq_div_mul]
  | 5, _ => simp [be8, Nat.div_div_eq_div_mul]
  | 6, _ => simp [be8, Nat.div_div_eq_div_mul]
  | 7, _ => simp [be8]

end Go.Proofs.YthfkmedpcmiibaaDoor
