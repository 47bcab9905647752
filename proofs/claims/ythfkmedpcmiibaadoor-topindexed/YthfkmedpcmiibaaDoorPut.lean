/- Many bytes appended to a row of the call's own; value.Bytes of a number. -/
import Derived.Test.YthfkmedpcmiibaaDoorHigh
namespace Go.Proofs.YthfkmedpcmiibaaDoor
open Go.RowKit Go.Lib

theorem cellsB_append (a b : Bs) : cellsB (a ++ b) = cellsB a ++ cellsB b := by simp [cellsB]
theorem cellsB_get (l : Bs) (j : Nat) (h : j < l.length) : (cellsB l)[j]? = some (.int .u8 ((l.getD j 0).toNat : Int)) := by
  simp [cellsB, h]

/-- append(v, bytes...): the source's cells hold the bytes. -/
theorem push_all {w : World} {ops : Array Oper} {rest : List Oper} {o : Oper} {a : Act} {Q : Exit → Act → World → Prop} (hgd : o.guard = none) (s x : Operand)
    (ho : o.op = .call { callee := .builtin .append, args := #[s, x], argTypes := #[25, 25] }) (B : Nat) (v : Value) (l l2 : Bs) (hs : a.eval s = v) (hown : BRow B v l w)
    (ad : Addr) (c : Nat) (hx : a.eval x = .slice (some ad) l2.length c) (hc : ∀ j, j < l2.length → w.cell? (ad.add j) = some (.int .u8 ((l2.getD j 0).toNat : Int)))
    (hlen : l.length + l2.length < 1000000) (hB : B ≤ w.heap.size)
    (h : ∀ v' w', BRow B v' (l ++ l2) w' → w.grownBy w' v.ownBlock → wpList Tryd.prog ops Q rest (a.put o.dst v') w') : wpList Tryd.prog ops Q (o :: rest) a w := by
  obtain ⟨i0, hi, hz0, hz1, hz2⟩ := info_parts info5
  refine wpList_append_own _ hgd s x 25 ho B 5 i0 (.int .u8 0) 1 1 Tryd.underlying25 hi hz0 hz1 hz2 rfl (by decide) v l.length (cellsB l) hs hown ad l2.length c (cellsB l2) hx (by rw [cellsB_length]; omega) ?_ ?_ (by unfold maxLen; omega) (by omega) hB ?_
  · intro j u hj
    have hjl : j < l2.length := by
      have := (List.getElem?_eq_some_iff.1 hj).1
      rw [cellsB_length] at this; exact this
    rw [cellsB_get l2 j hjl] at hj
    rw [hc j hjl]; exact hj
  · intro u hu
    simp only [cellsB, List.mem_map] at hu
    obtain ⟨b, _, rfl⟩ := hu
    rfl
  · intro v' w' h1 h2 _
    refine h v' w' ?_ h2
    unfold BRow
    rw [List.length_append, cellsB_append]
    exact h1

/-- A new block of one byte is a row of the call's own. -/
theorem brow_one {B g : Nat} {w : World} (hg : w.heap.size = g) (hB : B ≤ w.heap.size) (b : UInt8) : BRow B (.slice (some ⟨g, 0, none⟩) 1 1) [b] (w.alloc (.cells #[.int .u8 (b.toNat : Int)] 5)) := by
  subst hg
  exact ⟨rfl, .inr ⟨w.heap.size, 1, #[.int .u8 (b.toNat : Int)], rfl, hB, (MapKept.heap_alloc w _).1, Nat.le_refl _, by unfold maxLen; omega, rfl, rfl⟩⟩

theorem be8_block (U : Nat) (hU : U < 18446744073709551616) (w : World) (o : Obj) (j : Nat) (hj : j < (be8 U).length) :
    ((w.alloc (.cells #[.int .u8 ((U : Int) / 256 / 256 / 256 / 256 / 256 / 256 / 256), .int .u8 ((U : Int) / 256 / 256 / 256 / 256 / 256 / 256 % 256), .int .u8 ((U : Int) / 256 / 256 / 256 / 256 / 256 % 256), .int .u8 ((U : Int) / 256 / 256 / 256 / 256 % 256), .int .u8 ((U : Int) / 256 / 256 / 256 % 256), .int .u8 ((U : Int) / 256 / 256 % 256), .int .u8 ((U : Int) / 256 % 256), .int .u8 ((U : Int) % 256)] 79)).alloc o).cell? ((⟨w.heap.size, 0, none⟩ : Addr).add j) = some (.int .u8 (((be8 U).getD j 0).toNat : Int)) := by
  rw [show (#[.int .u8 ((U : Int) / 256 / 256 / 256 / 256 / 256 / 256 / 256), .int .u8 ((U : Int) / 256 / 256 / 256 / 256 / 256 / 256 % 256), .int .u8 ((U : Int) / 256 / 256 / 256 / 256 / 256 % 256), .int .u8 ((U : Int) / 256 / 256 / 256 / 256 % 256), .int .u8 ((U : Int) / 256 / 256 / 256 % 256), .int .u8 ((U : Int) / 256 / 256 % 256), .int .u8 ((U : Int) / 256 % 256), .int .u8 ((U : Int) % 256)] : Array Value) = (cellsB (be8 U)).toArray by rw [be8_cells U hU]]
  rw [show (⟨w.heap.size, 0, none⟩ : Addr).add j = ⟨w.heap.size, j, none⟩ by unfold Addr.add; split <;> simp_all]
  rw [World.cell?_alloc_old _ _ _ (by simp), World.cell?_alloc_at _ _ _ _ rfl, List.getElem?_toArray]
  exact cellsB_get _ _ hj

set_option maxRecDepth 100000 in
set_option maxHeartbeats 4000000 in
theorem bytes_int (n : Int) (h1 : -9223372036854775808 ≤ n) (h2 : n ≤ 9223372036854775807) (w : World) (hg : Good w) :
    Calls Tryd.prog 14 #[V 1 n ⟨#[]⟩] w fun e w' => ∃ v, e = .returned (.tuple #[v, .int .i64 0]) ∧ BRow w.heap.size v (1 :: be8 (n + 9223372036854775808).toNat) w' ∧ Below w.heap.size w w' := by
  obtain ⟨U, hU⟩ : ∃ U : Nat, n + 9223372036854775808 = (U : Int) := ⟨(n + 9223372036854775808).toNat, by omega⟩
  have hUn : (n + 9223372036854775808).toNat = U := by omega
  rw [hUn]
  have hUb : U < 18446744073709551616 := by omega
  have c12 : ∀ w1, Good w1 → Calls Tryd.prog 27 #[V 1 n ⟨#[]⟩] w1 fun e w' => e = .returned (.bool true) ∧ Below w1.heap.size w1 w' := fun w1 h => by
    have := rightv12 1 n ⟨#[]⟩ w1 (by decide) h
    rw [rightV_int] at this
    exact this
  have c37 := high37 U hUb
  obtain ⟨B, hB⟩ : ∃ B, w.heap.size = B := ⟨_, rfl⟩
  rw [hB]
  have hA : Below w.heap.size w (w.alloc (.cells #[.int .u8 1, .int .i64 n, .string ⟨#[]⟩] 56)) := (Below.refl _ _).alloc (Nat.le_refl _) _
  have hcell : ∀ w1, Below (w.alloc (.cells #[.int .u8 1, .int .i64 n, .string ⟨#[]⟩] 56)).heap.size (w.alloc (.cells #[.int .u8 1, .int .i64 n, .string ⟨#[]⟩] 56)) w1 →
      w1.cell? ⟨B, 0, none⟩ = some (.int .u8 1) ∧ w1.cell? ⟨B, 1, none⟩ = some (.int .i64 n) := fun w1 h => by
    rw [h.cell (p := ⟨B, 0, none⟩) (by simp [← hB]), h.cell (p := ⟨B, 1, none⟩) (by simp [← hB]), ← hB]
    exact ⟨World.cell?_alloc_at _ _ _ _ rfl, World.cell?_alloc_at _ _ _ _ rfl⟩
  have hwU : IntKind.u64.wrap (IntKind.u64.wrap n + 9223372036854775808) = (U : Int) := by
    simp [IntKind.wrap, IntKind.bits, IntKind.signed]; omega
  go_enter Tryd.func14, Tryd.ntmps14
  go_wp2_with (first
    | (go_at_call 27; refine (c12 _ (hg.below hA)).mono ?_; rintro e w1 ⟨rfl, hb⟩; obtain ⟨hc0, hc1⟩ := hcell w1 hb)
    | (go_at_call 29; refine (c37 _).mono ?_; rintro e w2 ⟨rfl, hb2⟩; have hw2 : B ≤ w2.heap.size := by have h3 := hb.size; have h4 := hb2.size; simp at h3; omega)
    | (at_builtin; refine push_all rfl (.tmp 17) (.tmp 18) rfl B _ [1] (be8 U) rfl (brow_one (g := w2.heap.size + 1) (by simp) (by simp; omega) 1) ⟨w2.heap.size, 0, none⟩ 8 rfl (fun j hj => be8_block U hUb w2 _ j hj) (by simp [be8]) (by simp; omega) ?_; intro v' w3 hown hgrow))
  go_ret2
  have h5 : Below B w w2 := hB ▸ bmore (bmore hA hb) hb2
  exact ⟨_, rfl, hown, ((h5.alloc hw2 _).alloc (by simp; omega) _).grown hgrow (by simp; omega) (fun k hk => by have hk' : w2.heap.size + 1 = k := Option.some.inj hk; omega)⟩

end Go.Proofs.YthfkmedpcmiibaaDoor
