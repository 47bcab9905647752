/- disk.Write of every sector and bytes; disk.New. -/
import Derived.Test.YtnganmekiloigaaWr
namespace Go.Proofs.Ytnganmekiloigaa
open Go.RowKit
set_option maxRecDepth 100000
variable {W : World} {d s : Nat} {wv : Value} {D : Dk}

/-- What a deed on the program's disk leaves. -/
def Left (W : World) (d s : Nat) (wv : Value) (D' : Dk) (w' : World) : Prop := ∃ wv', PD w' d s wv' D' ∧ Keep (foot d s wv) W w' ∧ (∀ k, foot d s wv' k → foot d s wv k ∨ W.heap.size ≤ k)
theorem Left.same {w' : World} {D' : Dk} (h : PD w' d s wv D') (hk : Keep (foot d s wv) W w') : Left W d s wv D' w' := ⟨wv, h, hk, fun _ h => .inl h⟩

set_option maxHeartbeats 1000000 in
theorem write22 (h : PD W d s wv D) (i : Int) (v : Value) (l : Bs) (hv : SB W v l) (hvf : ∀ a n c, v = .slice (some a) n c → 0 < l.length → ¬ foot d s wv a.block) (hw : D.wait.length ≤ 100000) :
    Calls Try.prog 22 #[.pointer (some ⟨d, 0, none⟩), .int .i64 i, v] W fun e w' => e = .returned (.int .i64 (D.write i l).1) ∧ Left W d s wv (D.write i l).2 w' := by
  obtain ⟨a, c, hve, _⟩ := hv.form
  unfold Dk.write
  by_cases hr : D.reach i = 0
  · by_cases hn : l.length ≤ 64
    · cases hsp : D.spend.1
      · have c53 := reach53 h i
        rw [hr] at c53
        have c55 := spend55 h
        rw [hsp] at c55
        simp only [hr, hn, if_true, Bool.false_eq_true, if_false]
        subst hve
        have hn' : ¬ ((64 : Int) < (l.length : Int)) := by omega
        clear hr hsp hv hvf h
        go_enter Try.func22, Try.ntmps22
        go_wp2_with (first
          | (go_at_call 53; (refine c53.mono ?_; rintro e w1 ⟨rfl, rfl⟩))
          | (go_at_call 55; (refine c55.mono ?_; rintro e w2 ⟨rfl, hp2, hk2⟩)))
        go_ret
        exact ⟨rfl, Left.same hp2 hk2⟩
      · have hri : 0 ≤ i ∧ i < (D.secs.length : Int) := by
          unfold Dk.reach at hr
          split at hr
          · omega
          · split at hr
            · assumption
            · omega
        obtain ⟨j, rfl⟩ := Int.eq_ofNat_of_zero_le hri.1
        have := write22_yes h j v l (by omega) hv hvf hn hw hr hsp
        simp only [hr, hn, if_true, Int.toNat_natCast]
        exact this
    · have c53 := reach53 h i
      rw [hr] at c53
      simp only [hr, hn, if_true, if_false]
      subst hve
      have hn' : (64 : Int) < (l.length : Int) := by omega
      clear hr hv hvf
      go_enter Try.func22, Try.ntmps22
      go_wp2_with (go_at_call 53; (refine c53.mono ?_; rintro e w1 ⟨rfl, rfl⟩))
      go_ret
      exact ⟨rfl, Left.same h (Keep.refl _ _)⟩
  · have c53 := reach53 h i
    simp only [hr, if_false]
    subst hve
    generalize D.reach i = E at *
    have hE : (E != 0) = true := by simpa using hr
    clear hr hv hvf
    go_enter Try.func22, Try.ntmps22
    go_wp2_with (go_at_call 53; (refine c53.mono ?_; rintro e w1 ⟨rfl, rfl⟩))
    go_ret
    exact ⟨rfl, Left.same h (Keep.refl _ _)⟩

/-! ### New -/
theorem new29_no (n : Int) (w : World) (h : n < 1 ∨ 128 < n) : Calls Try.prog 29 #[.int .i64 n] w fun e w' => e = .returned (.pointer none) ∧ w' = w := by
  rcases h with h | h
  · go_enter Try.func29, Try.ntmps29
    go_wp2
    go_ret
    exact ⟨rfl, rfl⟩
  · have h1 : ¬ n < 1 := by omega
    go_enter Try.func29, Try.ntmps29
    go_wp2
    go_ret
    exact ⟨rfl, rfl⟩

theorem info91z : (Try.prog.info? 91).map (fun i => (i.zero, i.size, i.bytes)) = some (some (.agg (cellsB Z64).toArray), 64, 64) := by kernel_rfl
theorem rep_getD (N k : Nat) : (List.replicate N (0 : UInt8)).getD k 0 = 0 := by
  rw [List.getD_eq_getElem?_getD, List.getElem?_replicate]
  split <;> rfl
theorem z64_get (k : Nat) (h : k < 64) : (cellsB Z64)[k]? = some (.int .u8 0) := by
  rw [cellsB_get Z64 k (by rw [Z64_length]; exact h)]
  unfold Z64
  rw [rep_getD]
  rfl
theorem made_get (n j : Nat) (hj : j < n * 64) : (madeCells (cellsB Z64).toArray (n * 64))[j]? = some (.int .u8 0) := by
  unfold madeCells
  have h64 : (cellsB Z64).toArray.size = 64 := by simp [cellsB_length, Z64_length]
  have hm : j % 64 < 64 := Nat.mod_lt _ (by decide)
  simp only [Array.getElem?_map, Array.getElem?_range, hj, if_true, Option.map_some, h64]
  rw [getElem!_pos _ _ (by rw [h64]; exact hm)]
  have := z64_get (j % 64) hm
  rw [← List.getElem?_toArray, Array.getElem?_eq_getElem (by rw [h64]; exact hm)] at this
  exact this
theorem secs_new (w : World) (n : Nat) {W : World} (h : W.heap[w.heap.size]? = some (.cells (madeCells (cellsB Z64).toArray (n * 64)) 91 (0, 0))) : Secs W w.heap.size (newDk n).secs := by
  have hc : ∀ j, j < n * 64 → W.cell? ⟨w.heap.size, j, none⟩ = some (.int .u8 0) := fun j hj => by
    simp only [World.cell?, h]
    exact made_get n j hj
  refine ⟨fun i x hx j v hv => ?_, fun i hi j hj => ?_⟩
  · have hi : i < n := by have := (List.getElem?_eq_some_iff.1 hx).1; simpa [newDk] using this
    have hxe : x = List.replicate 64 0 := by
      have := (List.getElem?_eq_some_iff.1 hx).2
      simp only [newDk, List.getElem_replicate] at this
      exact this.symm
    have hj : j < 64 := by
      have := (List.getElem?_eq_some_iff.1 hv).1
      rw [cellsB_length, hxe, List.length_replicate] at this
      exact this
    rw [hc _ (by omega)]
    rw [hxe, cellsB_get _ j (by rw [List.length_replicate]; exact hj)] at hv
    rw [← hv]
    rw [rep_getD]
    rfl
  · have hi' : i < n := by simpa [newDk] using hi
    refine ⟨by rw [hc _ (by omega)]; rfl, ?_⟩
    simp [World.frozen?, h]

set_option maxHeartbeats 1000000 in
theorem new29 (n : Nat) (w : World) (h1 : 1 ≤ n) (h2 : n ≤ 128) : Calls Try.prog 29 #[.int .i64 (n : Int)] w fun e w' => e = .returned (.pointer (some ⟨w.heap.size + 1, 0, none⟩)) ∧ PD w' (w.heap.size + 1) w.heap.size (.slice none 0 0) (newDk n) ∧ Below w.heap.size w w' := by
  have ha : ¬ ((n : Int) < 1) := by omega
  have hb : ¬ ((128 : Int) < (n : Int)) := by omega
  obtain ⟨i0, hi0, hz0, hz1, hz2⟩ := info_parts info91z
  have hmk := fun w => run_make (P := Try.prog) w 86 91 i0 _ Try.underlying86 hi0 hz0 .i64 .i64 (n : Int) (n : Int) (by omega) (Int.le_refl _) (by rw [hz2]; omega) (by omega)
  simp only [hz1] at hmk
  go_enter Try.func29, Try.ntmps29
  go_wp2
  go_ret
  refine ⟨rfl, ⟨?_, ?_, World.ownsRow_nil _ _ _ _, newDk_ok n, by omega, by simp [Value.ownBlock], by simp; omega⟩, bmore (al _ _) (al _ _)⟩
  · rw [show (newDk n).secs.length = n by simp [newDk], show (newDk n).cap = n from rfl]
    exact ⟨by simp, by simp, by simp [newDk], by simp [newDk], by simp [newDk], by simp, by simp, by simp, by simp, by simp⟩
  · exact secs_new w n (((al _ _).block w.heap.size (by simp)).trans (MapKept.heap_alloc w _).1)
end Go.Proofs.Ytnganmekiloigaa
