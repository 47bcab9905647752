/- The reference's Key and Name. -/
import Derived.Test.YtkoagjfbhkhfkaaDoorSc
import Derived.Test.YtkoagjfbhkhfkaaDoorShelf
namespace Go.Proofs.YtkoagjfbhkhfkaaDoor
open Go.RowKit Go.Lib
/-- What the walks ask of the world: a number in bytealg.MaxLen. -/
structure Good (w : World) : Prop where
  mx : ∃ m, w.cell? ⟨0, 0, none⟩ = some (.int .i64 m)
theorem Good.below {w w' : World} (h : Good w) (b : Below w.heap.size w w') : Good w' :=
  ⟨by
    obtain ⟨m, hm⟩ := h.mx
    exact ⟨m, by rw [b.cell (World.block_lt_of_cell? _ _ hm)]; exact hm⟩⟩

/-- The key words in one text, as the reference has it. -/
def kwText : ByteArray := ⟨(([99, 114, 101, 97, 116, 101, 32, 116, 97, 98, 108, 101, 32, 105, 110, 116, 32, 116, 101, 120, 116, 32, 114, 101, 102, 101, 114, 101, 110, 99, 101, 115, 32, 105, 110, 115, 101, 114, 116, 32].append [105, 110, 116, 111, 32, 118, 97, 108, 117, 101, 115, 32, 102, 114, 111, 109, 32, 116, 111, 32, 117, 112, 100, 97, 116, 101, 32, 115, 101, 116, 32, 119, 104, 101, 114, 101, 32, 100, 101, 108]).append ([101, 116, 101, 32, 115, 101, 108, 101, 99, 116, 32, 105, 110, 32, 106, 111, 105, 110, 32, 111, 110, 32, 97, 115, 32, 111, 102, 32, 98, 101, 116, 119, 101, 101, 110, 32, 97, 110, 100, 32].append [111, 114, 100, 101, 114, 32, 98, 101, 103, 105, 110, 32, 99, 111, 109, 109, 105, 116, 32, 114, 111, 108, 108, 98, 97, 99, 107, 32, 112, 114, 117, 110, 101, 32, 111, 114, 32, 110, 111, 116])).toArray⟩

theorem kw_count : Lib.countB kwText ⟨#[32]⟩ = 28 := by kernel_rfl
theorem kw_split : Lib.splitB ⟨#[32]⟩ 0 28 kwText = words.map str := by kernel_rfl
theorem kw_size : kwText.size = 160 := by kernel_rfl

def kwCells : Array Value := (words.map fun x => Value.string (str x)).toArray

theorem split33 (w : World) (hg : Good w) :
    Calls Tryd.prog 49 #[.string kwText, .string ⟨#[32]⟩] w fun e w' => e = .returned (.slice (some ⟨w.heap.size, 0, none⟩) 29 29) ∧ w' = w.alloc (.cells kwCells 9) := by
  obtain ⟨m, hm⟩ := hg.mx
  have c := Tryd.strings_Split kwText ⟨#[32]⟩ m w (by rw [kw_size]; omega) hm (by decide)
  rw [kw_count, kw_split] at c
  refine c.mono ?_
  rintro e w' ⟨rfl, rfl⟩
  refine ⟨rfl, ?_⟩
  rw [List.map_map]; rfl

theorem kwCells_get (k : Nat) (h : k < 29) : kwCells[k]? = some (.string (str (words.getD k []))) := by
  have hl : words.length = 29 := rfl
  simp [kwCells, h, hl]

theorem key_upto (l : Bs) (h : ∀ j, j < 29 → words.getD j [] ≠ l) : keyR l = false := by
  cases hk : keyR l
  · rfl
  · have := List.contains_iff_mem.1 hk
    obtain ⟨j, hj, e⟩ := List.getElem_of_mem this
    have hl : words.length = 29 := rfl
    exact absurd (by simp [hj, e]) (h j (by omega))
theorem key_at (l : Bs) (k : Nat) (hk : k < 29) (h : words.getD k [] = l) : keyR l = true := by
  have hl : words.length = 29 := rfl
  apply List.contains_iff_mem.2
  have : words[k]? = some l := by rw [← h]; simp [hk, hl]
  exact List.mem_of_getElem? this


set_option maxRecDepth 100000 in
set_option maxHeartbeats 4000000 in
theorem key16 (s : ByteArray) (w : World) (hg : Good w) :
    Calls Tryd.prog 46 #[.string s] w fun e w' => e = .returned (.bool (keyR (bs s))) ∧ Below w.heap.size w w' := by
  have c33 := split33 w hg
  have hB : Below w.heap.size w (w.alloc (.cells kwCells 9)) := (Below.refl _ _).alloc (Nat.le_refl _) _
  have hcell : ∀ k, k < 29 → (w.alloc (.cells kwCells 9)).cell? ⟨w.heap.size, k, none⟩ = some (.string (str (words.getD k []))) := fun k hk => by
    rw [World.cell?_alloc_at _ _ _ _ rfl]; exact kwCells_get k hk
  generalize hw1 : w.alloc (.cells kwCells 9) = w1 at c33 hB hcell
  go_enter Tryd.func46, Tryd.ntmps46
  go_wp2_with (go_at_call 49; refine c33.mono ?_; rintro e w2 ⟨rfl, rfl⟩)
  go_loopw [4] (fun i wr => ∃ k : Nat, wr = w2 ∧ k ≤ 29 ∧ i = .int .i64 (k : Int) ∧ ∀ j, j < k → words.getD j [] ≠ bs s) (fun i _ => 29 - (Lib.intOf i).toNat)
  case atStart => exact ⟨0, rfl, Nat.zero_le _, rfl, fun j hj => absurd hj (Nat.not_lt_zero _)⟩
  case round =>
    obtain ⟨k, rfl, hk, rfl, hno⟩ := hrel
    by_cases hlt : k < 29
    · have hlz : (k : Int) < 29 := by omega
      have hc := hcell k hlt
      obtain ⟨x, hx⟩ : ∃ x, words.getD k [] = x := ⟨_, rfl⟩
      rw [hx] at hc
      have hadd : wrap64 ((k : Int) + 1) = (k : Int) + 1 := by rw [IntWalk.wrap64_in _ ⟨by omega, by omega⟩]
      have HX : Hid (words.getD k [] = x) := hx
      clear hx
      by_cases he : x = bs s
      · have hr := key_at (bs s) k hlt (HX.out.trans he)
        obtain rfl : str x = s := by rw [he, str_bs]
        have HR : Hid (keyR (bs (str x)) = true) := hr
        clear hr hcell hno he
        go_wp2
        go_ret
        exact ⟨by rw [show keyR (bs (str x)) = true from HR]; rfl, hB⟩
      · have hd : ((str x).data == s.data) = false := by
          rw [beq_eq_false_iff_ne]
          intro e
          exact he (by rw [← bs_str x]; unfold bs; rw [e])
        have hd2 : ((str x).toList == s.toList) = false := by
          rw [toList_data, toList_data, beq_eq_false_iff_ne]
          intro e
          exact he (by rw [← bs_str x]; exact e)
        obtain ⟨X, hX⟩ : ∃ X, str x = X := ⟨_, rfl⟩
        rw [hX] at hc hd hd2
        have HN : Hid (∀ j, j < k + 1 → words.getD j [] ≠ bs s) := fun j hj => by
          rcases Nat.lt_or_eq_of_le (Nat.le_of_lt_succ hj) with h | h
          · exact hno j h
          · rw [h, show words.getD k [] = x from HX]; exact he
        clear hX hno hcell
        go_wp2
        go_roundw
        case rel => exact ⟨k + 1, by trivial, by omega, by simp, HN⟩
        case measure =>
          simp [Lib.intOf]
          omega
    · have hlz : ¬ ((k : Int) < 29) := by omega
      have hr := key_upto (bs s) (fun j hj => hno j (by omega))
      have HR : Hid (keyR (bs s) = false) := hr
      clear hr hno hcell
      go_wp2
      go_ret
      exact ⟨by rw [show keyR (bs s) = false from HR]; rfl, hB⟩


theorem nameR_key {l : Bs} (h : keyR l = true) : nameR l = false := by simp [nameR, h]
theorem nameR_free {l : Bs} (h1 : 1 ≤ l.length) (h2 : l.length ≤ 8) (h : keyR l = false) : nameR l = nameFrom true l := by simp [nameR, h1, h2, h]

set_option maxRecDepth 100000 in
set_option maxHeartbeats 4000000 in
theorem name14 (s : ByteArray) (w : World) (hg : Good w) :
    Calls Tryd.prog 37 #[.string s] w fun e w' => e = .returned (.bool (nameR (bs s))) ∧ Below w.heap.size w w' := by
  by_cases h1 : s.size < 1
  · have z1 : (s.size : Int) < 1 := by omega
    have hr := nameR_len (l := bs s) (by rw [bs_length]; omega)
    rw [hr]
    go_enter Tryd.func37, Tryd.ntmps37
    go_wp2
    go_ret
    exact ⟨rfl, Below.refl _ _⟩
  · have z1 : ¬ ((s.size : Int) < 1) := by omega
    by_cases h8 : 8 < s.size
    · have z8 : (8 : Int) < (s.size : Int) := by omega
      have hr := nameR_len (l := bs s) (by rw [bs_length]; omega)
      rw [hr]
      go_enter Tryd.func37, Tryd.ntmps37
      go_wp2
      go_ret
      exact ⟨rfl, Below.refl _ _⟩
    · have z8 : ¬ ((8 : Int) < (s.size : Int)) := by omega
      have c16 := key16 s w hg
      cases hk : keyR (bs s)
      · rw [hk] at c16
        have hr := nameR_free (l := bs s) (by rw [bs_length]; omega) (by rw [bs_length]; omega) hk
        rw [hr]
        clear hr hk hg
        go_enter Tryd.func37, Tryd.ntmps37
        go_wp2_with (go_at_call 46; refine c16.mono ?_; rintro e w1 ⟨rfl, hB⟩)
        go_loopw [3] (fun i w' => ∃ pos : Nat, w' = w1 ∧ i = .int .i64 (pos : Int) ∧ pos ≤ s.size ∧ nameFrom true (bs s) = nameFrom (pos == 0) ((bs s).drop pos)) (fun i _ => s.size - (Lib.intOf i).toNat)
        case atStart => exact ⟨0, rfl, rfl, Nat.zero_le _, by simp⟩
        case round =>
          obtain ⟨pos, rfl, rfl, hps, hc⟩ := hrel
          by_cases hp : pos < s.size
          · have hpz : (pos : Int) < (s.size : Int) := by omega
            have hcons := rest_cons hp
            obtain ⟨b, hbb⟩ : ∃ b, s[pos]'hp = b := ⟨_, rfl⟩
            rw [hbb] at hcons
            rw [hcons] at hc
            clear hcons
            have hadd : wrap64 ((pos : Int) + 1) = (pos : Int) + 1 := by rw [IntWalk.wrap64_in _ ⟨by omega, by omega⟩]
            have hnext : (smallB b || (!(pos == 0) && (b.toNat == 95 || digitB b))) = true → Hid (nameFrom true (bs s) = nameFrom ((pos + 1) == 0) ((bs s).drop (pos + 1))) := fun h => hc.trans (nameFrom_ok h)
            have hstop : (smallB b || (!(pos == 0) && (b.toNat == 95 || digitB b))) = false → Hid (nameFrom true (bs s) = false) := fun h => hc.trans (nameFrom_bad h)
            have hsB : smallB b = (decide (97 ≤ b.toNat) && decide (b.toNat ≤ 122)) := rfl
            have hdB : digitB b = (decide (48 ≤ b.toNat) && decide (b.toNat ≤ 57)) := rfl
            rw [hsB, hdB] at hnext hstop
            clear hc hsB hdB
            by_cases a1 : 97 ≤ b.toNat ∧ b.toNat ≤ 122
            · have z97 : (97 : Int) ≤ (b.toNat : Int) := by omega
              have z122 : (b.toNat : Int) ≤ 122 := by omega
              have HN := hnext (by simp [a1.1, a1.2])
              clear hnext hstop
              go_wp2
              go_roundw
              case rel => exact ⟨pos + 1, by trivial, by simp, by omega, HN⟩
              case measure =>
                simp [Lib.intOf]
                omega
            · have a2 : (decide (97 ≤ b.toNat) && decide (b.toNat ≤ 122)) = false := by
                rw [← Bool.not_eq_true, Bool.and_eq_true, decide_eq_true_eq, decide_eq_true_eq]; exact a1
              rw [a2] at hnext hstop
              clear a2
              by_cases hp0 : pos = 0
              · have HN := hstop (by simp [hp0])
                subst hp0
                clear hnext hstop
                by_cases z97 : (97 : Int) ≤ (b.toNat : Int)
                · have z122 : ¬ ((b.toNat : Int) ≤ 122) := by omega
                  go_wp2
                  go_ret
                  exact ⟨by rw [show nameFrom true (bs s) = false from HN]; rfl, hB⟩
                · go_wp2
                  go_ret
                  exact ⟨by rw [show nameFrom true (bs s) = false from HN]; rfl, hB⟩
              · have hpz0 : ¬ ((pos : Int) = 0) := by omega
                have hpb : (pos == 0) = false := by simpa using hp0
                rw [hpb] at hnext hstop
                clear hpb
                by_cases z97 : (97 : Int) ≤ (b.toNat : Int)
                · have z122 : ¬ ((b.toNat : Int) ≤ 122) := by omega
                  have z95 : ((b.toNat : Int) != 95) = true := by simp; omega
                  have z48 : ¬ ((b.toNat : Int) < 48) := by omega
                  have z57 : (57 : Int) < (b.toNat : Int) := by omega
                  have HN := hstop (by simp; omega)
                  clear hnext hstop
                  go_wp2
                  go_ret
                  exact ⟨by rw [show nameFrom true (bs s) = false from HN]; rfl, hB⟩
                · by_cases h95 : b.toNat = 95
                  · have z95 : ((b.toNat : Int) != 95) = false := by simp; omega
                    have HN := hnext (by simp [h95])
                    clear hnext hstop h95
                    go_wp2
                    go_roundw
                    case rel => exact ⟨pos + 1, by trivial, by simp, by omega, HN⟩
                    case measure =>
                      simp [Lib.intOf]
                      omega
                  · have z95 : ((b.toNat : Int) != 95) = true := by simp; omega
                    by_cases h48 : b.toNat < 48
                    · have z48 : (b.toNat : Int) < 48 := by omega
                      have HN := hstop (by simp [h95]; omega)
                      clear hnext hstop
                      go_wp2
                      go_ret
                      exact ⟨by rw [show nameFrom true (bs s) = false from HN]; rfl, hB⟩
                    · have z48 : ¬ ((b.toNat : Int) < 48) := by omega
                      by_cases h57 : 57 < b.toNat
                      · have z57 : (57 : Int) < (b.toNat : Int) := by omega
                        have HN := hstop (by simp [h95]; omega)
                        clear hnext hstop
                        go_wp2
                        go_ret
                        exact ⟨by rw [show nameFrom true (bs s) = false from HN]; rfl, hB⟩
                      · have z57 : ¬ ((57 : Int) < (b.toNat : Int)) := by omega
                        have HN := hnext (by simp; omega)
                        clear hnext hstop
                        go_wp2
                        go_roundw
                        case rel => exact ⟨pos + 1, by trivial, by simp, by omega, HN⟩
                        case measure =>
                          simp [Lib.intOf]
                          omega
          · have hpz : ¬ ((pos : Int) < (s.size : Int)) := by omega
            rw [rest_nil hp] at hc
            have HN : Hid (nameFrom true (bs s) = true) := by rw [hc]; rfl
            clear hc
            go_wp2
            go_ret
            exact ⟨by rw [show nameFrom true (bs s) = true from HN]; rfl, hB⟩
      · rw [hk] at c16
        rw [nameR_key hk]
        go_enter Tryd.func37, Tryd.ntmps37
        go_wp2_with (go_at_call 46; refine c16.mono ?_; rintro e w1 ⟨rfl, hB⟩)
        go_ret
        exact ⟨rfl, hB⟩

end Go.Proofs.YtkoagjfbhkhfkaaDoor
