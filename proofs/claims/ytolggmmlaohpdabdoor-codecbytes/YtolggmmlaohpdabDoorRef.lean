/- The reference's Bytes of every value, and its Read. -/
import Derived.Test.YtolggmmlaohpdabDoorByt
namespace Go.Proofs.YtolggmmlaohpdabDoor
open Go.RowKit Go.Lib

set_option maxRecDepth 100000 in
set_option maxHeartbeats 4000000 in
theorem bytes22_text (s : ByteArray) (w : World) (hr : rightR (bs s) = true) (hg : Good w) :
    Calls Tryd.prog 36 #[V 2 0 s] w fun e w' => ∃ v, e = .returned (.tuple #[v, .int .i64 0]) ∧ BRow w.heap.size v (2 :: (bs s ++ [0])) w' ∧ Below w.heap.size w w' := by
  have hsz : s.size ≤ 32 := right_len hr
  have c13 : ∀ w1, Good w1 → Calls Tryd.prog 29 #[V 2 0 s] w1 fun e w' => e = .returned (.bool true) ∧ Below w1.heap.size w1 w' := fun w1 h => by
    have := rightv13 2 0 s w1 (by omega) h
    rw [rightV_text, hr] at this
    exact this
  obtain ⟨B, hB⟩ : ∃ B, w.heap.size = B := ⟨_, rfl⟩
  rw [hB]
  have hA : Below w.heap.size w (w.alloc (.cells #[.int .u8 2, .int .i64 0, .string s] 46)) := al _ _
  have hcell : ∀ w1, Below (w.alloc (.cells #[.int .u8 2, .int .i64 0, .string s] 46)).heap.size (w.alloc (.cells #[.int .u8 2, .int .i64 0, .string s] 46)) w1 →
      w1.cell? ⟨B, 0, none⟩ = some (.int .u8 2) ∧ w1.cell? ⟨B, 2, none⟩ = some (.string s) := fun w1 h => by
    rw [h.cell (p := ⟨B, 0, none⟩) (by simp [← hB]), h.cell (p := ⟨B, 2, none⟩) (by simp [← hB]), ← hB]
    exact ⟨World.cell?_alloc_at _ _ _ _ rfl, World.cell?_alloc_at _ _ _ _ rfl⟩
  go_enter Tryd.func36, Tryd.ntmps36
  go_wp2_with (first
    | (go_at_call 29; refine (c13 _ (hg.below hA)).mono ?_; rintro e w1 ⟨rfl, hb⟩; obtain ⟨hc0, hc1⟩ := hcell w1 hb; have hz1 : B + 1 ≤ w1.heap.size := by { have := hb.size; simp at this; omega }; have hc2 : ∀ o, (w1.alloc o).cell? ⟨B, 2, none⟩ = some (.string s) := fun o => by { rw [World.cell?_alloc_old _ _ _ (show B ≠ w1.heap.size by omega)]; exact hc1 })
    | (at_builtin; refine push_str rfl (.tmp 13) (.tmp 15) rfl B _ [2] rfl (brow_one (g := w1.heap.size) rfl (by omega) 2) s rfl (by simp; omega) (by simp; omega) ?_; intro v' w3 hown hgrow)
    | (at_builtin; refine push_own rfl (.tmp 16) (.tmp 17) rfl B _ ([2] ++ bs s) 0 rfl (hown.alloc _) ⟨w3.heap.size, 0, none⟩ rfl (by simp) (by simp; omega) (by simp; have := hgrow.size; simp at this; omega) ?_; intro v2 w4 hown2 hgrow2))
  go_ret2
  have h5 : Below B w w1 := hB ▸ bmore hA hb
  have h6 := grow2 (h5.alloc (by omega) _) (brow_one (g := w1.heap.size) rfl (by omega) 2) hgrow (by simp; omega)
  have h7 := grow2 (h6.1.alloc h6.2 _) (hown.alloc _) hgrow2 (by simp; omega)
  exact ⟨_, rfl, hown2, h7.1⟩

set_option maxRecDepth 100000 in
set_option maxHeartbeats 4000000 in
theorem bytes22_no (k n : Int) (s : ByteArray) (w : World) (hs : s.size < 4611686018427387904) (hr : rightV k n (bs s) = false) (hg : Good w) :
    Calls Tryd.prog 36 #[V k n s] w fun e w' => e = .returned (.tuple #[.slice none 0 0, .int .i64 3]) ∧ Below w.heap.size w w' := by
  have c13 : ∀ w1, Good w1 → Calls Tryd.prog 29 #[V k n s] w1 fun e w' => e = .returned (.bool false) ∧ Below w1.heap.size w1 w' := fun w1 h => by
    have := rightv13 k n s w1 hs h
    rw [hr] at this
    exact this
  have hgo : ∀ o, Good (w.alloc o) := fun o => hg.below (al _ _)
  go_enter Tryd.func36, Tryd.ntmps36
  go_wp2_with (go_at_call 29; refine (c13 _ (hgo _)).mono ?_; rintro e w1 ⟨rfl, hb⟩)
  go_ret2
  exact ⟨rfl, bmore (al _ _) hb⟩

theorem bytes22_yes (k n : Int) (s : ByteArray) (w : World) (hn : inI64 n) (hr : rightV k n (bs s) = true) (hg : Good w) :
    Calls Tryd.prog 36 #[V k n s] w fun e w' => ∃ v, e = .returned (.tuple #[v, .int .i64 0]) ∧ BRow w.heap.size v (bytesV k n (bs s)) w' ∧ Below w.heap.size w w' := by
  rcases rightV_cases hr with ⟨rfl, hs⟩ | ⟨rfl, rfl, hs⟩
  · rw [bytesV_int]
    have e : s = ⟨#[]⟩ := by rw [← str_bs s, hs]
    subst e
    exact bytes22_int n hn w hg
  · rw [bytesV_text]
    exact bytes22_text s w hs hg

/-! ### its Read -/
set_option maxRecDepth 100000 in
set_option maxHeartbeats 4000000 in
theorem read24_nil (a : Option Addr) (c : Nat) (w : World) :
    Calls Tryd.prog 40 #[.slice a 0 c] w fun e w' => e = .returned (.tuple #[V 0 0 ⟨#[]⟩, .int .i64 0, .int .i64 3]) ∧ Below w.heap.size w w' := by
  go_enter Tryd.func40, Tryd.ntmps40
  go_wp2
  exact bodyPost_ret (v := .tuple #[V 0 0 ⟨#[]⟩, .int .i64 0, .int .i64 3]) (by simp [results, Tryd.results40, go_sem]) rfl ⟨rfl, al _ _⟩

set_option maxRecDepth 100000 in
set_option maxHeartbeats 4000000 in
theorem read24_other (b o c n : Nat) (x : UInt8) (t : Bs) (w : World) (h1 : ¬ ((x.toNat : Int) = 1) ∨ n < 8) (h2 : ¬ ((x.toNat : Int) = 2)) (hm : n + 1 ≤ maxLen) (hat : At w b o (x :: t)) :
    Calls Tryd.prog 40 #[.slice (some ⟨b, o, none⟩) (n + 1) c] w fun e w' => e = .returned (.tuple #[V 0 0 ⟨#[]⟩, .int .i64 0, .int .i64 3]) ∧ Below w.heap.size w w' := by
  have h0 := hat.head
  have hb := World.block_lt_of_cell? _ _ h0
  clear hat
  unfold maxLen at hm
  by_cases h8 : n < 8
  · have h8z : ¬ (9 : Int) ≤ ((n + 1 : Nat) : Int) := by omega
    clear h1
    go_enter Tryd.func40, Tryd.ntmps40
    go_wp2
    exact bodyPost_ret (v := .tuple #[V 0 0 ⟨#[]⟩, .int .i64 0, .int .i64 3]) (by simp [results, Tryd.results40, go_sem]) rfl ⟨rfl, al _ _⟩
  · have h8z : (9 : Int) ≤ ((n + 1 : Nat) : Int) := by omega
    have h1' : ¬ ((x.toNat : Int) = 1) := by rcases h1 with h | h <;> first | exact h | omega
    clear h1
    go_enter Tryd.func40, Tryd.ntmps40
    go_wp2
    exact bodyPost_ret (v := .tuple #[V 0 0 ⟨#[]⟩, .int .i64 0, .int .i64 3]) (by simp [results, Tryd.results40, go_sem]) rfl ⟨rfl, al _ _⟩

set_option maxRecDepth 100000 in
set_option maxHeartbeats 4000000 in
theorem read24_int (b o c n : Nat) (t : Bs) (w : World) (hl : Hid (t.length = n)) (h8 : 8 ≤ n) (hm : n + 1 ≤ maxLen) (hat : At w b o (1 :: t)) :
    Calls Tryd.prog 40 #[.slice (some ⟨b, o, none⟩) (n + 1) c] w fun e w' => e = .returned (.tuple #[V 1 ((num (t.take 8) : Int) - 9223372036854775808) ⟨#[]⟩, .int .i64 9, .int .i64 0]) ∧ Below w.heap.size w w' := by
  have h0 := hat.head
  have hb : b < w.heap.size := World.block_lt_of_cell? _ _ h0
  have hw := back64 _ (num8_lt t)
  have HA : Hid (At w b o (1 :: t)) := hat
  unfold maxLen at hm
  clear hat
  have h8z : (9 : Int) ≤ ((n + 1 : Nat) : Int) := by omega
  go_enter Tryd.func40, Tryd.ntmps40
  go_wp2
  go_loop [5, 6] (fun u i => ∃ k : Nat, k ≤ 8 ∧ i = .int .i64 ((k + 1 : Nat) : Int) ∧ u = .int .u64 ((num (t.take k) : Nat) : Int)) (fun _ i => 9 - (Lib.intOf i).toNat)
  case atStart => exact ⟨0, by omega, rfl, rfl⟩
  case round =>
    obtain ⟨k, hk, rfl, rfl⟩ := hrel
    by_cases hlt : k < 8
    · have hc : ∀ o', (w.alloc o').cell? ⟨b, o + (k + 1), none⟩ = some (.int .u8 ((t.getD k 0).toNat : Int)) := fun o' => by
        rw [World.cell?_alloc_old _ _ _ (show b ≠ w.heap.size by omega)]
        have := HA.out.tail k (by rw [hl.out]; omega)
        rw [show o + 1 + k = o + (k + 1) by omega] at this
        exact this
      have HN : Hid (num (t.take (k + 1)) = num (t.take k) * 256 + (t.getD k 0).toNat) := num_take t k (by rw [hl.out]; omega)
      have hz : num (t.take k) < 72057594037927936 := Nat.lt_of_lt_of_le (num_take_lt t k) (Nat.le_trans (Nat.pow_le_pow_right (by decide) (show k ≤ 7 by omega)) (by decide))
      have hbb := (t.getD k 0).toNat_lt
      have hso := shl_or _ _ hz hbb
      clear hw
      generalize hu : num (t.take k) = u at *
      generalize hx : (t.getD k 0).toNat = x at *
      have hkz : ((k + 1 : Nat) : Int) < 9 := by omega
      have hkl : ((k + 1 : Nat) : Int) < ((n + 1 : Nat) : Int) := by omega
      go_wp2
      go_round
      case rel => exact ⟨k + 1, by omega, by go_num, by rw [HN.out, Int.natCast_add, Int.natCast_mul]; rfl⟩
      case measure => simp [Lib.intOf]; omega
    · have : k = 8 := by omega
      subst this
      go_wp2
      exact bodyPost_ret (v := .tuple #[V 1 ((num (t.take 8) : Int) - 9223372036854775808) ⟨#[]⟩, .int .i64 9, .int .i64 0]) (by simp [results, Tryd.results40, go_sem]) rfl ⟨rfl, al _ _⟩

/-- What the scan for the end knows at place j. -/
def Cz (t : Bs) (j : Nat) : Prop := cutZ t = (cutZ (t.drop j)).map fun x => t.take j ++ x
theorem cz_start (t : Bs) : Cz t 0 := by unfold Cz; cases h : cutZ t <;> simp [h]
theorem cz_hit {t : Bs} {j : Nat} (h : Cz t j) (hj : j < t.length) (h0 : t.getD j 0 = 0) : cutZ t = some (t.take j) := by
  unfold Cz at h
  rw [h, List.drop_eq_getElem_cons hj]
  have : t[j] = 0 := by rw [← h0]; simp [List.getD, hj]
  simp [cutZ, this]
theorem cz_step {t : Bs} {j : Nat} (h : Cz t j) (hj : j < t.length) (h0 : t.getD j 0 ≠ 0) : Cz t (j + 1) := by
  unfold Cz at h ⊢
  have e : t[j] = t.getD j 0 := by simp [List.getD, hj]
  rw [h, List.drop_eq_getElem_cons hj, List.take_succ_eq_append_getElem hj]
  simp only [cutZ, e, if_neg h0, Option.map_map]
  congr 1
  funext x
  simp
theorem cz_end {t : Bs} {j : Nat} (h : Cz t j) (hj : t.length ≤ j) : cutZ t = none := by
  unfold Cz at h
  rw [h, List.drop_eq_nil_of_le hj]; rfl

theorem rdV_text {t x : Bs} (h : cutZ t = some x) : rdV (2 :: t) = if rightR x then (2, 0, x, x.length + 2, 0) else (0, 0, [], 0, 3) := by
  unfold rdV
  rw [begunV_text h]
  simp [rightV_text]
theorem rdV_open {t : Bs} (h : cutZ t = none) : rdV (2 :: t) = (0, 0, [], 0, 3) := by
  unfold rdV
  rw [begunV_open h]
  simp [rightV_none]

set_option maxRecDepth 100000 in
set_option maxHeartbeats 8000000 in
theorem read24_text (b o c n : Nat) (t : Bs) (w : World) (hl : Hid (t.length = n)) (hm : n + 1 ≤ 140737488355328) (hc : n + 1 ≤ c) (hcm : c ≤ maxLen) (hat : At w b o (2 :: t)) (hg : Good w) :
    Calls Tryd.prog 40 #[.slice (some ⟨b, o, none⟩) (n + 1) c] w fun e w' => e = .returned (.tuple #[V (rdV (2 :: t)).1 (rdV (2 :: t)).2.1 (str (rdV (2 :: t)).2.2.1), .int .i64 ((rdV (2 :: t)).2.2.2.1 : Nat), .int .i64 ((rdV (2 :: t)).2.2.2.2 : Nat)]) ∧ Below w.heap.size w w' := by
  have h0 := hat.head
  have hb : b < w.heap.size := World.block_lt_of_cell? _ _ h0
  have HA : Hid (At w b o (2 :: t)) := hat
  clear hat
  unfold maxLen at hcm
  have hgo : ∀ o, Good (w.alloc o) := fun o => hg.below (al _ _)
  by_cases h9 : n < 8
  all_goals
    first
      | have h8z : ¬ (9 : Int) ≤ ((n + 1 : Nat) : Int) := by omega
      | have h8z : (9 : Int) ≤ ((n + 1 : Nat) : Int) := by omega
    go_enter Tryd.func40, Tryd.ntmps40
    go_wp2
    go_loop [7] (fun i => ∃ j : Nat, j ≤ n ∧ i = .int .i64 ((j + 1 : Nat) : Int) ∧ Cz t j) (fun i => n + 1 - (Lib.intOf i).toNat)
    case atStart => exact ⟨0, by omega, rfl, cz_start t⟩
    case round =>
      obtain ⟨j, hj, rfl, hcz⟩ := hrel
      by_cases hlt : j < n
      · have hcell : ∀ o', (w.alloc o').cell? ⟨b, o + (j + 1), none⟩ = some (.int .u8 ((t.getD j 0).toNat : Int)) := fun o' => by
          rw [World.cell?_alloc_old _ _ _ (show b ≠ w.heap.size by omega)]
          have := HA.out.tail j (by rw [hl.out]; omega)
          rw [show o + 1 + j = o + (j + 1) by omega] at this
          exact this
        have hkl : ((j + 1 : Nat) : Int) < ((n + 1 : Nat) : Int) := by omega
        by_cases hy : t.getD j 0 = 0
        · have hz := cz_hit hcz (by rw [hl.out]; exact hlt) hy
          obtain ⟨x, hx⟩ : ∃ x, t.take j = x := ⟨_, rfl⟩
          have hxl : x.length = j := by rw [← hx, List.length_take, hl.out]; omega
          have HX : Hid (x.length = j) := hxl
          have cv : ∀ o' c', (convert 34 9 (.slice (some ⟨b, o + 1, none⟩) j c')).run Tryd.prog (w.alloc o') = .ok (.string (str x)) (w.alloc o') := fun o' c' =>
            conv_n HX (by have := (HA.out.tail.below (al w o')).take j; rw [hx] at this; exact this)
          have c13 : ∀ w1, Good w1 → Calls Tryd.prog 29 #[V 2 0 (str x)] w1 fun e w' => e = .returned (.bool (rightR x)) ∧ Below w1.heap.size w1 w' := fun w1 h => by
            have := rightv13 2 0 (str x) w1 (by rw [str_size]; omega) h
            rw [rightV_text, bs_str] at this
            simpa using this
          rw [hx] at hz
          have HR : Hid (rdV (2 :: t) = if rightR x then (2, 0, x, j + 2, 0) else (0, 0, [], 0, 3)) := by have := rdV_text hz; rw [hxl] at this; exact this
          have hyz : ((t.getD j 0).toNat : Int) = 0 := by rw [hy]; rfl
          rw [hyz] at hcell
          clear hyz hy hz hcz hx hxl
          have z2 : (1 : Int) ≤ ((j + 1 : Nat) : Int) := by omega
          have z3 : ((j + 1 : Nat) : Int) ≤ (c : Int) := by omega
          cases hR : rightR x
          · rw [hR] at c13
            go_wp2_with (go_at_call 29; refine (c13 _ (((hgo _).below (al _ _)))).mono ?_; rintro e w2 ⟨rfl, hb2⟩; have e0 := res_cells (Below.refl _ _) hb2 0; have e1 := res_cells (Below.refl _ _) hb2 1; have e2 := res_cells (Below.refl _ _) hb2 2; simp at e0 e1 e2; obtain ⟨e0, f0⟩ := e0; obtain ⟨e1, f1⟩ := e1; obtain ⟨e2, f2⟩ := e2)
            exact bodyPost_ret (v := .tuple #[V 0 0 ⟨#[]⟩, .int .i64 0, .int .i64 3]) (by simp [results, Tryd.results40, go_sem, e0, e1, e2]) rfl ⟨by rw [HR.out, hR]; rfl, set3 (two_below (Below.refl _ _) hb2) _ _ _⟩
          · rw [hR] at c13
            obtain ⟨s, hs⟩ : ∃ s, str x = s := ⟨_, rfl⟩
            rw [hs] at cv c13
            have HSS : Hid (str x = s) := hs
            clear hs
            go_wp2_with (go_at_call 29; refine (c13 _ (((hgo _).below (al _ _)))).mono ?_; rintro e w2 ⟨rfl, hb2⟩; have e0 := res_cells (Below.refl _ _) hb2 0; have e1 := res_cells (Below.refl _ _) hb2 1; have e2 := res_cells (Below.refl _ _) hb2 2; simp at e0 e1 e2; obtain ⟨e0, f0⟩ := e0; obtain ⟨e1, f1⟩ := e1; obtain ⟨e2, f2⟩ := e2; have g0 := (new_cells hb2 0).1; have g1 := (new_cells hb2 1).1; have g2 := (new_cells hb2 2).1; simp at g0 g1 g2)
            exact bodyPost_ret (v := .tuple #[V 2 0 s, .int .i64 ((j + 2 : Nat) : Int), .int .i64 0]) (by simp [results, Tryd.results40, go_sem, e0, e1, e2]; omega) rfl ⟨by rw [HR.out, hR, ← HSS.out]; rfl, set3 (two_below (Below.refl _ _) hb2) _ _ _⟩
        · have hcz' := cz_step hcz (by rw [hl.out]; exact hlt) hy
          have hyz : ¬ (((t.getD j 0).toNat : Int) = 0) := by
            intro e; exact hy (UInt8.toNat_inj.1 (by show (t.getD j 0).toNat = 0; omega))
          clear hcz hy
          generalize (t.getD j 0).toNat = y at *
          go_wp2
          go_round
          case rel => exact ⟨j + 1, by omega, by go_num, hcz'⟩
          case measure => simp [Lib.intOf]; omega
      · have hkl : ¬ (((j + 1 : Nat) : Int) < ((n + 1 : Nat) : Int)) := by omega
        have hz := cz_end hcz (by rw [hl.out]; omega)
        have HR : Hid (rdV (2 :: t) = (0, 0, [], 0, 3)) := rdV_open hz
        clear hcz hz
        go_wp2
        exact bodyPost_ret (v := .tuple #[V 0 0 ⟨#[]⟩, .int .i64 0, .int .i64 3]) (by simp [results, Tryd.results40, go_sem]) rfl ⟨by rw [HR.out]; rfl, al _ _⟩

theorem read24 (v : Value) (l : Bs) (w : World) (hm : l.length ≤ 140737488355328) (hsb : SB w v l) (hg : Good w) :
    Calls Tryd.prog 40 #[v] w fun e w' => e = .returned (.tuple #[V (rdV l).1 (rdV l).2.1 (str (rdV l).2.2.1), .int .i64 ((rdV l).2.2.2.1 : Nat), .int .i64 ((rdV l).2.2.2.2 : Nat)]) ∧ Below w.heap.size w w' := by
  rcases hsb with ⟨a, c, rfl, rfl⟩ | ⟨b, o, c, rfl, h0, hc, hcm, hat⟩
  · exact read24_nil a c w
  · cases l with
    | nil => simp at h0
    | cons x t =>
      simp only [List.length_cons] at hm hc ⊢
      have hm' : t.length + 1 ≤ maxLen := by unfold maxLen; omega
      by_cases h1 : x = 1
      · subst h1
        by_cases h8 : 8 ≤ t.length
        · have e : rdV (1 :: t) = (1, (num (t.take 8) : Int) - 9223372036854775808, [], 9, 0) := by
            unfold rdV; rw [begunV_int h8]; simp [rightV_int]
          rw [e]; exact read24_int b o c t.length t w rfl h8 hm' hat
        · have e : rdV (1 :: t) = (0, 0, [], 0, 3) := by unfold rdV; rw [begunV_short h8]; simp [rightV_none]
          rw [e]; exact read24_other b o c t.length 1 t w (.inr (by omega)) (by decide) hm' hat
      · by_cases h2 : x = 2
        · subst h2
          exact read24_text b o c t.length t w rfl hm hc hcm hat hg
        · have e : rdV (x :: t) = (0, 0, [], 0, 3) := by unfold rdV; rw [begunV_other h1 h2]; simp [rightV_none]
          rw [e]
          refine read24_other b o c t.length x t w (.inl ?_) ?_ hm' hat
          · intro e; exact h1 (UInt8.toNat_inj.1 (by show x.toNat = 1; omega))
          · intro e; exact h2 (UInt8.toNat_inj.1 (by show x.toNat = 2; omega))

end Go.Proofs.YtolggmmlaohpdabDoor
