/- The value that bytes begin with: value.begun, value.Read. -/
import Derived.Test.YthfkmedpcmiibaaDoorSb
import Derived.Test.YthfkmedpcmiibaaDoorVal
namespace Go.Proofs.YthfkmedpcmiibaaDoor
open Go.RowKit Go.Lib

/-- What bytes begin with, if they are not cut off: kind, number, text, count; kind 0: nothing. -/
def begunV : Bs → Int × Int × Bs × Nat
  | [] => (0, 0, [], 0)
  | b :: t =>
    if b = 1 then (if 8 ≤ t.length then (1, (num (t.take 8) : Int) - 9223372036854775808, [], 9) else (0, 0, [], 0))
    else if b = 2 then (match cutZ t with
      | none => (0, 0, [], 0)
      | some x => (2, 0, x, x.length + 2))
    else (0, 0, [], 0)

theorem cutZ_take : ∀ {t x : Bs}, cutZ t = some x → x.length < t.length ∧ t.take x.length = x
  | [], x, h => by simp [cutZ] at h
  | b :: t, x, h => by
    simp only [cutZ] at h
    split at h
    · simp only [Option.some.injEq] at h; subst h; simp
    · simp only [Option.map_eq_some_iff] at h
      obtain ⟨y, hy, rfl⟩ := h
      have := cutZ_take hy
      simp [this.2]; omega
theorem index_cut : ∀ t : Bs, indexByte t 0 = match cutZ t with | none => -1 | some x => (x.length : Int)
  | [] => rfl
  | b :: t => by
    have ih := index_cut t
    simp only [indexByte, cutZ]
    by_cases hb : b = 0
    · subst hb; simp
    · have : (b == 0) = false := by simpa using hb
      rw [this, if_neg hb]
      cases hc : cutZ t with
      | none => rw [hc] at ih; simp [ih]
      | some x =>
        rw [hc] at ih
        simp only at ih
        simp [ih]

/-- The cells as numbers, as the library's contract wants them. -/
theorem ints_bytes (l : Bs) : bytesOf (l.map fun b => (b.toNat : Int)) = l := by
  unfold bytesOf
  rw [List.map_map]
  conv => rhs; rw [← List.map_id l]
  apply List.map_congr_left
  intro b _
  simp
theorem idx48 (b o c : Nat) (l : Bs) (w : World) (hat : At w b o l) :
    Calls Tryd.prog 74 #[.slice (some ⟨b, o, none⟩) l.length c, .int .u8 0] w fun e w' => e = .returned (.int .i64 (indexByte l 0)) ∧ w' = w := by
  have := Tryd.bytes_IndexByte b o l.length c (l.map fun b => (b.toNat : Int)) 0 w (by simp) (fun i hi => by rw [hat i hi]; simp [List.getD, hi])
  rw [ints_bytes] at this
  exact this
theorem conv_at {b o c : Nat} {l : Bs} {w : World} (hat : At w b o l) : (convert 25 9 (.slice (some ⟨b, o, none⟩) l.length c)).run Tryd.prog w = .ok (.string (str l)) w := by
  rw [← strOf_eq]
  exact run_convert_bytes_arg w 25 5 Tryd.underlying25 Tryd.underlying5 b o l.length c _ (by simp) (fun i hi => by rw [hat i hi]; simp [List.getD, hi]) 9 Tryd.underlying9

theorem num8_lt (t : Bs) : num (t.take 8) < 18446744073709551616 := Nat.lt_of_lt_of_le (num_take_lt t 8) (by decide)

theorem from47n (b o c n : Nat) (l : Bs) (w : World) (hl : Hid (l.length = n)) (h8 : 8 ≤ n) (hm : n ≤ maxLen) (hat : At w b o l) :
    Calls Tryd.prog 73 #[.slice (some ⟨b, o, none⟩) n c] w fun e w' => e = .returned (.int .u64 (num (l.take 8) : Nat)) ∧ w' = w := by
  have := from47 b o c l w (by rw [hl.out]; exact h8) (by rw [hl.out]; exact hm) hat
  rw [hl.out] at this
  exact this
theorem idx48n (b o c n : Nat) (l : Bs) (w : World) (hl : Hid (l.length = n)) (hat : At w b o l) :
    Calls Tryd.prog 74 #[.slice (some ⟨b, o, none⟩) n c, .int .u8 0] w fun e w' => e = .returned (.int .i64 (indexByte l 0)) ∧ w' = w := by
  have := idx48 b o c l w hat
  rw [hl.out] at this
  exact this

theorem begunV_int {t : Bs} (h : 8 ≤ t.length) : begunV (1 :: t) = (1, (num (t.take 8) : Int) - 9223372036854775808, [], 9) := by simp [begunV, h]
theorem begunV_short {t : Bs} (h : ¬ 8 ≤ t.length) : begunV (1 :: t) = (0, 0, [], 0) := by simp [begunV, h]
theorem begunV_text {t x : Bs} (h : cutZ t = some x) : begunV (2 :: t) = (2, 0, x, x.length + 2) := by simp [begunV, h]
theorem begunV_open {t : Bs} (h : cutZ t = none) : begunV (2 :: t) = (0, 0, [], 0) := by simp [begunV, h]
theorem begunV_other {b : UInt8} {t : Bs} (h1 : b ≠ 1) (h2 : b ≠ 2) : begunV (b :: t) = (0, 0, [], 0) := by simp [begunV, h1, h2]

theorem bcell {W w1 : World} (hb : Below W.heap.size W w1) : (∀ b o, b < W.heap.size → w1.cell? ⟨b, o, none⟩ = W.cell? ⟨b, o, none⟩) ∧ (∀ b o, b < W.heap.size → w1.frozen? ⟨b, o, none⟩ = W.frozen? ⟨b, o, none⟩) :=
  ⟨fun b o h => hb.cell (p := ⟨b, o, none⟩) h, fun b o h => hb.frozen (p := ⟨b, o, none⟩) h⟩
theorem al (w : World) (o : Obj) : Below w.heap.size w (w.alloc o) := (Below.refl _ _).alloc (Nat.le_refl _) o
theorem back64 (u : Nat) (h : u < 18446744073709551616) : wrap64 (IntKind.u64.wrap ((u : Int) - 9223372036854775808)) = (u : Int) - 9223372036854775808 := by
  simp [wrap64, IntKind.wrap, IntKind.bits, IntKind.signed]
  omega

set_option maxRecDepth 100000 in
set_option maxHeartbeats 4000000 in
theorem begun38_nil (a : Option Addr) (c : Nat) (w : World) :
    Calls Tryd.prog 72 #[.slice a 0 c] w fun e w' => e = .returned (.tuple #[V 0 0 ⟨#[]⟩, .int .i64 0]) ∧ Below w.heap.size w w' := by
  go_enter Tryd.func72, Tryd.ntmps72
  go_wp2
  exact bodyPost_ret (v := .tuple #[V 0 0 ⟨#[]⟩, .int .i64 0]) (by simp [results, Tryd.results72, go_sem]) rfl ⟨rfl, al _ _⟩

set_option maxRecDepth 100000 in
set_option maxHeartbeats 4000000 in
theorem begun38_int (b o c n : Nat) (t : Bs) (w : World) (hl : Hid (t.length = n)) (h8 : 8 ≤ n) (hm : n + 1 ≤ maxLen) (hc : n + 1 ≤ c) (_hcm : c ≤ maxLen) (hat : At w b o (1 :: t)) :
    Calls Tryd.prog 72 #[.slice (some ⟨b, o, none⟩) (n + 1) c] w fun e w' => e = .returned (.tuple #[V 1 ((num (t.take 8) : Int) - 9223372036854775808) ⟨#[]⟩, .int .i64 9]) ∧ Below w.heap.size w w' := by
  have c47 : ∀ o', Calls Tryd.prog 73 #[.slice (some ⟨b, o + 1, none⟩) n (c - 1)] (w.alloc o') fun e w' => e = .returned (.int .u64 (num (t.take 8) : Nat)) ∧ w' = w.alloc o' := fun o' =>
    from47n b (o + 1) (c - 1) n t _ hl h8 (by unfold maxLen at *; omega) (hat.tail.below (al _ _))
  have h0 := hat.head
  have hb := World.block_lt_of_cell? _ _ h0
  have hw := back64 _ (num8_lt t)
  generalize num (t.take 8) = u at *
  unfold maxLen at hm _hcm
  have h8z : (8 : Int) < ((n + 1 : Nat) : Int) := by omega
  go_enter Tryd.func72, Tryd.ntmps72
  go_wp2_with (go_at_call 73; refine (c47 _).mono ?_; rintro e w1 ⟨rfl, rfl⟩)
  exact bodyPost_ret (v := .tuple #[V 1 ((u : Int) - 9223372036854775808) ⟨#[]⟩, .int .i64 9]) (by simp [results, Tryd.results72, go_sem, hw]) rfl ⟨rfl, al _ _⟩

set_option maxRecDepth 100000 in
set_option maxHeartbeats 4000000 in
theorem begun38_other (b o c n : Nat) (x : UInt8) (t : Bs) (w : World) (h1 : ¬ ((x.toNat : Int) = 1) ∨ n < 8) (h2 : ¬ ((x.toNat : Int) = 2)) (hm : n + 1 ≤ maxLen) (_hcm : c ≤ maxLen) (hat : At w b o (x :: t)) :
    Calls Tryd.prog 72 #[.slice (some ⟨b, o, none⟩) (n + 1) c] w fun e w' => e = .returned (.tuple #[V 0 0 ⟨#[]⟩, .int .i64 0]) ∧ Below w.heap.size w w' := by
  have h0 := hat.head
  have hb := World.block_lt_of_cell? _ _ h0
  clear hat
  unfold maxLen at hm _hcm
  by_cases h8 : n < 8
  · have h8z : ¬ (8 : Int) < ((n + 1 : Nat) : Int) := by omega
    clear h1
    go_enter Tryd.func72, Tryd.ntmps72
    go_wp2
    exact bodyPost_ret (v := .tuple #[V 0 0 ⟨#[]⟩, .int .i64 0]) (by simp [results, Tryd.results72, go_sem]) rfl ⟨rfl, al _ _⟩
  · have h8z : (8 : Int) < ((n + 1 : Nat) : Int) := by omega
    have h1' : ¬ ((x.toNat : Int) = 1) := by rcases h1 with h | h <;> first | exact h | omega
    clear h1
    go_enter Tryd.func72, Tryd.ntmps72
    go_wp2
    exact bodyPost_ret (v := .tuple #[V 0 0 ⟨#[]⟩, .int .i64 0]) (by simp [results, Tryd.results72, go_sem]) rfl ⟨rfl, al _ _⟩

theorem index_two (t : Bs) : indexByte (2 :: t) 0 = match cutZ t with | none => -1 | some x => ((x.length + 1 : Nat) : Int) := by
  have := index_cut (2 :: t)
  rw [this]
  have h : ¬ ((2 : UInt8) = 0) := by decide
  simp only [cutZ, if_neg h]
  cases cutZ t <;> simp

set_option maxRecDepth 100000 in
set_option maxHeartbeats 4000000 in
theorem begun38_open (b o c n : Nat) (t : Bs) (w : World) (hl : Hid (t.length = n)) (hz : cutZ t = none) (hm : n + 1 ≤ maxLen) (_hcm : c ≤ maxLen) (hat : At w b o (2 :: t)) :
    Calls Tryd.prog 72 #[.slice (some ⟨b, o, none⟩) (n + 1) c] w fun e w' => e = .returned (.tuple #[V 0 0 ⟨#[]⟩, .int .i64 0]) ∧ Below w.heap.size w w' := by
  have c48 : ∀ o', Calls Tryd.prog 74 #[.slice (some ⟨b, o, none⟩) (n + 1) c, .int .u8 0] (w.alloc o') fun e w' => e = .returned (.int .i64 (-1)) ∧ w' = w.alloc o' := fun o' => by
    have := idx48n b o c (n + 1) (2 :: t) (w.alloc o') (by have := hl.out; exact (by simp [this] : (2 :: t).length = n + 1)) (hat.below (al _ _))
    rw [index_two, hz] at this
    exact this
  have h0 := hat.head
  have hb := World.block_lt_of_cell? _ _ h0
  clear hat hz
  unfold maxLen at hm _hcm
  by_cases h8 : n < 8
  · have h8z : ¬ (8 : Int) < ((n + 1 : Nat) : Int) := by omega
    go_enter Tryd.func72, Tryd.ntmps72
    go_wp2_with (go_at_call 74; refine (c48 _).mono ?_; rintro e w1 ⟨rfl, rfl⟩)
    exact bodyPost_ret (v := .tuple #[V 0 0 ⟨#[]⟩, .int .i64 0]) (by simp [results, Tryd.results72, go_sem]) rfl ⟨rfl, al _ _⟩
  · have h8z : (8 : Int) < ((n + 1 : Nat) : Int) := by omega
    go_enter Tryd.func72, Tryd.ntmps72
    go_wp2_with (go_at_call 74; refine (c48 _).mono ?_; rintro e w1 ⟨rfl, rfl⟩)
    exact bodyPost_ret (v := .tuple #[V 0 0 ⟨#[]⟩, .int .i64 0]) (by simp [results, Tryd.results72, go_sem]) rfl ⟨rfl, al _ _⟩

theorem conv_n {b o c n : Nat} {l : Bs} {w : World} (hl : Hid (l.length = n)) (hat : At w b o l) : (convert 25 9 (.slice (some ⟨b, o, none⟩) n c)).run Tryd.prog w = .ok (.string (str l)) w := by
  have := conv_at (c := c) hat
  rw [hl.out] at this
  exact this

set_option maxRecDepth 100000 in
set_option maxHeartbeats 4000000 in
theorem begun38_text (b o c n k : Nat) (t x : Bs) (w : World) (hl : Hid (t.length = n)) (hk : Hid (x.length = k)) (hz : cutZ t = some x) (hm : n + 1 ≤ maxLen) (hc : n + 1 ≤ c) (hcm : c ≤ maxLen) (hat : At w b o (2 :: t)) :
    Calls Tryd.prog 72 #[.slice (some ⟨b, o, none⟩) (n + 1) c] w fun e w' => e = .returned (.tuple #[V 2 0 (str x), .int .i64 ((k + 2 : Nat) : Int)]) ∧ Below w.heap.size w w' := by
  have hx := cutZ_take hz
  rw [hl.out, hk.out] at hx
  have c48 : ∀ o', Calls Tryd.prog 74 #[.slice (some ⟨b, o, none⟩) (n + 1) c, .int .u8 0] (w.alloc o') fun e w' => e = .returned (.int .i64 ((k + 1 : Nat) : Int)) ∧ w' = w.alloc o' := fun o' => by
    have := idx48n b o c (n + 1) (2 :: t) (w.alloc o') (by have := hl.out; exact (by simp [this] : (2 :: t).length = n + 1)) (hat.below (al _ _))
    rw [index_two, hz] at this
    dsimp only at this
    rw [hk.out] at this
    exact this
  have cv : ∀ o' c', (convert 25 9 (.slice (some ⟨b, o + 1, none⟩) k c')).run Tryd.prog (w.alloc o') = .ok (.string (str x)) (w.alloc o') := fun o' c' =>
    conv_n hk (by have := (hat.tail.below (al w o')).take k; rw [hx.2] at this; exact this)
  have h0 := hat.head
  have hb := World.block_lt_of_cell? _ _ h0
  have hkn := hx.1
  clear hat hz hx hl hk
  generalize str x = s at *
  unfold maxLen at hm hcm
  have z1 : (0 : Int) < ((k + 1 : Nat) : Int) := by omega
  have z2 : (1 : Int) ≤ ((k + 1 : Nat) : Int) := by omega
  have z3 : ((k + 1 : Nat) : Int) ≤ (c : Int) := by omega
  by_cases h8 : n < 8
  · have h8z : ¬ (8 : Int) < ((n + 1 : Nat) : Int) := by omega
    go_enter Tryd.func72, Tryd.ntmps72
    go_wp2_with (go_at_call 74; refine (c48 _).mono ?_; rintro e w1 ⟨rfl, rfl⟩)
    exact bodyPost_ret (v := .tuple #[V 2 0 s, .int .i64 ((k + 2 : Nat) : Int)]) (by simp [results, Tryd.results72, go_sem]; omega) rfl ⟨rfl, al _ _⟩
  · have h8z : (8 : Int) < ((n + 1 : Nat) : Int) := by omega
    go_enter Tryd.func72, Tryd.ntmps72
    go_wp2_with (go_at_call 74; refine (c48 _).mono ?_; rintro e w1 ⟨rfl, rfl⟩)
    exact bodyPost_ret (v := .tuple #[V 2 0 s, .int .i64 ((k + 2 : Nat) : Int)]) (by simp [results, Tryd.results72, go_sem]; omega) rfl ⟨rfl, al _ _⟩

theorem begun38 (v : Value) (l : Bs) (w : World) (hm : l.length ≤ maxLen) (hsb : SB w v l) :
    Calls Tryd.prog 72 #[v] w fun e w' => e = .returned (.tuple #[V (begunV l).1 (begunV l).2.1 (str (begunV l).2.2.1), .int .i64 ((begunV l).2.2.2 : Nat)]) ∧ Below w.heap.size w w' := by
  rcases hsb with ⟨a, c, rfl, rfl⟩ | ⟨b, o, c, rfl, h0, hc, hcm, hat⟩
  · exact begun38_nil a c w
  · cases l with
    | nil => simp at h0
    | cons x t =>
      simp only [List.length_cons] at hm hc ⊢
      by_cases h1 : x = 1
      · subst h1
        by_cases h8 : 8 ≤ t.length
        · rw [begunV_int h8]; exact begun38_int b o c t.length t w rfl h8 hm hc hcm hat
        · rw [begunV_short h8]; exact begun38_other b o c t.length 1 t w (.inr (by omega)) (by decide) hm hcm hat
      · by_cases h2 : x = 2
        · subst h2
          cases hz : cutZ t with
          | none => rw [begunV_open hz]; exact begun38_open b o c t.length t w rfl hz hm hcm hat
          | some y => rw [begunV_text hz]; exact begun38_text b o c t.length y.length t y w rfl rfl hz hm hc hcm hat
        · rw [begunV_other h1 h2]
          refine begun38_other b o c t.length x t w (.inl ?_) ?_ hm hcm hat
          · intro e; exact h1 (UInt8.toNat_inj.1 (by show x.toNat = 1; omega))
          · intro e; exact h2 (UInt8.toNat_inj.1 (by show x.toNat = 2; omega))

end Go.Proofs.YthfkmedpcmiibaaDoor
