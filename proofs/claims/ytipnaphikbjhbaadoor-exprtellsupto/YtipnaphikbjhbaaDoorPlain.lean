/- Plain facts on texts as lists of bytes: runes, what may be a value or a name, quoting and its taking back. No program in this text. -/
import Derived.Lib.ValidLaws
import Derived.Lib.MapLaws
import Derived.Lib.ReplaceLaws
namespace Go.Proofs.YtipnaphikbjhbaaDoor
open Go.Lib

abbrev Bs := List UInt8

theorem drop_lt {l : Bs} (hne : l ≠ []) : (l.drop (decodeL l).2).length < l.length := by
  have hw := decodeL_width l
  have hl : 0 < l.length := List.length_pos_iff.2 hne
  rw [List.length_drop]; omega

/-- How many runes. -/
def lenGo : Nat → Bs → Nat
  | 0, _ => 0
  | n + 1, l => if l = [] then 0 else 1 + lenGo n (l.drop (decodeL l).2)
def lenR (l : Bs) : Nat := lenGo l.length l

theorem lenGo_nil : ∀ n, lenGo n [] = 0
  | 0 => rfl
  | _ + 1 => by simp [lenGo]
theorem lenGo_fuel : ∀ (n m : Nat) (l : Bs), l.length ≤ n → l.length ≤ m → lenGo n l = lenGo m l
  | 0, m, l, hn, _ => by
    have : l = [] := List.eq_nil_of_length_eq_zero (by omega)
    subst this; rw [lenGo_nil, lenGo_nil]
  | n + 1, 0, l, _, hm => by
    have : l = [] := List.eq_nil_of_length_eq_zero (by omega)
    subst this; rw [lenGo_nil, lenGo_nil]
  | n + 1, m + 1, l, hn, hm => by
    unfold lenGo
    by_cases hne : l = []
    · simp [hne]
    · have := drop_lt hne
      rw [if_neg hne, if_neg hne, lenGo_fuel n m _ (by omega) (by omega)]
theorem lenR_nil : lenR [] = 0 := rfl
theorem lenR_step {l : Bs} (hne : l ≠ []) : lenR l = 1 + lenR (l.drop (decodeL l).2) := by
  have hl : 0 < l.length := List.length_pos_iff.2 hne
  have hd := drop_lt hne
  obtain ⟨n, hn⟩ : ∃ n, l.length = n + 1 := ⟨l.length - 1, by omega⟩
  unfold lenR
  rw [hn]
  show (if l = [] then 0 else _) = _
  rw [if_neg hne, lenGo_fuel n (l.drop (decodeL l).2).length _ (by omega) (Nat.le_refl _)]
theorem lenR_le : ∀ (k : Nat) (l : Bs), l.length ≤ k → lenR l ≤ l.length
  | 0, l, h => by
    have : l = [] := List.eq_nil_of_length_eq_zero (by omega)
    subst this; simp [lenR_nil]
  | k + 1, l, h => by
    by_cases hne : l = []
    · subst hne; simp [lenR_nil]
    · have hd := drop_lt hne
      have := lenR_le k (l.drop (decodeL l).2) (by omega)
      rw [lenR_step hne]; omega

/-- The first runes. -/
def frontR : Nat → Bs → Bs
  | 0, _ => []
  | n + 1, l => if l = [] then [] else l.take (decodeL l).2 ++ frontR n (l.drop (decodeL l).2)
theorem frontR_nil : ∀ n, frontR n [] = []
  | 0 => rfl
  | _ + 1 => by simp [frontR]
theorem frontR_step (n : Nat) {l : Bs} (hne : l ≠ []) : frontR (n + 1) l = l.take (decodeL l).2 ++ frontR n (l.drop (decodeL l).2) := by
  simp [frontR, hne]

/-- The bytes of a rune that does not begin below 128 are all from 128 on, and so is the rune. -/
theorem high_bytes (l : Bs) (hne : l ≠ []) (h : 128 ≤ (l.getD 0 0).toNat) : 128 ≤ (decodeL l).1 ∧ ∀ b ∈ l.take (decodeL l).2, 128 ≤ b.toNat := by
  have hl : 0 < l.length := List.length_pos_iff.2 hne
  rw [decodeL_N]
  rcases decodeN_shape l.length (l.getD 0 0).toNat (l.getD 1 0).toNat (l.getD 2 0).toNat (l.getD 3 0).toNat with ⟨h0, e⟩ | ⟨h0, h1, h2, h3, e⟩ | ⟨h0, h1, h2, h3, h4, h5, e⟩ | ⟨h0, h1, h2, h3, h4, h5, h6, e⟩ | e
  · omega
  · rw [e]; refine ⟨h3, ?_⟩
    show ∀ b ∈ l.take 2, _
    rw [takeB l h1]
    intro b hb
    simp only [List.mem_cons, List.not_mem_nil, or_false] at hb
    rcases hb with rfl | rfl <;> omega
  · rw [e]; refine ⟨by simp only; omega, ?_⟩
    show ∀ b ∈ l.take 3, _
    rw [takeC l h1]
    intro b hb
    simp only [List.mem_cons, List.not_mem_nil, or_false] at hb
    rcases hb with rfl | rfl | rfl <;> omega
  · rw [e]; refine ⟨by simp only; omega, ?_⟩
    show ∀ b ∈ l.take 4, _
    rw [takeD l h1]
    intro b hb
    simp only [List.mem_cons, List.not_mem_nil, or_false] at hb
    rcases hb with rfl | rfl | rfl | rfl <;> omega
  · rw [e]; refine ⟨by decide, ?_⟩
    show ∀ b ∈ l.take 1, _
    rw [takeA l hl]
    intro b hb
    simp only [List.mem_cons, List.not_mem_nil, or_false] at hb
    subst hb; exact h

theorem ascii_head {b : UInt8} {t : Bs} (h : b.toNat < 128) : decodeL (b :: t) = (b.toNat, 1) := decodeL_ascii b t h

/-! ### what may be a value -/
def okByte (b : UInt8) : Bool := decide (32 ≤ b.toNat) && decide (b.toNat ≠ 127)
def okBytes (l : Bs) : Bool := l.all okByte
def okRune (r : Nat) : Bool := decide (32 ≤ r) && decide (r ≠ 127)
def okGo : Nat → Bs → Bool
  | 0, _ => true
  | n + 1, l => if l = [] then true else okRune (decodeL l).1 && okGo n (l.drop (decodeL l).2)
def okRunes (l : Bs) : Bool := okGo l.length l
theorem okGo_nil : ∀ n, okGo n [] = true
  | 0 => rfl
  | _ + 1 => by simp [okGo]
theorem okGo_fuel : ∀ (n m : Nat) (l : Bs), l.length ≤ n → l.length ≤ m → okGo n l = okGo m l
  | 0, m, l, hn, _ => by
    have : l = [] := List.eq_nil_of_length_eq_zero (by omega)
    subst this; rw [okGo_nil, okGo_nil]
  | n + 1, 0, l, _, hm => by
    have : l = [] := List.eq_nil_of_length_eq_zero (by omega)
    subst this; rw [okGo_nil, okGo_nil]
  | n + 1, m + 1, l, hn, hm => by
    unfold okGo
    by_cases hne : l = []
    · simp [hne]
    · have := drop_lt hne
      rw [if_neg hne, if_neg hne, okGo_fuel n m _ (by omega) (by omega)]
theorem okRunes_nil : okRunes [] = true := rfl
theorem okRunes_step {l : Bs} (hne : l ≠ []) : okRunes l = (okRune (decodeL l).1 && okRunes (l.drop (decodeL l).2)) := by
  have hl : 0 < l.length := List.length_pos_iff.2 hne
  have hd := drop_lt hne
  obtain ⟨n, hn⟩ : ∃ n, l.length = n + 1 := ⟨l.length - 1, by omega⟩
  unfold okRunes
  rw [hn]
  show (if l = [] then true else _) = _
  rw [if_neg hne, okGo_fuel n (l.drop (decodeL l).2).length _ (by omega) (Nat.le_refl _)]

theorem okBytes_append (a b : Bs) : okBytes (a ++ b) = (okBytes a && okBytes b) := by simp [okBytes]
theorem ok_runes_bytes : ∀ (k : Nat) (l : Bs), l.length ≤ k → okRunes l = okBytes l
  | 0, l, h => by
    have : l = [] := List.eq_nil_of_length_eq_zero (by omega)
    subst this; rfl
  | k + 1, l, h => by
    by_cases hne : l = []
    · subst hne; rfl
    · have hd := drop_lt hne
      have ih := ok_runes_bytes k (l.drop (decodeL l).2) (by omega)
      rw [okRunes_step hne, ih]
      conv => rhs; rw [← List.take_append_drop (decodeL l).2 l]
      rw [okBytes_append]
      congr 1
      obtain ⟨b, t, rfl⟩ : ∃ b t, l = b :: t := List.exists_cons_of_ne_nil hne
      by_cases hb : b.toNat < 128
      · rw [ascii_head hb]; simp [okBytes, okRune, okByte]
      · have hh := high_bytes (b :: t) hne (by simpa using hb)
        have e1 : okRune (decodeL (b :: t)).1 = true := by
          have := hh.1
          simp only [okRune, Bool.and_eq_true, decide_eq_true_eq]; omega
        rw [e1]; symm
        simp only [okBytes, List.all_eq_true]
        intro x hx
        have := hh.2 x hx
        simp only [okByte, Bool.and_eq_true, decide_eq_true_eq]; omega

/-- May it be a value. -/
def rightR (l : Bs) : Bool := validD l && (decide (lenR l ≤ 8) && okBytes l)

/-! ### names -/
def smallB (b : UInt8) : Bool := decide (97 ≤ b.toNat) && decide (b.toNat ≤ 122)
def digitB (b : UInt8) : Bool := decide (48 ≤ b.toNat) && decide (b.toNat ≤ 57)
def nameFrom : Bool → Bs → Bool
  | _, [] => true
  | first, b :: t => (smallB b || (!first && (b.toNat == 95 || digitB b))) && nameFrom false t

/-! ### small letters for capitals -/
def foldB (b : UInt8) : UInt8 := if 65 ≤ b.toNat ∧ b.toNat ≤ 90 then b + 32 else b
def foldR (l : Bs) : Bs := l.map foldB
theorem foldB_high {b : UInt8} (h : 128 ≤ b.toNat) : foldB b = b := by
  unfold foldB; rw [if_neg (by omega)]
theorem foldR_high {l : Bs} (h : ∀ b ∈ l, 128 ≤ b.toNat) : foldR l = l := by
  unfold foldR
  conv => rhs; rw [← List.map_id l]
  exact List.map_congr_left fun b hb => foldB_high (h b hb)

/-! ### quoting -/
def dbl : Bs → Bs
  | [] => []
  | b :: t => if b = 39 then 39 :: 39 :: dbl t else b :: dbl t
def undbl : Bs → Bs
  | [] => []
  | [b] => [b]
  | b :: c :: t => if b = 39 ∧ c = 39 then 39 :: undbl t else b :: undbl (c :: t)
def scan : Bs → Option (Bs × Nat)
  | [] => none
  | [b] => if b = 39 then some ([], 0) else none
  | b :: c :: t =>
    if b = 39 then (if c = 39 then (scan t).map fun x => (39 :: x.1, x.2 + 2) else some ([], 0))
    else (scan (c :: t)).map fun x => (b :: x.1, x.2 + 1)

theorem replaceAll_eq (l old new : Bs) (h : old ≠ new) : replaceAll l old new = replaceK old new (count l old) l := by
  unfold replaceAll replace replaceNum
  simp [h]

theorem index_cons_miss {b : UInt8} {l sub : Bs} (h : sub.isPrefixOf (b :: l) = false) : index (b :: l) sub = if index l sub == -1 then -1 else index l sub + 1 := by
  conv => lhs; unfold index
  rw [h]; simp
theorem index_cons_hit {b : UInt8} {l sub : Bs} (h : sub.isPrefixOf (b :: l) = true) : index (b :: l) sub = 0 := by
  unfold index; rw [h]; simp

/-- At a place where no instance begins, the first byte is kept. -/
theorem rep_cons_miss {b : UInt8} {l old new : Bs} (hold : old ≠ []) (h : old.isPrefixOf (b :: l) = false) : count (b :: l) old = count l old ∧ ∀ k, replaceK old new k (b :: l) = b :: replaceK old new k l := by
  have hi := index_cons_miss h
  by_cases hm : index l old = -1
  · have e : index (b :: l) old = -1 := by rw [hi, hm]; rfl
    refine ⟨by rw [count_miss hm, count_miss e], fun k => ?_⟩
    cases k with
    | zero => rfl
    | succ k => simp [replaceK, e, hm]
  · obtain ⟨i, hii⟩ : ∃ i : Nat, index l old = i := ⟨(index l old).toNat, by have := index_ge l old; omega⟩
    have e : index (b :: l) old = (i + 1 : Nat) := by
      rw [hi, hii]
      have : ((i : Int) == -1) = false := by rw [beq_eq_false_iff_ne]; omega
      rw [this]; simp
    refine ⟨?_, fun k => ?_⟩
    · rw [count_hit hold hii, count_hit hold e]
      have : (b :: l).drop (i + 1 + old.length) = l.drop (i + old.length) := by
        rw [show i + 1 + old.length = (i + old.length) + 1 by omega, List.drop_succ_cons]
      rw [this]
    · cases k with
      | zero => rfl
      | succ k =>
        rw [replaceK_hit old new k _ _ e, replaceK_hit old new k _ _ hii]
        have : (b :: l).drop (i + 1 + old.length) = l.drop (i + old.length) := by
          rw [show i + 1 + old.length = (i + old.length) + 1 by omega, List.drop_succ_cons]
        rw [this]; simp
theorem rep_cons_hit {b : UInt8} {l old new : Bs} (hold : old ≠ []) (h : old.isPrefixOf (b :: l) = true) : count (b :: l) old = 1 + count ((b :: l).drop old.length) old ∧ ∀ k, replaceK old new (k + 1) (b :: l) = new ++ replaceK old new k ((b :: l).drop old.length) := by
  have e : index (b :: l) old = (0 : Nat) := by rw [index_cons_hit h]; rfl
  refine ⟨by rw [count_hit hold e, Nat.zero_add], fun k => ?_⟩
  rw [replaceK_hit old new k _ _ e, Nat.zero_add]; simp

theorem dbl_eq : ∀ l : Bs, replaceAll l [39] [39, 39] = dbl l := by
  intro l
  rw [replaceAll_eq _ _ _ (by decide)]
  induction l with
  | nil => rfl
  | cons b t ih =>
    by_cases hb : b = 39
    · subst hb
      have h := rep_cons_hit (b := 39) (l := t) (old := [39]) (new := [39, 39]) (by decide) (by simp)
      rw [h.1, Nat.add_comm, h.2]
      simp only [List.length_singleton, List.drop_succ_cons, List.drop_zero]
      rw [ih]; simp [dbl]
    · have h := rep_cons_miss (b := b) (l := t) (old := [39]) (new := [39, 39]) (by decide) (by simp only [List.isPrefixOf_cons_cons, List.isPrefixOf_nil_left, Bool.and_true, beq_eq_false_iff_ne]; exact fun e => hb e.symm)
      rw [h.1, h.2, ih]; simp [dbl, hb]

theorem undbl_eq : ∀ (n : Nat) (l : Bs), l.length ≤ n → replaceK [39, 39] [39] (count l [39, 39]) l = undbl l
  | 0, l, h => by
    have : l = [] := List.eq_nil_of_length_eq_zero (by omega)
    subst this; rfl
  | n + 1, [], h => rfl
  | n + 1, [b], h => by
    have h := rep_cons_miss (b := b) (l := []) (old := [39, 39]) (new := [39]) (by decide) (by simp only [List.isPrefixOf_cons_cons]; simp [List.isPrefixOf])
    rw [h.1, h.2]; rfl
  | n + 1, b :: c :: t, h => by
    simp only [List.length_cons] at h
    by_cases hb : b = 39 ∧ c = 39
    · obtain ⟨rfl, rfl⟩ := hb
      have h' := rep_cons_hit (b := 39) (l := 39 :: t) (old := [39, 39]) (new := [39]) (by decide) (by simp)
      rw [h'.1, Nat.add_comm, h'.2]
      simp only [List.length_cons, List.length_nil, List.drop_succ_cons, List.drop_zero]
      rw [undbl_eq n t (by omega)]; simp [undbl]
    · have h' := rep_cons_miss (b := b) (l := c :: t) (old := [39, 39]) (new := [39]) (by decide) (by
        simp only [List.isPrefixOf_cons_cons, List.isPrefixOf_nil_left, Bool.and_true, Bool.and_eq_false_imp, beq_iff_eq, beq_eq_false_iff_ne]
        exact fun e1 e2 => hb ⟨e1.symm, e2.symm⟩)
      rw [h'.1, h'.2, undbl_eq n (c :: t) (by simp only [List.length_cons]; omega)]
      simp only [undbl, if_neg hb]
theorem undblAll_eq (l : Bs) : replaceAll l [39, 39] [39] = undbl l := by
  rw [replaceAll_eq _ _ _ (by decide)]
  exact undbl_eq _ l (Nat.le_refl _)

/-- What is scanned is the text of the bytes ahead of the closing mark. -/
theorem scan_some : ∀ (n : Nat) (l : Bs) (x : Bs) (k : Nat), l.length ≤ n → scan l = some (x, k) → k < l.length ∧ undbl (l.take k) = x
  | 0, l, x, k, hn, h => by
    have : l = [] := List.eq_nil_of_length_eq_zero (by omega)
    subst this; simp [scan] at h
  | n + 1, [], x, k, hn, h => by simp [scan] at h
  | n + 1, [b], x, k, hn, h => by
    simp only [scan] at h
    split at h
    · simp only [Option.some.injEq, Prod.mk.injEq] at h
      obtain ⟨rfl, rfl⟩ := h
      simp [undbl]
    · simp at h
  | n + 1, b :: c :: t, x, k, hn, h => by
    simp only [List.length_cons] at hn
    simp only [scan] at h
    split at h
    · rename_i hb
      split at h
      · rename_i hc
        subst hb hc
        simp only [Option.map_eq_some_iff, Prod.mk.injEq] at h
        obtain ⟨⟨y, j⟩, hs, rfl, rfl⟩ := h
        have ih := scan_some n t y j (by omega) hs
        refine ⟨by simp only [List.length_cons]; omega, ?_⟩
        simp [undbl, ih.2]
      · simp only [Option.some.injEq, Prod.mk.injEq] at h
        obtain ⟨rfl, rfl⟩ := h
        simp [undbl]
    · rename_i hb
      simp only [Option.map_eq_some_iff, Prod.mk.injEq] at h
      obtain ⟨⟨y, j⟩, hs, rfl, rfl⟩ := h
      have ih := scan_some n (c :: t) y j (by simp only [List.length_cons]; omega) hs
      refine ⟨by simp only [List.length_cons] at ih ⊢; omega, ?_⟩
      rw [List.take_succ_cons]
      simp only
      rw [← ih.2]
      cases hj : (c :: t).take j with
      | nil => simp [undbl]
      | cons d u => simp [undbl, hb]

/-- Unquote takes Quote back, whatever follows but a mark. -/
theorem scan_dbl (t : Bs) (ht : t.head? ≠ some 39) : ∀ l : Bs, scan (dbl l ++ 39 :: t) = some (l, (dbl l).length)
  | [] => by
    cases t with
    | nil => rfl
    | cons c u =>
      have : c ≠ 39 := fun e => ht (by simp [e])
      simp [dbl, scan, this]
  | b :: l => by
    have ih := scan_dbl t ht l
    by_cases hb : b = 39
    · subst hb
      simp only [dbl, if_true, List.cons_append, scan, ih, Option.map_some, List.length_cons]
    · simp only [dbl, if_neg hb, List.cons_append, List.length_cons]
      cases hd : dbl l ++ 39 :: t with
      | nil => simp at hd
      | cons c u =>
        rw [hd] at ih
        simp only [scan, if_neg hb, ih, Option.map_some]

/-- A text that begins with a mark: the text, how many bytes; or which error. -/
def unq (l : Bs) : Bs × Nat × Nat :=
  match l with
  | [] => ([], 0, 8)
  | b :: t => if b = 39 then (match scan t with
      | none => ([], l.length, 8)
      | some (x, k) => if rightR x then (x, k + 2, 0) else ([], 0, 3)) else ([], 0, 8)

theorem dbl_length : ∀ l : Bs, (dbl l).length = l.length + l.count 39
  | [] => rfl
  | b :: t => by
    have ih := dbl_length t
    by_cases hb : b = 39
    · subst hb; simp [dbl, ih]; omega
    · simp [dbl, hb, ih]; omega

end Go.Proofs.YtipnaphikbjhbaaDoor
