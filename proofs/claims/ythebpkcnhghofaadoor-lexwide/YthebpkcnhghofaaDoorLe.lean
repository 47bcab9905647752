/- More between tokens, and capitals, by plain data. -/
import Derived.Test.YthebpkcnhghofaaDoorLx
namespace Go.Proofs.YthebpkcnhghofaaDoor
open Go.RowKit Go.Lib
set_option maxRecDepth 100000

def capI (i : Nat) (c : UInt8) : UInt8 := if 97 ≤ c.toNat ∧ c.toNat ≤ 122 ∧ i % 2 = 0 then c - 32 else c
theorem capI_cases (i : Nat) (c : UInt8) : capI i c = c ∨ (97 ≤ c.toNat ∧ c.toNat ≤ 122 ∧ (capI i c).toNat = c.toNat - 32) := by
  unfold capI
  split
  · rename_i h
    refine .inr ⟨h.1, h.2.1, ?_⟩
    rw [UInt8.toNat_sub_of_le _ _ (by rw [UInt8.le_iff_toNat_le]; show 32 ≤ c.toNat; omega)]
    rfl
  · exact .inl rfl
theorem capI_other {i : Nat} {c : UInt8} (h : ¬ (97 ≤ c.toNat ∧ c.toNat ≤ 122)) : capI i c = c := by
  rcases capI_cases i c with e | ⟨h1, h2, _⟩
  · exact e
  · exact absurd ⟨h1, h2⟩ h
theorem cap_pres {p : Int → Bool} (hp : ∀ r : Int, 97 ≤ r → r ≤ 122 → p r = p (r - 32)) (i : Nat) (c : UInt8) : p ((capI i c).toNat : Int) = p (c.toNat : Int) := by
  rcases capI_cases i c with e | ⟨h1, h2, h3⟩
  · rw [e]
  · have := hp (c.toNat : Int) (by omega) (by omega)
    rw [h3, this]
    congr 1
    omega
theorem dig_pres (r : Int) (h1 : 97 ≤ r) (h2 : r ≤ 122) : digI r = digI (r - 32) := by
  have e1 : digI r = false := by simp [digI]; omega
  have e2 : digI (r - 32) = false := by simp [digI]; omega
  rw [e1, e2]
theorem ltr_pres (r : Int) (h1 : 97 ≤ r) (h2 : r ≤ 122) : ltrI r = ltrI (r - 32) := by
  have e1 : ltrI r = true := by simp [ltrI]; omega
  have e2 : ltrI (r - 32) = true := by simp [ltrI]; omega
  rw [e1, e2]
theorem go_pres (r : Int) (h1 : 97 ≤ r) (h2 : r ≤ 122) : goI r = goI (r - 32) := by
  have e1 : ltrI r = true := by simp [ltrI]; omega
  have e2 : ltrI (r - 32) = true := by simp [ltrI]; omega
  simp [goI, e1, e2]
theorem spc_pres (r : Int) (h1 : 97 ≤ r) (h2 : r ≤ 122) : spcI r = spcI (r - 32) := by
  have e1 : spcI r = false := by simp [spcI]; omega
  have e2 : spcI (r - 32) = false := by simp [spcI]; omega
  rw [e1, e2]
theorem fold_cap (i : Nat) (c : UInt8) : foldB (capI i c) = foldB c := by
  rcases capI_cases i c with e | ⟨h1, h2, h3⟩
  · rw [e]
  · apply UInt8.toNat_inj.1
    unfold foldB
    rw [if_pos (by omega), if_neg (by omega), UInt8.toNat_add, h3]
    have := c.toNat_lt
    simp
    omega
def wb (i : Nat) (c : UInt8) : Bs := if c = 32 then [9, 10, 32] else [capI i c]
def wideB : Nat → Bs → Bs
  | _, [] => []
  | i, c :: t => wb i c ++ wideB (i + 1) t
def capL : Nat → Bs → Bs
  | _, [] => []
  | i, c :: t => capI i c :: capL (i + 1) t
theorem capL_length : ∀ (i : Nat) (d : Bs), (capL i d).length = d.length
  | _, [] => rfl
  | i, c :: t => by simp [capL, capL_length (i + 1) t]
theorem capL_fold : ∀ (i : Nat) (d : Bs), foldR (capL i d) = foldR d
  | _, [] => rfl
  | i, c :: t => by
    have := capL_fold (i + 1) t
    simp only [foldR] at this ⊢
    simp [capL, fold_cap, this]
theorem capL_same : ∀ (i : Nat) (d : Bs), (∀ c ∈ d, ¬ (97 ≤ c.toNat ∧ c.toNat ≤ 122)) → capL i d = d
  | _, [], _ => rfl
  | i, c :: t, h => by rw [capL, capI_other (h c (by simp)), capL_same (i + 1) t (fun c hc => h c (by simp [hc]))]
theorem wide_split : ∀ (n i : Nat) (l : Bs), n ≤ l.length → (∀ c ∈ l.take n, c ≠ 32) → wideB i l = capL i (l.take n) ++ wideB (i + n) (l.drop n)
  | 0, i, l, _, _ => by simp [capL]
  | n + 1, i, [], h, _ => by simp at h
  | n + 1, i, c :: t, h, hc => by
    rw [wideB, List.take_succ_cons, capL, List.drop_succ_cons, wide_split n (i + 1) t (by simpa using h) (fun d hd => hc d (by rw [List.take_succ_cons]; exact List.mem_cons_of_mem _ hd))]
    rw [wb, if_neg (hc c (by rw [List.take_succ_cons]; simp)), show i + (n + 1) = i + 1 + n by omega]
    simp
theorem run_wide {p : Int → Bool} (h9 : p 9 = false) (h10 : p 10 = false) (h32 : p 32 = false) (hp : ∀ r : Int, 97 ≤ r → r ≤ 122 → p r = p (r - 32)) : ∀ (i : Nat) (l : Bs), runP p (wideB i l ++ [10]) = runP p l
  | i, [] => by
    rw [wideB, List.nil_append, runP_no (by exact h10), runP_nil]
  | i, c :: t => by
    rw [wideB, wb]
    by_cases hc : c = 32
    · rw [if_pos hc, hc]
      show runP p (9 :: _) = _
      rw [runP_no (by exact h9), runP_no (by exact h32)]
    · rw [if_neg hc]
      show runP p (capI i c :: (wideB (i + 1) t ++ [10])) = _
      cases hq : p (c.toNat : Int)
      · rw [runP_no (by rw [cap_pres hp]; exact hq), runP_no hq]
      · rw [runP_yes (by rw [cap_pres hp]; exact hq), runP_yes hq, run_wide h9 h10 h32 hp (i + 1) t]
theorem find_same (p q : Bs → Bool) : ∀ (l : List Bs), (∀ x ∈ l, p x = q x) → l.find? p = l.find? q
  | [], _ => rfl
  | x :: l, h => by
    rw [List.find?_cons, List.find?_cons, h x (by simp), find_same p q l (fun y hy => h y (by simp [hy]))]
theorem sign_dep {c : UInt8} {r r' : Bs} (h1 : [61].isPrefixOf r = [61].isPrefixOf r') (h2 : [62].isPrefixOf r = [62].isPrefixOf r') : signB (c :: r) = signB (c :: r') := by
  have e : ∀ x ∈ signsL, hasPrefix (c :: r) x = hasPrefix (c :: r') x := by
    intro x hx
    simp only [signsL, List.mem_cons, List.not_mem_nil, or_false] at hx
    unfold hasPrefix
    rcases hx with rfl | rfl | rfl | rfl | rfl | rfl | rfl | rfl | rfl | rfl
    · rw [List.isPrefixOf_cons_cons, List.isPrefixOf_cons_cons, h1]
    · rw [List.isPrefixOf_cons_cons, List.isPrefixOf_cons_cons, h1]
    · rw [List.isPrefixOf_cons_cons, List.isPrefixOf_cons_cons, h2]
    all_goals rfl
  unfold signB signIn
  rw [find_same _ _ _ e]
theorem head_wide (b : UInt8) (hb : b = 61 ∨ b = 62) (i : Nat) (t : Bs) : [b].isPrefixOf (wideB i t ++ [10]) = [b].isPrefixOf t := by
  cases t with
  | nil =>
    rcases hb with rfl | rfl <;> rfl
  | cons c t =>
    rw [wideB, wb]
    by_cases hc : c = 32
    · rw [if_pos hc, hc]
      rcases hb with rfl | rfl <;> rfl
    · rw [if_neg hc]
      rcases capI_cases i c with e | ⟨h1, h2, h3⟩
      · rw [e]; rfl
      · have n1 : (b == capI i c) = false := by
          rw [beq_eq_false_iff_ne]
          intro e
          rw [← e] at h3
          rcases hb with rfl | rfl
          · have : (61 : UInt8).toNat = 61 := rfl
            omega
          · have : (62 : UInt8).toNat = 62 := rfl
            omega
        have n2 : (b == c) = false := by
          rw [beq_eq_false_iff_ne]
          intro e
          rw [← e] at h1 h2
          rcases hb with rfl | rfl
          · have : (61 : UInt8).toNat = 61 := rfl
            omega
          · have : (62 : UInt8).toNat = 62 := rfl
            omega
        simp only [List.cons_append, List.isPrefixOf_cons_cons, n1, n2, Bool.false_and]

/-! ### the token that both begin with -/
theorem dig_not {c : UInt8} (h : digI (c.toNat : Int) = true) : ¬ (97 ≤ c.toNat ∧ c.toNat ≤ 122) ∧ c ≠ 32 := by
  simp only [digI, Bool.and_eq_true, decide_eq_true_eq] at h
  refine ⟨by omega, fun e => ?_⟩
  subst e
  exact absurd h (by decide)
theorem go_not {c : UInt8} (h : goI (c.toNat : Int) = true) : c ≠ 32 := fun e => by
  subst e
  exact absurd h (by decide)
theorem take_wide {i n : Nat} {t : Bs} (hn : n ≤ t.length) (h : ∀ c ∈ t.take n, c ≠ 32) : (wideB i t ++ [10]).take n = capL i (t.take n) := by
  rw [wide_split n i t hn h, List.append_assoc, List.take_left' (by rw [capL_length, List.length_take]; omega)]
theorem drop_wide {i n : Nat} {t : Bs} (hn : n ≤ t.length) (h : ∀ c ∈ t.take n, c ≠ 32) : (wideB i t ++ [10]).drop n = wideB (i + n) (t.drop n) ++ [10] := by
  rw [wide_split n i t hn h, List.append_assoc, List.drop_left' (by rw [capL_length, List.length_take]; omega)]
theorem num_wide (i : Nat) (t : Bs) : (wideB i t ++ [10]).take (runP digI t) = t.take (runP digI t) := by
  rw [take_wide (runP_le _ _) (fun c hc => (dig_not (runP_all digI t c hc)).2), capL_same _ _ (fun c hc => (dig_not (runP_all digI t c hc)).1)]
theorem beg_wide (i : Nat) (c : UInt8) (t : Bs) (h39 : c ≠ 39) : begB (capI i c :: (wideB (i + 1) t ++ [10])) = begB (c :: t) := by
  have hd := run_wide (p := digI) (by decide) (by decide) (by decide) dig_pres (i + 1) t
  have hgo := run_wide (p := goI) (by decide) (by decide) (by decide) go_pres (i + 1) t
  rw [begB_cons, begB_cons, cap_pres dig_pres, cap_pres ltr_pres]
  cases hl : ltrI (c.toNat : Int)
  · have hc : ¬ (97 ≤ c.toNat ∧ c.toNat ≤ 122) := fun h => by
      have : ltrI (c.toNat : Int) = true := by simp [ltrI]; omega
      rw [hl] at this; cases this
    rw [capI_other hc]
    by_cases h45 : c = 45
    · rw [if_pos h45, if_pos h45, hd]
      congr 1
      rw [Nat.add_comm, List.take_succ_cons, List.take_succ_cons, num_wide]
    · rw [if_neg h45, if_neg h45]
      cases hdg : digI (c.toNat : Int)
      · simp only [Bool.false_eq_true, if_false]
        rw [if_neg h39, if_neg h39]
        unfold sgnT
        rw [sign_dep (head_wide 61 (.inl rfl) (i + 1) t) (head_wide 62 (.inr rfl) (i + 1) t)]
      · simp only [if_true]
        rw [runP_yes hdg, runP_yes hdg, hd]
        congr 1
        rw [List.take_succ_cons, List.take_succ_cons, num_wide]
  · have hg1 : goI (c.toNat : Int) = true := by simp [goI, hl]
    have hg2 : goI ((capI i c).toNat : Int) = true := by rw [cap_pres go_pres]; exact hg1
    have hl2 : ltrI ((capI i c).toNat : Int) = true := by rw [cap_pres ltr_pres]; exact hl
    have n1 : c ≠ 45 := fun e => by rw [e] at hl; exact absurd hl (by decide)
    have n2 : capI i c ≠ 45 := fun e => by rw [e] at hl2; exact absurd hl2 (by decide)
    have n3 : digI (c.toNat : Int) = false := by
      simp only [ltrI, Bool.or_eq_true, Bool.and_eq_true, decide_eq_true_eq] at hl
      simp only [digI, Bool.and_eq_false_iff, decide_eq_false_iff_not]
      omega
    rw [if_neg n1, if_neg n2, n3]
    simp only [Bool.false_eq_true, if_false, if_true]
    rw [runP_yes hg1, runP_yes hg2, hgo]
    rw [List.take_succ_cons, List.take_succ_cons, take_wide (runP_le _ _) (fun d hdm => go_not (runP_all goI t d hdm))]
    show wordT (capL i (c :: t.take (runP goI t))) = _
    unfold wordT
    rw [capL_length, capL_fold]
theorem sign_no32 : ∀ x ∈ signsL, ∀ b ∈ x, b ≠ 32 := by decide
theorem beg_no32 (c : UInt8) (t : Bs) (h39 : c ≠ 39) : ∀ d ∈ (c :: t).take (begB (c :: t)).2.2.2, d ≠ 32 := by
  have hnum : ∀ m, (∀ d ∈ (c :: t).take m, d ≠ 32) → m ≤ (c :: t).length → ∀ d ∈ (c :: t).take (numT ((c :: t).take m)).2.2.2, d ≠ 32 := fun m h hm d hd => by
    unfold numT at hd
    split at hd
    · simp only [List.length_take, Nat.min_eq_left hm] at hd
      exact h d hd
    · simp at hd
  rw [begB_cons]
  split
  · rename_i h45
    refine hnum (1 + runP digI t) (fun d hd => ?_) (by have := runP_le digI t; simp only [List.length_cons]; omega)
    rw [Nat.add_comm, List.take_succ_cons] at hd
    rcases List.mem_cons.1 hd with rfl | hd
    · rw [h45]; decide
    · exact (dig_not (runP_all digI t d hd)).2
  · split
    · exact hnum (runP digI (c :: t)) (fun d hd => (dig_not (runP_all digI _ d hd)).2) (runP_le _ _)
    · split
      · intro d hd
        unfold wordT at hd
        split at hd
        · simp at hd
        · simp only [List.length_take, Nat.min_eq_left (runP_le goI (c :: t))] at hd
          exact go_not (runP_all goI _ d hd)
      · intro d hd
        rcases signB_mem (c :: t) with h1 | ⟨h1, h2⟩
        · simp only [sgnT, h1, List.length_nil, List.take_zero] at hd
          simp at hd
        · have hp : signB (c :: t) <+: (c :: t) := by simpa [hasPrefix] using h2
          refine sign_no32 _ h1 d ?_
          rw [List.prefix_iff_eq_take.1 hp]
          exact hd

/-- Tokens but for their places. -/
def bare (l : List Tk) : List (Nat × Bs × Int) := l.map fun x => (x.k, x.t, x.n)
theorem bare_length {a b : List Tk} (h : bare a = bare b) : a.length = b.length := by
  have := congrArg List.length h
  simpa [bare] using this
theorem lex_wide : ∀ (n i p q : Nat) (l : Bs) (acc acc' : List Tk), l.length ≤ n → (∀ c ∈ l, c ≠ 39) → bare acc = bare acc' → (lexB p l acc).2.2 = (lexB q (wideB i l ++ [10]) acc').2.2 ∧ bare (lexB p l acc).1 = bare (lexB q (wideB i l ++ [10]) acc').1
  | n, i, p, q, [], acc, acc', _, _, ha => by
    rw [wideB, List.nil_append, lexB_space (by decide), lexB_nil, lexB_nil]
    exact ⟨rfl, ha⟩
  | 0, i, p, q, c :: t, acc, acc', h, _, _ => by simp at h
  | n + 1, i, p, q, c :: t, acc, acc', h, h39, ha => by
    have ht : ∀ d ∈ t, d ≠ 39 := fun d hd => h39 d (by simp [hd])
    simp only [List.length_cons] at h
    by_cases h32 : c = 32
    · rw [wideB, wb, if_pos h32, lexB_space (show spcI (c.toNat : Int) = true by rw [h32]; decide)]
      show _ = (lexB q (9 :: 10 :: 32 :: (wideB (i + 1) t ++ [10])) acc').2.2 ∧ _ = bare (lexB q (9 :: 10 :: 32 :: (wideB (i + 1) t ++ [10])) acc').1
      rw [lexB_space (by decide), lexB_space (by decide), lexB_space (by decide)]
      exact lex_wide n (i + 1) (p + 1) _ t acc acc' (by omega) ht ha
    · have hw : wideB i (c :: t) ++ [10] = capI i c :: (wideB (i + 1) t ++ [10]) := by rw [wideB, wb, if_neg h32]; rfl
      cases hs : spcI (c.toNat : Int)
      · have hs2 : spcI ((capI i c).toNat : Int) = false := by rw [cap_pres spc_pres]; exact hs
        have hb := beg_wide i c t (h39 c (by simp))
        rw [hw]
        by_cases h0 : (begB (c :: t)).2.2.2 = 0
        · rw [lexB_err hs h0, lexB_err hs2 (by rw [hb]; exact h0)]
          exact ⟨rfl, rfl⟩
        · by_cases h1 : acc.length = 100
          · rw [lexB_full hs h0 h1, lexB_full hs2 (by rw [hb]; exact h0) (by rw [← bare_length ha]; exact h1)]
            exact ⟨rfl, rfl⟩
          · rw [lexB_tok hs h0 h1, lexB_tok hs2 (by rw [hb]; exact h0) (by rw [← bare_length ha]; exact h1), hb, ← hw]
            have hen := (begB_ends (c :: t)).1
            have hno := beg_no32 c t (h39 c (by simp))
            generalize begB (c :: t) = x at *
            rw [drop_wide hen hno]
            refine lex_wide n (i + x.2.2.2) _ _ _ _ _ ?_ (fun d hd => h39 d (List.mem_of_mem_drop hd)) ?_
            · rw [List.length_drop, List.length_cons]; omega
            · simp only [bare, List.map_append] at ha ⊢
              rw [ha]
              rfl
      · have hc : capI i c = c := capI_other (fun h => by
          have : spcI (c.toNat : Int) = false := by simp [spcI]; omega
          rw [hs] at this; cases this)
        rw [hw, hc, lexB_space hs, lexB_space hs]
        exact lex_wide n (i + 1) (p + 1) _ t acc acc' (by omega) ht ha
theorem toks_wide (s : Bs) (hl : s.length ≤ 400) (h39 : ∀ c ∈ s, c ≠ 39) (hw : (wideB 0 s).length ≤ 398) : (toks s).2.2 = (toks (32 :: (wideB 0 s ++ [10]))).2.2 ∧ bare (toks s).1 = bare (toks (32 :: (wideB 0 s ++ [10]))).1 := by
  unfold toks
  rw [if_neg (by omega), if_neg (by simp; omega), lexB_space (show spcI ((32 : UInt8).toNat : Int) = true by decide)]
  exact lex_wide s.length 0 0 1 s [] [] (Nat.le_refl _) h39 rfl
theorem toks_long (s : Bs) (hw : 398 < (wideB 0 s).length) : (toks (32 :: (wideB 0 s ++ [10]))).2.2 = 4 := by
  unfold toks
  rw [if_pos (by simp; omega)]
theorem wideB_snoc : ∀ (l : Bs) (i : Nat) (c : UInt8), wideB i (l ++ [c]) = wideB i l ++ wb (i + l.length) c
  | [], i, c => by simp [wideB]
  | d :: l, i, c => by
    rw [List.cons_append, wideB, wideB, wideB_snoc l (i + 1) c, List.append_assoc, List.length_cons, show i + 1 + l.length = i + (l.length + 1) by omega]
end Go.Proofs.YthebpkcnhghofaaDoor
