/- Tokens, by plain data: no program. -/
import Derived.Test.YtipnaphikbjhbaaDoorPrs2
namespace Go.Proofs.YtipnaphikbjhbaaDoor
open Go.RowKit Go.Lib

def digI (r : Int) : Bool := decide (48 ≤ r) && decide (r ≤ 57)
def ltrI (r : Int) : Bool := (decide (97 ≤ r) && decide (r ≤ 122)) || (decide (65 ≤ r) && decide (r ≤ 90))
def goI (r : Int) : Bool := ltrI r || digI r || decide (r = 95)
def spcI (r : Int) : Bool := decide (r = 32) || decide (r = 9) || decide (r = 10) || decide (r = 13)
theorem digI_high {r : Int} (h : 128 ≤ r) : digI r = false := by simp [digI]; omega
theorem ltrI_high {r : Int} (h : 128 ≤ r) : ltrI r = false := by simp [ltrI]; omega
theorem goI_high {r : Int} (h : 128 ≤ r) : goI r = false := by simp [goI, ltrI_high h, digI_high h]; omega
theorem spcI_high {r : Int} (h : 128 ≤ r) : spcI r = false := by simp [spcI]; omega

/-- How many bytes ahead of the first that may not be there are. -/
def runP (p : Int → Bool) (l : Bs) : Nat := (l.takeWhile fun b => p (b.toNat : Int)).length
theorem runP_nil (p : Int → Bool) : runP p [] = 0 := rfl
theorem runP_yes {p : Int → Bool} {b : UInt8} {t : Bs} (h : p (b.toNat : Int) = true) : runP p (b :: t) = runP p t + 1 := by simp [runP, h]
theorem runP_no {p : Int → Bool} {b : UInt8} {t : Bs} (h : p (b.toNat : Int) = false) : runP p (b :: t) = 0 := by simp [runP, h]
theorem runP_le (p : Int → Bool) : ∀ l : Bs, runP p l ≤ l.length
  | [] => Nat.le_refl _
  | b :: t => by
    cases h : p (b.toNat : Int)
    · rw [runP_no h]; omega
    · rw [runP_yes h]; have := runP_le p t; simp; omega
theorem runP_all (p : Int → Bool) : ∀ (l : Bs) (b : UInt8), b ∈ l.take (runP p l) → p (b.toNat : Int) = true
  | [], b, h => by simp at h
  | c :: t, b, h => by
    cases hc : p (c.toNat : Int)
    · rw [runP_no hc] at h; simp at h
    · rw [runP_yes hc, List.take_succ_cons] at h
      rcases List.mem_cons.1 h with rfl | h
      · exact hc
      · exact runP_all p t b h

def signsL : List Bs := [[60, 61], [62, 61], [60, 62], [40], [41], [44], [61], [60], [62], [42]]
def signIn (ss : List Bs) (l : Bs) : Bs := (ss.find? fun x => hasPrefix l x).getD []
def signB (l : Bs) : Bs := signIn signsL l
theorem signIn_yes {ss : List Bs} {x l : Bs} (h : hasPrefix l x = true) : signIn (x :: ss) l = x := by simp [signIn, h]
theorem signIn_no {ss : List Bs} {x l : Bs} (h : hasPrefix l x = false) : signIn (x :: ss) l = signIn ss l := by simp [signIn, h]

abbrev Q4 := Nat × Bs × Int × Nat
def numT (d : Bs) : Q4 := if (prsV d).2.2.2 = 0 then (2, d, (prsV d).2.1, d.length) else (0, [], 0, 0)
def wordT (d : Bs) : Q4 := if 12 < d.length then (0, [], 0, 0) else (1, foldR d, 0, d.length)
def quoT (l : Bs) : Q4 := if (unq l).2.2 = 0 then (3, (unq l).1, 0, (unq l).2.1) else (0, [], 0, 0)
def sgnT (l : Bs) : Q4 := (4, signB l, 0, (signB l).length)
/-- The token that a text begins with: kind, text, number, how many bytes (0: none). -/
def begB : Bs → Q4
  | [] => (0, [], 0, 0)
  | b :: t =>
    if b = 45 then numT ((b :: t).take (1 + runP digI t)) else if digI (b.toNat : Int) then numT ((b :: t).take (runP digI (b :: t)))
    else if ltrI (b.toNat : Int) then wordT ((b :: t).take (runP goI (b :: t))) else if b = 39 then quoT (b :: t) else sgnT (b :: t)

theorem begB_cons (b : UInt8) (t : Bs) : begB (b :: t) = if b = 45 then numT ((b :: t).take (1 + runP digI t)) else if digI (b.toNat : Int) then numT ((b :: t).take (runP digI (b :: t)))
    else if ltrI (b.toNat : Int) then wordT ((b :: t).take (runP goI (b :: t))) else if b = 39 then quoT (b :: t) else sgnT (b :: t) := rfl
/-- A token: kind, text, number, place. -/
structure Tk where
  k : Nat
  t : Bs
  n : Int
  a : Nat
def lexG : Nat → Nat → Bs → List Tk → List Tk × Nat × Nat
  | 0, _, _, acc => (acc, 0, 0)
  | _ + 1, _, [], acc => (acc, 0, 0)
  | f + 1, pos, b :: t, acc =>
    if spcI (b.toNat : Int) then lexG f (pos + 1) t acc
    else if (begB (b :: t)).2.2.2 = 0 then ([], pos, 8)
    else if acc.length = 100 then ([], pos, 4)
    else lexG f (pos + (begB (b :: t)).2.2.2) ((b :: t).drop (begB (b :: t)).2.2.2) (acc ++ [⟨(begB (b :: t)).1, (begB (b :: t)).2.1, (begB (b :: t)).2.2.1, pos⟩])
theorem lexG_fuel : ∀ (n m : Nat) (pos : Nat) (l : Bs) (acc : List Tk), l.length ≤ n → l.length ≤ m → lexG n pos l acc = lexG m pos l acc
  | 0, m, pos, l, acc, h1, h2 => by
    obtain rfl := List.eq_nil_of_length_eq_zero (Nat.le_zero.1 h1)
    cases m <;> rfl
  | n + 1, 0, pos, l, acc, h1, h2 => by
    obtain rfl := List.eq_nil_of_length_eq_zero (Nat.le_zero.1 h2)
    rfl
  | n + 1, m + 1, pos, [], acc, h1, h2 => rfl
  | n + 1, m + 1, pos, b :: t, acc, h1, h2 => by
    simp only [List.length_cons] at h1 h2
    unfold lexG
    split
    · exact lexG_fuel n m _ _ _ (by omega) (by omega)
    · split
      · rfl
      · split
        · rfl
        · refine lexG_fuel n m _ _ _ ?_ ?_ <;> (rw [List.length_drop, List.length_cons]; omega)
def lexB (pos : Nat) (l : Bs) (acc : List Tk) : List Tk × Nat × Nat := lexG l.length pos l acc
theorem lexB_nil (pos : Nat) (acc : List Tk) : lexB pos [] acc = (acc, 0, 0) := rfl
theorem lexB_space {pos : Nat} {b : UInt8} {t : Bs} {acc : List Tk} (h : spcI (b.toNat : Int) = true) : lexB pos (b :: t) acc = lexB (pos + 1) t acc := by
  show lexG (t.length + 1) pos (b :: t) acc = _
  rw [lexG, if_pos h]; rfl
theorem lexB_err {pos : Nat} {b : UInt8} {t : Bs} {acc : List Tk} (h : spcI (b.toNat : Int) = false) (h0 : (begB (b :: t)).2.2.2 = 0) : lexB pos (b :: t) acc = ([], pos, 8) := by
  show lexG (t.length + 1) pos (b :: t) acc = _
  rw [lexG, if_neg (by simp [h]), if_pos h0]
theorem lexB_full {pos : Nat} {b : UInt8} {t : Bs} {acc : List Tk} (h : spcI (b.toNat : Int) = false) (h0 : (begB (b :: t)).2.2.2 ≠ 0) (h1 : acc.length = 100) : lexB pos (b :: t) acc = ([], pos, 4) := by
  show lexG (t.length + 1) pos (b :: t) acc = _
  rw [lexG, if_neg (by simp [h]), if_neg h0, if_pos h1]
theorem lexB_tok {pos : Nat} {b : UInt8} {t : Bs} {acc : List Tk} (h : spcI (b.toNat : Int) = false) (h0 : (begB (b :: t)).2.2.2 ≠ 0) (h1 : acc.length ≠ 100) :
    lexB pos (b :: t) acc = lexB (pos + (begB (b :: t)).2.2.2) ((b :: t).drop (begB (b :: t)).2.2.2) (acc ++ [⟨(begB (b :: t)).1, (begB (b :: t)).2.1, (begB (b :: t)).2.2.1, pos⟩]) := by
  show lexG (t.length + 1) pos (b :: t) acc = _
  rw [lexG, if_neg (by simp [h]), if_neg h0, if_neg h1]
  refine lexG_fuel _ _ _ _ _ ?_ (Nat.le_refl _)
  rw [List.length_drop, List.length_cons]; omega
/-- A text's tokens, or the error, and where. -/
def toks (l : Bs) : List Tk × Nat × Nat := if 400 < l.length then ([], 0, 4) else lexB 0 l []

/-! ### how long a token is, and its last byte -/
def Ends (l : Bs) (n : Nat) : Prop := n ≤ l.length ∧ (0 < n → (l.getD (n - 1) 0).toNat < 128)
theorem ends_take {l : Bs} {m : Nat} (hm : m ≤ l.length) (h : ∀ b ∈ l.take m, b.toNat < 128) : Ends l m := by
  refine ⟨hm, fun h0 => h _ ?_⟩
  have e : l.getD (m - 1) 0 = l[m - 1] := by rw [List.getD_eq_getElem?_getD, List.getElem?_eq_getElem (by omega)]; rfl
  rw [e, List.mem_take_iff_getElem]
  exact ⟨m - 1, by omega, rfl⟩
theorem scan_mark : ∀ (n : Nat) (l x : Bs) (k : Nat), l.length ≤ n → scan l = some (x, k) → l.getD k 0 = 39
  | _, [], x, k, _, h => by simp [scan] at h
  | _, [b], x, k, _, h => by
    unfold scan at h
    split at h
    · rename_i hb
      simp only [Option.some.injEq, Prod.mk.injEq] at h
      rw [← h.2]; simpa using hb
    · simp at h
  | 0, b :: c :: t, x, k, hl, _ => by simp at hl
  | n + 1, b :: c :: t, x, k, hl, h => by
    simp only [List.length_cons] at hl
    unfold scan at h
    split at h
    · rename_i hb
      split at h
      · cases hs : scan t with
        | none => rw [hs] at h; simp at h
        | some y =>
          rw [hs] at h
          simp only [Option.map_some, Option.some.injEq, Prod.mk.injEq] at h
          have := scan_mark n t y.1 y.2 (by omega) hs
          rw [← h.2]
          simpa using this
      · simp only [Option.some.injEq, Prod.mk.injEq] at h
        rw [← h.2]; simpa using hb
    · cases hs : scan (c :: t) with
      | none => rw [hs] at h; simp at h
      | some y =>
        rw [hs] at h
        simp only [Option.map_some, Option.some.injEq, Prod.mk.injEq] at h
        have := scan_mark n (c :: t) y.1 y.2 (by simp; omega) hs
        rw [← h.2]
        simpa using this
theorem low_of {p : Int → Bool} (hp : ∀ r, 128 ≤ r → p r = false) {b : UInt8} (h : p (b.toNat : Int) = true) : b.toNat < 128 := by
  by_cases hb : b.toNat < 128
  · exact hb
  · rw [hp _ (by omega)] at h; simp at h
theorem sign_low : ∀ x ∈ signsL, ∀ b ∈ x, b.toNat < 128 := by decide
theorem signB_mem (l : Bs) : signB l = [] ∨ (signB l ∈ signsL ∧ hasPrefix l (signB l) = true) := by
  unfold signB signIn
  cases h : signsL.find? fun x => hasPrefix l x with
  | none => exact .inl rfl
  | some x => exact .inr ⟨List.mem_of_find?_eq_some h, List.find?_some h⟩
theorem begB_ends (l : Bs) : Ends l (begB l).2.2.2 := by
  have hz : Ends l 0 := ⟨Nat.zero_le _, fun h => by omega⟩
  have hnum : ∀ m, m ≤ l.length → (∀ b ∈ l.take m, b.toNat < 128) → Ends l (numT (l.take m)).2.2.2 := fun m hm h => by
    unfold numT
    split
    · show Ends l (l.take m).length
      rw [List.length_take, Nat.min_eq_left hm]
      exact ends_take hm h
    · exact hz
  cases l with
  | nil => exact ⟨Nat.le_refl _, fun h => by simp [begB] at h⟩
  | cons b t =>
    rw [begB_cons]
    split
    · rename_i hb
      refine hnum (1 + runP digI t) (by have := runP_le digI t; simp only [List.length_cons]; omega) fun c hc => ?_
      rw [Nat.add_comm, List.take_succ_cons] at hc
      rcases List.mem_cons.1 hc with rfl | hc
      · rw [hb]; decide
      · exact low_of (fun r h => digI_high h) (runP_all digI t c hc)
    · split
      · exact hnum (runP digI (b :: t)) (runP_le _ _) fun c hc => low_of (fun r h => digI_high h) (runP_all digI _ c hc)
      · split
        · unfold wordT
          split
          · exact hz
          · show Ends _ ((b :: t).take _).length
            rw [List.length_take, Nat.min_eq_left (runP_le _ _)]
            exact ends_take (runP_le _ _) fun c hc => low_of (fun r h => goI_high h) (runP_all goI _ c hc)
        · split
          · rename_i hb
            subst hb
            unfold quoT
            split
            · rename_i h0
              show Ends _ (unq (39 :: t)).2.1
              unfold unq at h0 ⊢
              simp only [if_true] at h0 ⊢
              cases hs : scan t with
              | none => rw [hs] at h0; simp at h0
              | some y =>
                rw [hs] at h0
                simp only at h0 ⊢
                split at h0
                · rename_i hr
                  rw [if_pos hr]
                  have h1 := scan_mark _ t y.1 y.2 (Nat.le_refl _) hs
                  have h2 := scan_some _ t y.1 y.2 (Nat.le_refl _) hs
                  refine ⟨by show y.2 + 2 ≤ _; simp; omega, fun _ => ?_⟩
                  show ((39 :: t).getD (y.2 + 1) 0).toNat < 128
                  rw [List.getD_cons_succ, h1]; decide
                · simp at h0
            · exact hz
          · show Ends _ (signB (b :: t)).length
            rcases signB_mem (b :: t) with h | ⟨h1, h2⟩
            · rw [h]; exact hz
            · have hp : signB (b :: t) <+: (b :: t) := by simpa [hasPrefix] using h2
              refine ends_take hp.length_le fun c hc => sign_low _ h1 c ?_
              rw [List.prefix_iff_eq_take.1 hp]; exact hc
end Go.Proofs.YtipnaphikbjhbaaDoor
