/- What waits, one sector behind the other; what a log on a disk holds. -/
import Derived.Test.YtnganmekiloigaaGb
namespace Go.Proofs.Ytnganmekiloigaa
/-- Writes that wait, one sector behind the other from b on. -/
def waitOf : Nat → List Bs → List (Nat × Bs)
  | _, [] => []
  | b, x :: r => (b, x) :: waitOf (b + 1) r
theorem waitOf_append : ∀ (X Y : List Bs) (b : Nat), waitOf b (X ++ Y) = waitOf b X ++ waitOf (b + X.length) Y
  | [], Y, b => by simp [waitOf]
  | x :: X, Y, b => by rw [List.cons_append, waitOf, waitOf_append X Y (b + 1), waitOf, List.cons_append, List.length_cons, show b + 1 + X.length = b + (X.length + 1) by omega]
theorem waitOf_length : ∀ (X : List Bs) (b : Nat), (waitOf b X).length = X.length
  | [], _ => rfl
  | x :: X, b => by rw [waitOf, List.length_cons, waitOf_length X, List.length_cons]
theorem land_wait (keep : Nat → Bool) : ∀ (X : List Bs) (k b : Nat) (s : List Bs) (j : Nat), b + X.length ≤ s.length → (land keep k (waitOf b X) s)[j]? = if b ≤ j ∧ j - b < X.length ∧ keep (k + (j - b)) = true then X[j - b]? else s[j]?
  | [], k, b, s, j, _ => by simp [waitOf, land]
  | x :: X, k, b, s, j, h => by
    rw [waitOf, land, land_wait keep X (k + 1) (b + 1) _ j (by split <;> simp at h ⊢ <;> omega)]
    by_cases hj : j = b
    · subst hj
      have h1 : j < s.length := by simp at h; omega
      by_cases hk : keep k = true
      · simp [hk, h1]; intro h; omega
      · simp [hk]; intro h; omega
    · have hs : (if keep k = true then s.set b x else s)[j]? = s[j]? := by split <;> simp [Ne.symm hj]
      rw [hs]
      by_cases hlt : b ≤ j
      · obtain ⟨m, rfl⟩ : ∃ m, j = b + (m + 1) := ⟨j - b - 1, by omega⟩
        have e1 : b + (m + 1) - (b + 1) = m := by omega
        have e2 : b + (m + 1) - b = m + 1 := by omega
        rw [e1, e2]
        simp only [List.length_cons, List.getElem?_cons_succ]
        by_cases hc : m < X.length ∧ keep (k + (m + 1)) = true
        · rw [if_pos ⟨by omega, hc.1, by rw [show k + 1 + m = k + (m + 1) by omega]; exact hc.2⟩, if_pos ⟨by omega, by omega, hc.2⟩]
        · rw [if_neg (fun h => hc ⟨h.2.1, by rw [show k + (m + 1) = k + 1 + m by omega]; exact h.2.2⟩), if_neg (fun h => hc ⟨by omega, h.2.2⟩)]
      · rw [if_neg (by omega), if_neg (by omega)]
/-- A log on a disk that does all it is asked: what is sure, and what is behind it. -/
structure Inv (R : Nat) (D : Dk) (h E cnt en u e1 : Nat) (sure more : List Bs) : Prop where
  cut : D.cut = false
  off : D.off = false
  len : D.secs.length = 2 * R
  half : h = 0 ∨ h = 1
  wait : D.wait = waitOf (h * R + u) (layAll E u more)
  chain : Chain (halfP D.secs h) 0 0 sure u e1
  ends : Ends (halfP D.secs h) u e1
  e1 : e1 ≤ E
  old : ∀ (i : Nat) (x : Pc), u ≤ i → (halfP D.secs h)[i]? = some x → x.e < E
  all : ∀ x ∈ pcs D.secs, x.e ≤ E
  other : (∃ r, standP (halfP D.secs h) 0 = some r ∧ 0 < u ∧ ∀ x ∈ halfP D.secs (1 - h), x.e < r.e) ∨ (sure = [] ∧ h = 0 ∧ ∀ x ∈ halfP D.secs 1, x.e = 0)
  ep : 0 < E ∧ E < 65000
  cnt' : cnt = sure.length + more.length
  en' : en = u + (layAll E u more).length
  room : en ≤ R
  recs : ∀ b ∈ more, 1 ≤ b.length ∧ b.length ≤ 3648
theorem epoch0_zero {H : List Pc} (h : ∀ x ∈ H, x.e = 0) : epoch0 H = 0 := by
  unfold epoch0
  cases hs : standP H 0 with
  | none => rfl
  | some r =>
    obtain ⟨f, h1, h2, h3, h4, _⟩ := stand_some hs
    have := h f (List.mem_of_getElem? h1)
    omega
theorem epoch0_lt {H : List Pc} {e : Nat} (he : 0 < e) (h : ∀ x ∈ H, x.e < e) : epoch0 H < e := by
  unfold epoch0
  cases hs : standP H 0 with
  | none => exact he
  | some r =>
    obtain ⟨f, h1, h2, _⟩ := stand_some hs
    have := h f (List.mem_of_getElem? h1)
    simp only; omega
theorem force_of {S : List Bs} {h : Nat} {r : Rc} (hh : h = 0 ∨ h = 1) (hs : standP (halfP S h) 0 = some r) (ho : ∀ x ∈ halfP S (1 - h), x.e < r.e) : forceP S = h := by
  have h0 : 0 < r.e := by obtain ⟨f, _, _, _, h4, _⟩ := stand_some hs; exact h4
  have e0 : epoch0 (halfP S h) = r.e := by unfold epoch0; rw [hs]
  have e1 := epoch0_lt h0 ho
  unfold forceP
  rcases hh with rfl | rfl
  · rw [if_neg (by simp at e1; omega)]
  · rw [if_pos (by simp at e1; omega)]
/-- The halves behind a crash. -/
theorem half_mixed {R u h : Nat} {S : List Bs} {X : List Bs} {keep : Nat → Bool} (hS : S.length = 2 * R) (hh : h = 0 ∨ h = 1) (hu : u + X.length ≤ R) :
    (halfP (land keep 0 (waitOf (h * R + u) X) S) h).length = (halfP S h).length ∧ (∀ i, i < u → (halfP (land keep 0 (waitOf (h * R + u) X) S) h)[i]? = (halfP S h)[i]?) ∧ Mixed (halfP S h) (halfP (land keep 0 (waitOf (h * R + u) X) S) h) u X keep ∧ halfP (land keep 0 (waitOf (h * R + u) X) S) (1 - h) = halfP S (1 - h) := by
  have hl : (land keep 0 (waitOf (h * R + u) X) S).length = 2 * R := by rw [land_length, hS]
  have hr : 2 * R / 2 = R := by omega
  have hb : h * R + u + X.length ≤ S.length := by rcases hh with rfl | rfl <;> omega
  have hk : h < 2 ∧ 1 - h < 2 := by omega
  have key : ∀ i, i < R → (halfP (land keep 0 (waitOf (h * R + u) X) S) h)[i]? = if u ≤ i ∧ i - u < X.length ∧ keep (i - u) = true then (X[i - u]?).map pcOf else (halfP S h)[i]? := fun i hi => by
    rw [halfP_get (by rw [hl, hr]; exact hi), halfP_get (by rw [hS, hr]; exact hi), hl, hr, hS, hr, land_wait keep X 0 _ S _ hb]
    by_cases hc : u ≤ i ∧ i - u < X.length ∧ keep (i - u) = true
    · have e : h * R + i - (h * R + u) = i - u := by omega
      rw [if_pos hc, if_pos ⟨by omega, by rw [e]; exact hc.2.1, by rw [e, Nat.zero_add]; exact hc.2.2⟩, e]
    · rw [if_neg hc]
      rw [if_neg (fun hq => hc (by
        have e : h * R + i - (h * R + u) = i - u := by omega
        rw [e, Nat.zero_add] at hq
        exact ⟨by omega, hq.2.1, hq.2.2⟩))]
  have hlH : (halfP (land keep 0 (waitOf (h * R + u) X) S) h).length = (halfP S h).length := by rw [halfP_length hk.1, halfP_length hk.1, hl, hS]
  refine ⟨hlH, fun i hi => ?_, fun i => ?_, ?_⟩
  · rw [key i (by omega), if_neg (by omega)]
  · by_cases hi : u + i < R
    · rw [key (u + i) hi]
      have e : u + i - u = i := by omega
      rw [e]
      by_cases hc : i < X.length ∧ keep i = true
      · rw [if_pos hc, if_pos ⟨by omega, hc⟩]
      · rw [if_neg hc, if_neg (fun hq => hc hq.2)]
    · rw [if_neg (by omega), List.getElem?_eq_none (by rw [hlH, halfP_length hk.1, hS]; omega), List.getElem?_eq_none (by rw [halfP_length hk.1, hS]; omega)]
  · apply List.ext_getElem?
    intro i
    by_cases hi : i < R
    · rw [halfP_get (by rw [hl, hr]; exact hi), halfP_get (by rw [hS, hr]; exact hi), hl, hr, hS, hr, land_wait keep X 0 _ S _ hb, if_neg]
      rcases hh with rfl | rfl <;> simp <;> omega
    · rw [List.getElem?_eq_none (by rw [halfP_length hk.2, hl]; omega), List.getElem?_eq_none (by rw [halfP_length hk.2, hS]; omega)]
end Go.Proofs.Ytnganmekiloigaa
