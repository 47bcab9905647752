/- Bytes that are a row's, and bytes that are none's: no program. -/
import Derived.Test.YtolggmmlaohpdabDoorOrdr
namespace Go.Proofs.YtolggmmlaohpdabDoor
open Go.RowKit Go.Lib

theorem be8_num (t : Bs) (h : t.length = 8) : be8 (num t) = t := by
  have h1 : num t < 18446744073709551616 := by have := num_lt t; rw [h] at this; exact this
  refine cb_zero _ _ ?_
  rw [num_cmp _ _ (by rw [be8_length, h]), num_be8 _ h1]
  simp [compareInt]

theorem cutZ_split : ∀ {t x : Bs}, cutZ t = some x → t = x ++ 0 :: t.drop (x.length + 1)
  | [], x, h => by simp [cutZ] at h
  | b :: t, x, h => by
    simp only [cutZ] at h
    split at h
    · rename_i hb
      simp only [Option.some.injEq] at h; subst h; subst hb; simp
    · simp only [Option.map_eq_some_iff] at h
      obtain ⟨y, hy, rfl⟩ := h
      have := cutZ_split hy
      simp only [List.cons_append, List.length_cons, List.drop_succ_cons]
      rw [← this]

/-- What Read takes is a value's bytes, and no others. -/
theorem rdV_inv (l : Bs) : (rdV l = (0, 0, [], 0, 3)) ∨
    ∃ x : Vt, okV x = true ∧ inI64 x.2.1 ∧ rdV l = (x.1, x.2.1, bs x.2.2, (bytesT x).length, 0) ∧ l = bytesT x ++ l.drop (bytesT x).length := by
  unfold rdV
  by_cases hr : rightV (begunV l).1 (begunV l).2.1 (begunV l).2.2.1 = true
  · rw [if_pos hr]
    right
    cases l with
    | nil => simp [begunV, rightV] at hr
    | cons b t =>
      by_cases h1 : b = 1
      · subst h1
        by_cases h8 : 8 ≤ t.length
        · have hB : begunV (1 :: t) = (1, (num (t.take 8) : Int) - 9223372036854775808, [], 9) := by simp [begunV, h8]
          have h88 : (t.take 8).length = 8 := by rw [List.length_take]; omega
          have hnl : num (t.take 8) < 18446744073709551616 := by have := num_lt (t.take 8); rw [h88] at this; exact this
          have hbt : bytesT (1, (num (t.take 8) : Int) - 9223372036854775808, ⟨#[]⟩) = 1 :: t.take 8 := by
            show bytesV 1 _ _ = _
            rw [bytesV_int]
            congr 1
            rw [show ((num (t.take 8) : Int) - 9223372036854775808 + 9223372036854775808).toNat = num (t.take 8) by omega]
            exact be8_num _ h88
          refine ⟨(1, (num (t.take 8) : Int) - 9223372036854775808, ⟨#[]⟩), ?_, ?_, ?_, ?_⟩
          · show rightV 1 _ _ = true
            rw [rightV_int]; rfl
          · unfold inI64; simp only; omega
          · rw [hB, hbt, List.length_cons, h88]
          · rw [hbt, List.length_cons, h88]; simp
        · simp [begunV, h8, rightV] at hr
      · by_cases h2 : b = 2
        · subst h2
          cases hc : cutZ t with
          | none => rw [begunV_open hc] at hr; simp [rightV] at hr
          | some x =>
            rw [begunV_text hc] at hr ⊢
            rw [rightV_text] at hr
            have hx : rightR x = true := by simpa using hr
            have hbt : bytesT (2, 0, str x) = 2 :: (x ++ [0]) := by
              show bytesV 2 _ _ = _
              rw [bytesV_text, bs_str]
            refine ⟨(2, 0, str x), ?_, ?_, ?_, ?_⟩
            · show rightV 2 _ _ = true
              rw [rightV_text, bs_str, hx]; rfl
            · unfold inI64; simp only; omega
            · rw [hbt, bs_str]; simp
            · rw [hbt]
              have := cutZ_split hc
              simp only [List.length_cons, List.length_append, List.length_nil, Nat.zero_add, List.drop_succ_cons, List.cons_append, List.append_assoc, List.nil_append]
              rw [← this]
        · simp [begunV, h1, h2, rightV] at hr
  · rw [if_neg hr]; exact .inl rfl

theorem okI_inj {x y : Vt} {p q : Bs} (hx : okV x = true) (hy : okV y = true) (ix : inI64 x.2.1) (iy : inI64 y.2.1) (h : bytesT x ++ p = bytesT y ++ q) : x = y ∧ p = q := by
  have h1 := rdV_bytes hx ix p
  have h2 := rdV_bytes hy iy q
  have h1' : rdV (bytesT x ++ p) = (x.1, x.2.1, bs x.2.2, (bytesT x).length, 0) := h1
  have h2' : rdV (bytesT y ++ q) = (y.1, y.2.1, bs y.2.2, (bytesT y).length, 0) := h2
  rw [h, h2'] at h1'
  simp only [Prod.mk.injEq] at h1'
  obtain ⟨e1, e2, e3, _⟩ := h1'
  have e3' : y.2.2 = x.2.2 := by have := congrArg str e3; rw [str_bs, str_bs] at this; exact this
  have e : y = x := Prod.ext e1 (Prod.ext e2 e3')
  subst e
  exact ⟨rfl, List.append_cancel_left h⟩

/-- Values ahead of bytes are the first ones of the row's that these bytes are. -/
theorem flat_pre : ∀ (pre vs : List Vt) (l q : Bs), (∀ x ∈ pre, okV x = true ∧ inI64 x.2.1) → (∀ x ∈ vs, okV x = true ∧ inI64 x.2.1) → flat pre ++ l = flat vs ++ 0 :: q → ∃ vs', vs = pre ++ vs' ∧ l = flat vs' ++ 0 :: q
  | [], vs, l, q, _, _, h => ⟨vs, rfl, by simpa [flat] using h⟩
  | x :: pre, [], l, q, hp, _, h => by
    obtain ⟨c, r, hc, h0⟩ := flat_begins (hp x (by simp)).1
    rw [flat_cons, hc] at h
    simp [flat] at h
    rw [h.1] at h0
    simp at h0
  | x :: pre, y :: vs, l, q, hp, hv, h => by
    rw [flat_cons, flat_cons, List.append_assoc, List.append_assoc] at h
    obtain ⟨e, h2⟩ := okI_inj (hp x (by simp)).1 (hv y (by simp)).1 (hp x (by simp)).2 (hv y (by simp)).2 h
    obtain ⟨vs', e2, e3⟩ := flat_pre pre vs l q (fun z hz => hp z (by simp [hz])) (fun z hz => hv z (by simp [hz])) h2
    exact ⟨vs', by rw [e, e2]; rfl, e3⟩

theorem two_two (x y : UInt8) : two ((x.toNat : Int) * 256 + (y.toNat : Int) - 1000) = [x, y] := by
  have hx := x.toNat_lt
  have hy := y.toNat_lt
  unfold two
  rw [show ((x.toNat : Int) * 256 + (y.toNat : Int) - 1000 + 1000).toNat = x.toNat * 256 + y.toNat by omega]
  rw [show (x.toNat * 256 + y.toNat) / 256 = x.toNat by omega, show (x.toNat * 256 + y.toNat) % 256 = y.toNat by omega]
  simp

/-- Bytes that are no row's. -/
def NoRow (L : Bs) : Prop := ∀ vs f t, rightRow vs f t = true → (∀ x ∈ vs, inI64 x.2.1) → L ≠ encR vs f t
/-- Bytes that begin with no values that end. -/
def NoVals (L : Bs) : Prop := ∀ vs p, (∀ x ∈ vs, okV x = true ∧ inI64 x.2.1) → L ≠ flat vs ++ 0 :: p

theorem noRow_four {vs : List Vt} {a b c d : UInt8} (hv : ∀ x ∈ vs, okV x = true ∧ inI64 x.2.1) (h : NoRow (flat vs ++ 0 :: [a, b, c, d])) :
    rightRow vs ((a.toNat : Int) * 256 + (b.toNat : Int) - 1000) ((c.toNat : Int) * 256 + (d.toNat : Int) - 1000) = false := by
  cases hr : rightRow vs ((a.toNat : Int) * 256 + (b.toNat : Int) - 1000) ((c.toNat : Int) * 256 + (d.toNat : Int) - 1000) with
  | false => rfl
  | true =>
    refine absurd ?_ (h vs _ _ hr (fun x hx => (hv x hx).2))
    unfold encR
    rw [two_two a b, two_two c d]
    simp

end Go.Proofs.YtolggmmlaohpdabDoor
