/- Rows of bytes that are read again; small facts. -/
import Derived.Test.YthfkmedpcmiibaaDoorApp
import Derived.Test.YthfkmedpcmiibaaDoorRef
namespace Go.Proofs.YthfkmedpcmiibaaDoor
open Go.RowKit Go.Lib

/-- A row of the call's own reads as its bytes. -/
theorem brow_at {B : Nat} {v : Value} {l : Bs} {w : World} (h : BRow B v l w) (hl : 0 < l.length) : ∃ g c, v = .slice (some ⟨g, 0, none⟩) l.length c ∧ l.length ≤ c ∧ c ≤ maxLen ∧ B ≤ g ∧ At w g 0 l := by
  have h' := h
  obtain ⟨h1, ⟨rfl, h2⟩ | ⟨g, cap, cur, rfl, hBg, hw, hn, hcap, hsz, htk⟩⟩ := h
  · omega
  · refine ⟨g, cap, rfl, hn, hcap, hBg, fun i hi => ?_⟩
    have := World.ownsRow.cells h' (g := g) rfl i (.int .u8 ((l.getD i 0).toNat : Int)) (by rw [cellsB_get l i hi])
    rw [show ((⟨g, 0, none⟩ : Addr).add i) = ⟨g, 0 + i, none⟩ by unfold Addr.add; split <;> simp_all] at this
    exact this
theorem brow_sb {B : Nat} {v : Value} {l : Bs} {w : World} (h : BRow B v l w) : SB w v l := by
  by_cases hl : 0 < l.length
  · obtain ⟨g, c, h1, h2, h3, _, h5⟩ := brow_at h hl
    exact .inr ⟨g, 0, c, h1, hl, h2, h3, h5⟩
  · have e : l = [] := List.eq_nil_of_length_eq_zero (by omega)
    subst e
    obtain ⟨h1, ⟨rfl, h2⟩ | ⟨g, cap, cur, rfl, _⟩⟩ := h
    · exact .inl ⟨_, _, rfl, rfl⟩
    · exact .inl ⟨_, _, rfl, rfl⟩

theorem At.get {w : World} {b o : Nat} {l : Bs} (h : At w b o l) (i : Nat) (x : UInt8) (hx : l[i]? = some x) : w.cell? ⟨b, o + i, none⟩ = some (.int .u8 (x.toNat : Int)) := by
  have hi : i < l.length := (List.getElem?_eq_some_iff.1 hx).1
  rw [h i hi]
  simp [List.getD, hx]

theorem ne_list {a b : ByteArray} (h : a ≠ b) : (a.toList == b.toList) = false := by
  rw [beq_eq_false_iff_ne, toList_data, toList_data]
  intro e
  exact h (ByteArray.ext (Array.toList_inj.1 e))
theorem str_eq {l : Bs} {s : ByteArray} : str l = s ↔ l = bs s := by
  constructor
  · intro h; rw [← h, bs_str]
  · intro h; rw [h, str_bs]

theorem below_drewN {B : Nat} {a w : World} (h : Below B a w) (n : Nat) : Below B a (w.drewN n) := h.trans ⟨rfl, rfl, rfl, Nat.le_refl _, fun _ _ => rfl⟩
theorem bs_inj {s s' : ByteArray} (h : bs s = bs s') : s = s' := by rw [← str_bs s, h, str_bs]
theorem bytesV_pos (k n : Int) (l : Bs) : 0 < (bytesV k n l).length := by unfold bytesV; split <;> simp [be8_length]

theorem rdV_bytes {k n : Int} {l : Bs} (hr : rightV k n l = true) (h : inI64 n) (p : Bs) : rdV (bytesV k n l ++ p) = (k, n, l, (bytesV k n l).length, 0) := by
  rcases rightV_cases hr with ⟨rfl, rfl⟩ | ⟨rfl, rfl, hs⟩
  · rw [bytesV_int, List.cons_append]
    unfold inI64 at h
    have ht : (be8 (n + 9223372036854775808).toNat ++ p).take 8 = be8 (n + 9223372036854775808).toNat := by
      rw [List.take_append_of_le_length (by rw [be8_length]; omega), List.take_of_length_le (by rw [be8_length]; omega)]
    unfold rdV
    rw [begunV_int (by rw [List.length_append, be8_length]; omega), ht, num_be8 _ (by omega)]
    simp only [rightV_int, decide_true, if_true, List.length_cons, be8_length]
    congr 2
    omega
  · rw [bytesV_text, List.cons_append, List.append_assoc, List.singleton_append, rdV_text (cutZ_append l p (right_bytes hs)), hs]
    simp

end Go.Proofs.YthfkmedpcmiibaaDoor
