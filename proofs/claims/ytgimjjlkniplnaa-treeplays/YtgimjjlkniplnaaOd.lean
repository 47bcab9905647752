/- Which of two rows comes first: a total order. -/
import Derived.Lib.Small
import Derived.Lib.Bytealg
namespace Go.Proofs.Ytgimjjlkniplnaa
open Go

/-- A comparison that answers -1, 0 or 1, and is a total order. -/
structure Ord3 {α : Type} (c : α → α → Int) : Prop where
  three : ∀ x y, c x y = -1 ∨ c x y = 0 ∨ c x y = 1
  eq : ∀ x y, c x y = 0 ↔ x = y
  neg : ∀ x y, c y x = - c x y
  trans : ∀ x y z, c x y = -1 → c y z = -1 → c x z = -1
def lexP {α β : Type} (c : α → α → Int) (d : β → β → Int) (x y : α × β) : Int := if c x.1 y.1 = 0 then d x.2 y.2 else c x.1 y.1
theorem Ord3.pair {α β : Type} {c : α → α → Int} {d : β → β → Int} (hc : Ord3 c) (hd : Ord3 d) : Ord3 (lexP c d) where
  three x y := by
    unfold lexP
    split
    · exact hd.three _ _
    · exact hc.three _ _
  eq x y := by
    obtain ⟨a, b⟩ := x
    obtain ⟨a', b'⟩ := y
    unfold lexP
    by_cases h : c a a' = 0
    · rw [if_pos h, hd.eq, Prod.mk.injEq]
      exact ⟨fun e => ⟨(hc.eq _ _).1 h, e⟩, fun e => e.2⟩
    · rw [if_neg h, Prod.mk.injEq]
      exact ⟨fun e => absurd e h, fun e => absurd ((hc.eq _ _).2 e.1) h⟩
  neg x y := by
    unfold lexP
    have h := hc.neg x.1 y.1
    by_cases e : c x.1 y.1 = 0
    · rw [if_pos e, if_pos (by omega), hd.neg]
    · rw [if_neg e, if_neg (by omega), h]
  trans x y z h1 h2 := by
    unfold lexP at *
    by_cases e1 : c x.1 y.1 = 0
    · rw [if_pos e1] at h1
      have ex := (hc.eq _ _).1 e1
      rw [ex]
      by_cases e2 : c y.1 z.1 = 0
      · rw [if_pos e2] at h2 ⊢
        exact hd.trans _ _ _ h1 h2
      · rw [if_neg e2] at h2 ⊢
        exact h2
    · rw [if_neg e1] at h1
      by_cases e2 : c y.1 z.1 = 0
      · have ez := (hc.eq _ _).1 e2
        rw [← ez, if_neg e1]
        exact h1
      · rw [if_neg e2] at h2
        have h3 := hc.trans _ _ _ h1 h2
        rw [if_neg (by omega)]
        exact h3
def lexL {α : Type} (c : α → α → Int) : List α → List α → Int
  | [], [] => 0
  | [], _ :: _ => -1
  | _ :: _, [] => 1
  | x :: a, y :: b => if c x y = 0 then lexL c a b else c x y
theorem lexL_three {α : Type} {c : α → α → Int} (h : Ord3 c) : ∀ x y, lexL c x y = -1 ∨ lexL c x y = 0 ∨ lexL c x y = 1
  | [], [] => .inr (.inl rfl)
  | [], _ :: _ => .inl rfl
  | _ :: _, [] => .inr (.inr rfl)
  | x :: a, y :: b => by
    unfold lexL
    split
    · exact lexL_three h a b
    · exact h.three x y
theorem lexL_eq {α : Type} {c : α → α → Int} (h : Ord3 c) : ∀ x y, lexL c x y = 0 ↔ x = y
  | [], [] => by simp [lexL]
  | [], _ :: _ => by simp [lexL]
  | _ :: _, [] => by simp [lexL]
  | x :: a, y :: b => by
    unfold lexL
    by_cases e : c x y = 0
    · rw [if_pos e, lexL_eq h a b, List.cons.injEq]
      exact ⟨fun q => ⟨(h.eq _ _).1 e, q⟩, fun q => q.2⟩
    · rw [if_neg e, List.cons.injEq]
      exact ⟨fun q => absurd q e, fun q => absurd ((h.eq _ _).2 q.1) e⟩
theorem lexL_neg {α : Type} {c : α → α → Int} (h : Ord3 c) : ∀ x y, lexL c y x = - lexL c x y
  | [], [] => rfl
  | [], _ :: _ => rfl
  | _ :: _, [] => rfl
  | x :: a, y :: b => by
    unfold lexL
    have q := h.neg x y
    by_cases e : c x y = 0
    · rw [if_pos e, if_pos (by omega), lexL_neg h a b]
    · rw [if_neg e, if_neg (by omega), q]
theorem lexL_trans {α : Type} {c : α → α → Int} (h : Ord3 c) : ∀ x y z, lexL c x y = -1 → lexL c y z = -1 → lexL c x z = -1
  | [], [], z, h1, _ => by simp [lexL] at h1
  | [], _ :: _, [], _, h2 => by simp [lexL] at h2
  | [], _ :: _, _ :: _, _, _ => rfl
  | _ :: _, [], z, h1, _ => by simp [lexL] at h1
  | _ :: _, _ :: _, [], _, h2 => by simp [lexL] at h2
  | x :: a, y :: b, z :: d, h1, h2 => by
    unfold lexL at *
    by_cases e1 : c x y = 0
    · rw [if_pos e1] at h1
      rw [(h.eq _ _).1 e1]
      by_cases e2 : c y z = 0
      · rw [if_pos e2] at h2 ⊢
        exact lexL_trans h a b d h1 h2
      · rw [if_neg e2] at h2 ⊢
        exact h2
    · rw [if_neg e1] at h1
      by_cases e2 : c y z = 0
      · rw [← (h.eq _ _).1 e2, if_neg e1]
        exact h1
      · rw [if_neg e2] at h2
        have h3 := h.trans _ _ _ h1 h2
        rw [if_neg (by omega)]
        exact h3
theorem Ord3.list {α : Type} {c : α → α → Int} (h : Ord3 c) : Ord3 (lexL c) := ⟨lexL_three h, lexL_eq h, lexL_neg h, lexL_trans h⟩
theorem ordInt : Ord3 Lib.compareInt where
  three x y := by unfold Lib.compareInt; split; exact .inl rfl; split; exact .inr (.inr rfl); exact .inr (.inl rfl)
  eq x y := by unfold Lib.compareInt; split; simp; omega; split; simp; omega; simp; omega
  neg x y := by unfold Lib.compareInt; split <;> split <;> (try split) <;> (try split) <;> omega
  trans x y z h1 h2 := by
    unfold Lib.compareInt at *
    split at h1
    · split at h2
      · rw [if_pos (by omega)]
      · split at h2 <;> simp at h2
    · split at h1 <;> simp at h1
def cmpU (x y : UInt8) : Int := if x < y then -1 else if y < x then 1 else 0
theorem ordU : Ord3 cmpU where
  three x y := by unfold cmpU; split; exact .inl rfl; split; exact .inr (.inr rfl); exact .inr (.inl rfl)
  eq x y := by
    unfold cmpU
    by_cases h1 : x < y
    · rw [if_pos h1]; simp; rintro rfl; exact UInt8.lt_irrefl x h1
    · by_cases h2 : y < x
      · rw [if_neg h1, if_pos h2]; simp; rintro rfl; exact UInt8.lt_irrefl x h2
      · rw [if_neg h1, if_neg h2]; simp; exact UInt8.le_antisymm (UInt8.not_lt.1 h2) (UInt8.not_lt.1 h1)
  neg x y := by
    unfold cmpU
    by_cases h1 : x < y
    · have h2 : ¬ y < x := fun h => UInt8.lt_irrefl x (UInt8.lt_trans h1 h)
      simp [h1, h2]
    · by_cases h2 : y < x <;> simp [h1, h2]
  trans x y z h1 h2 := by
    unfold cmpU at *
    split at h1
    · split at h2
      · rename_i a b
        rw [if_pos (UInt8.lt_trans a b)]
      · split at h2 <;> simp at h2
    · split at h1 <;> simp at h1
theorem bytes_lex : ∀ a b : List UInt8, Lib.compareBytes a b = lexL cmpU a b
  | [], [] => rfl
  | [], _ :: _ => rfl
  | _ :: _, [] => rfl
  | x :: a, y :: b => by
    unfold Lib.compareBytes lexL cmpU
    have ih := bytes_lex a b
    by_cases h1 : x < y
    · simp [h1]
    · by_cases h2 : y < x
      · simp [h1, h2]
      · simp [h1, h2, ih]
        rfl
theorem ordB : Ord3 Lib.compareBytes := by
  have e : Lib.compareBytes = lexL cmpU := by funext a b; exact bytes_lex a b
  rw [e]
  exact ordU.list
def bs (s : ByteArray) : List UInt8 := s.data.toList
theorem bs_inj {a b : ByteArray} (h : bs a = bs b) : a = b := by
  obtain ⟨a⟩ := a
  obtain ⟨b⟩ := b
  unfold bs at h
  simp only at h
  rw [Array.toList_inj.1 h]
def cmpS (a b : ByteArray) : Int := Lib.compareBytes (bs a) (bs b)
theorem ordS : Ord3 cmpS where
  three _ _ := ordB.three _ _
  eq x y := by unfold cmpS; rw [ordB.eq]; exact ⟨bs_inj, fun e => by rw [e]⟩
  neg _ _ := ordB.neg _ _
  trans _ _ _ h1 h2 := ordB.trans _ _ _ h1 h2
end Go.Proofs.Ytgimjjlkniplnaa
