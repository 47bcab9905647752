/- Names. -/
import Derived.Test.YtpagnphabchfcaaGreatTe
import Derived.Maps.RangeWalk
import Derived.Sort.KeysCollected
import Derived.Sort.OwnSorted
namespace Go.Proofs.YtpagnphabchfcaaGreat
open Go.RowKit Go.Shelf
set_option maxRecDepth 100000
theorem has_DT (x : List UInt8) : ∀ E, Maps.has (DT E) (.string x) = (fnd E x).isSome
  | [] => rfl
  | y :: E => by
    by_cases h : y.1 = x
    · subst h
      rw [DT, Maps.has_put_same (k := .string y.1) (isMap_DT E) trivial]
      simp [fnd]
    · rw [DT, Maps.has_put_other (by simpa using Ne.symm h), has_DT x E]
      have : (y.1 == x) = false := by simpa using h
      simp [fnd, this]
def ofL (x : List UInt8) : ByteArray := ⟨x.toArray⟩
theorem bs_ofL (x : List UInt8) : bs (ofL x) = x := rfl
theorem ofL_bs (x : ByteArray) : ofL (bs x) = x := rfl
def RiseS (l : List ByteArray) : Prop := l.Pairwise fun a b => cmpS b a ≠ -1
theorem strictS_unique : ∀ {l m : List ByteArray}, l.Pairwise (fun a b => cmpS a b = -1) → m.Pairwise (fun a b => cmpS a b = -1) → (∀ x, x ∈ l ↔ x ∈ m) → l = m := by
  intro l m h1 h2 h3
  have n1 : l.Nodup := h1.imp (fun {a b} h e => by rw [e, (ordS.eq _ _).2 rfl] at h; omega)
  have n2 : m.Nodup := h2.imp (fun {a b} h e => by rw [e, (ordS.eq _ _).2 rfl] at h; omega)
  exact List.Perm.eq_of_pairwise (le := fun a b => cmpS a b = -1) (fun a b _ _ p q => by have := ordS.neg a b; omega) h1 h2 ((List.perm_ext_iff_of_nodup n1 n2).2 h3)
theorem names_eq {E : List (List UInt8 × Value)} {σ : List Tab} {ss : List (List UInt8)} {left : Lit → Bool} {vs : List ByteArray} (hs : SortedS σ) (hk : ∀ x, (fnd E (bs x)).isSome = true ↔ x ∈ nms σ) (hC : Collected (DT E) left ss) (hl : ∀ kl, left kl = false) (hp : vs.Perm (ss.map ofL)) (hr : RiseS vs) : vs = nms σ := by
  have hn : vs.Nodup := hp.nodup_iff.2 (List.Pairwise.map _ (fun a b h e => h (by have := congrArg bs e; simpa [bs_ofL] using this)) hC.1)
  refine strictS_unique ?_ ?_ fun x => ?_
  · refine (List.pairwise_and_iff.2 ⟨hr, hn⟩).imp (fun {a b} h => ?_)
    have h0 := h.1
    have h1 := ordS.three a b
    have h2 := ordS.neg a b
    have h3 : cmpS a b ≠ 0 := fun q => h.2 ((ordS.eq _ _).1 q)
    omega
  · exact List.pairwise_map.2 hs
  · rw [hp.mem_iff, ← hk, List.mem_map, ← has_DT]
    constructor
    · rintro ⟨y, hy, rfl⟩
      rw [bs_ofL]
      exact ((hC.2 y).1 hy).1
    · intro h
      exact ⟨bs x, (hC.2 _).2 ⟨h, hl _⟩, ofL_bs x⟩
def K75 : Prop := ∀ (w : World) (B : Nat) (v : Value) (vs : List ByteArray), OwnS w B v vs → B ≤ w.heap.size → vs.length ≤ 100000 →
    Calls Tryz.prog 75 #[v, .func (.func 76) #[] #[]] w fun e w' => e = .returned (.tuple #[]) ∧ ∃ vs', vs'.Perm vs ∧ RiseS vs' ∧ OwnS w' B v vs' ∧ Below B w w'
set_option maxHeartbeats 1000000 in
theorem names41 (k75 : K75) {w : World} {s m : Nat} {E : List (List UInt8 × Value)} {σ : List Tab} (h : SM w s m E) (hE : E.length ≤ 1000) (hs : SortedS σ) (hk : ∀ x, (fnd E (bs x)).isSome = true ↔ x ∈ nms σ) :
    Calls Tryz.prog 41 #[.pointer (some ⟨s, 0, none⟩)] w (TPost w (nms σ)) := by
  have HK75 : Hid K75 := k75
  have hown := h.map
  have hsl := hown.size_le
  have hbl := hown.lt
  have hc0 := h.blk.cell 0
  simp only [List.getElem?_cons_zero] at hc0
  have HK : Hid (∀ x, (fnd E (bs x)).isSome = true ↔ x ∈ nms σ) := hk
  have HS : Hid (SortedS σ) := hs
  clear h hk hs k75
  go_enter Tryz.func41, Tryz.ntmps41
  go_wp2_with (first
    | (at_range; refine wpList_range_own _ rfl _ 88 rfl 9 22 keyed9 Tryz.underlying88 _ m _ _ rfl hown ?_; intro w0 hrg0 hg0 hs0)
    | go_in)
  go_frame
  go_loopw [3] (fun fo wr => ∃ (left : Lit → Bool) (cnt : Nat) (ss : List (List UInt8)), wr.ranges Tryz.prog 9 heldR m w.heap.size E.length (DT E) left cnt ∧ Hid (ss.length + cnt ≤ Maps.size (DT E)) ∧ Hid (OwnS wr w.heap.size fo (ss.map ofL)) ∧ Hid (Collected (DT E) left ss) ∧ Hid (Below w.heap.size w wr)) (fun _ wr => wr.rangeLeft m w.heap.size)
  case atStart => exact ⟨_, _, [], hrg0, by show _ ≤ _; simp, OwnS.nil _ _, Collected.start _, (Below.refl _ _).grown hg0 (Nat.le_refl _) (fun j hj => by cases hj)⟩
  case round =>
    obtain ⟨left, cnt, ss, hrg, hcs, hO, hC, hB⟩ := hrel
    go_wp2_with (first
      | (at_next; refine wpList_next_ranges _ rfl _ rfl 9 keyed9 heldR (fun x => Value.string (ofL x)) (fun v => v) (fun key kl hk => by obtain ⟨x, hx, _⟩ := Maps.keyOf_str Tryz.underlying9 hk; exact ⟨x, hx⟩) (fun v y hv => ⟨v, rfl⟩) m w.heap.size E.length _ _ _ rfl hrg ?_ ?_)
      | go_in)
    · intro hcn hl0
      have hlen : (ss.map ofL).length ≤ 100000 := by have := hcs.out; simp; omega
      obtain ⟨p3, c3, hf⟩ := ownS_form hO.out
      subst hf
      have k := HK75.out _ _ _ _ hO.out hB.out.size hlen
      obtain ⟨N, hN⟩ : ∃ N, (ss.map ofL).length = N := ⟨_, rfl⟩
      have HN : Hid _ := hN
      rw [hN] at k ⊢
      clear hO hN hlen hrg
      go_wp2_with (go_at_call 75; (with_reducible refine k.mono ?_); rintro e w9 ⟨rfl, vs, hp, hr, hO9, hB9⟩)
      go_ret
      have he := names_eq HS.out HK.out hC.out hl0 hp hr
      have hlN : (nms σ).length = N := by rw [← he, hp.length_eq]; exact HN.out
      refine ⟨p3, c3, by rw [hlN]; rfl, ?_, hB.out.trans hB9⟩
      show OwnS _ _ _ _
      rw [hlN, ← he]
      exact hO9
    · intro x c kl yd yp w2 cnt2 hkey hlk hv hat hrg2 hlt hg2 hs2 hen
      try dsimp only at hkey hv hen ⊢
      obtain ⟨x', ex, hkl, _⟩ := Maps.keyOf_str Tryz.underlying9 hkey
      have hxx : x = x' := encStr_inj (show encStr x = encStr x' from ex)
      subst hxx
      subst hkl
      have hrow2 : OwnS w2 w.heap.size u3 (ss.map ofL) := World.ownsRow.kept hO.out hg2 (Or.inr (row_ne_iter hO.out hrg).symm)
      have hB2 : Below w.heap.size w w2 := hB.out.grown hg2 hB.out.size (fun j hj => by cases hj; exact Nat.le_refl _)
      have HApp := ownS_app (x := ofL x) hrow2 hB2 (by have := hcs.out; simp; omega) w2.heap.size rfl
      have HR2 : Hid (OwnS w2 w.heap.size u3 (ss.map ofL)) := hrow2
      have HG2 : Hid (w2.ranges Tryz.prog 9 heldR m w.heap.size E.length (DT E) (fun z => left z && !z.sameKey (.string x)) cnt2) := hrg2
      have HC2 : Hid (Collected (DT E) (fun z => left z && !z.sameKey (.string x)) (ss ++ [x])) := hC.out.step hlk hat
      clear hrow2 hrg2 hs2 hg2 hkey hv hat hlk hB2 ex
      go_wp2_with (at_builtin; refine wpList_append_ex (by rfl) (.tmp 16) (.tmp 18) 61 (by rfl) _ _ (by rfl) (by rfl) HApp ?_; rintro v7 w7 ⟨hO7, hG7, hB7⟩)
      have hrg3 := World.ranges.kept HG2.out hG7.out (row_ne_low HR2.out hbl) (row_ne_iter HR2.out HG2.out)
      go_roundw
      case rel => exact ⟨_, cnt2, ss ++ [x], hrg3, by have := hcs.out; show _ ≤ _; simp; omega, by show OwnS _ _ _ _; rw [List.map_append]; exact hO7.out, HC2.out, hB7.out⟩
      case measure => rw [hrg3.left_eq, hrg.left_eq]; exact hlt
end Go.Proofs.YtpagnphabchfcaaGreat
