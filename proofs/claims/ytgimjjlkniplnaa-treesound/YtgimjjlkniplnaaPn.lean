/- toward; levels, lowered. -/
import Derived.Test.YtgimjjlkniplnaaPm
namespace Go.Proofs.Ytgimjjlkniplnaa
open Go.RowKit Go.Shelf
set_option maxRecDepth 100000
/-- The kid at i is the one that has to do with k. -/
structure Tow (ks : List Kd) (k : ByteArray) (i : Nat) (x : Kd) : Prop where
  at_ : ks[i]? = some x
  mid : Mid (flat (ks.take i)) x.2 (flat (ks.drop (i + 1))) k
  le : 0 < i → lt k (fst x.2) = false
theorem mem_flat {ks : List Kd} {p : Pr} (h : p ∈ flat ks) : ∃ x ∈ ks, p ∈ x.2 := by
  obtain ⟨l, hl, hp⟩ := List.mem_flatten.1 h
  obtain ⟨x, hx, rfl⟩ := List.mem_map.1 hl
  exact ⟨x, hx, hp⟩
theorem tow_of {w : World} {h i : Nat} {ks : List Kd} {k : ByteArray} (hk : Kids w h ks) (hs : Srt (flat ks)) (hb : Behind ks k i) (h0 : 0 < ks.length) (hi : i ≤ ks.length) : ∃ x, Tow ks k (i - 1) x := by
  obtain ⟨x, hx⟩ : ∃ x, ks[i - 1]? = some x := ⟨_, List.getElem?_eq_getElem (by omega)⟩
  refine ⟨x, hx, ⟨fun p hp => ?_, fun p hp => ?_⟩, fun hi0 => ?_⟩
  · obtain ⟨y, hy, hpy⟩ := mem_flat hp
    obtain ⟨t, ht⟩ := List.getElem?_of_mem hy
    rw [List.getElem?_take] at ht
    split at ht
    · rename_i hti
      obtain ⟨q, hq, e⟩ := fst_mem (hk.pos (List.mem_of_getElem? hx))
      have h1 := flat_pair hs ht hx hti hpy hq
      rw [e] at h1
      have h2 : lt k (fst x.2) = false := by
        cases hz : lt k (fst x.2)
        · rfl
        · have := (hb (i - 1) x hx).1 hz
          omega
      exact lt_nlt h1 h2
    · cases ht
  · obtain ⟨y, hy, hpy⟩ := mem_flat hp
    obtain ⟨t, ht⟩ := List.getElem?_of_mem hy
    rw [List.getElem?_drop] at ht
    have h1 := (hb _ y ht).2 (by omega)
    have h2 := fst_le (kid_srt hs (List.mem_of_getElem? ht)) hpy
    exact lt_nlt h1 h2
  · cases hz : lt k (fst x.2)
    · rfl
    · have := (hb (i - 1) x hx).1 hz
      omega
theorem flat_cut {ks : List Kd} {i : Nat} {x : Kd} (h : ks[i]? = some x) : flat ks = flat (ks.take i) ++ x.2 ++ flat (ks.drop (i + 1)) := by
  conv => lhs; rw [← List.take_append_drop (i + 1) ks]
  rw [flat_app, flat_take h]
/-- Which kid it is. -/
def towI (ks : List Kd) (k : ByteArray) : Nat := (ks.takeWhile fun x => !lt k (fst x.2)).length - 1
theorem behind_one {ks : List Kd} {k : ByteArray} {i j : Nat} (hi : Behind ks k i) (hj : Behind ks k j) (li : i ≤ ks.length) (lj : j ≤ ks.length) : i = j := by
  rcases Nat.lt_trichotomy i j with h | h | h
  · obtain ⟨x, hx⟩ : ∃ x, ks[i]? = some x := ⟨_, List.getElem?_eq_getElem (by omega)⟩
    have := (hj i x hx).1 ((hi i x hx).2 (Nat.le_refl _))
    omega
  · exact h
  · obtain ⟨x, hx⟩ : ∃ x, ks[j]? = some x := ⟨_, List.getElem?_eq_getElem (by omega)⟩
    have := (hi j x hx).1 ((hj j x hx).2 (Nat.le_refl _))
    omega
theorem behind_tw : ∀ {ks : List Kd} {k : ByteArray}, (∀ (t u : Nat) (x y : Kd), ks[t]? = some x → ks[u]? = some y → t < u → lt (fst x.2) (fst y.2) = true) → Behind ks k (ks.takeWhile fun x => !lt k (fst x.2)).length
  | [], k, _ => fun t x h => by cases h
  | a :: l, k, hm => by
    have ih := @behind_tw l k (fun t u x y hx hy htu => hm (t + 1) (u + 1) x y (by simpa using hx) (by simpa using hy) (by omega))
    intro t x ht
    cases hz : lt k (fst a.2) with
    | true =>
      rw [List.takeWhile_cons_of_neg (by simp [hz])]
      refine ⟨fun _ => Nat.zero_le _, fun _ => ?_⟩
      cases t with
      | zero => cases ht; exact hz
      | succ t => exact lt_trans hz (hm 0 (t + 1) a x rfl ht (by omega))
    | false =>
      rw [List.takeWhile_cons_of_pos (by simp [hz]), List.length_cons]
      cases t with
      | zero => cases ht; rw [hz]; simp
      | succ t =>
        have := ih t x (by simpa using ht)
        rw [this]
        omega
theorem kids_mono {w : World} {h : Nat} {ks : List Kd} (hk : Kids w h ks) (hs : Srt (flat ks)) : ∀ (t u : Nat) (x y : Kd), ks[t]? = some x → ks[u]? = some y → t < u → lt (fst x.2) (fst y.2) = true := fun t u x y hx hy htu => by
  obtain ⟨p, hp, e1⟩ := fst_mem (hk.pos (List.mem_of_getElem? hx))
  obtain ⟨q, hq, e2⟩ := fst_mem (hk.pos (List.mem_of_getElem? hy))
  rw [← e1, ← e2]
  exact flat_pair hs hx hy htu hp hq
theorem tw_le (ks : List Kd) (k : ByteArray) : (ks.takeWhile fun x => !lt k (fst x.2)).length ≤ ks.length := (List.takeWhile_prefix _).length_le
theorem tow_i {w : World} {h : Nat} {ks : List Kd} {k : ByteArray} (hk : Kids w h ks) (hs : Srt (flat ks)) (h0 : 0 < ks.length) : ∃ x, Tow ks k (towI ks k) x := tow_of hk hs (behind_tw (kids_mono hk hs)) h0 (tw_le ks k)
def TPost (w : World) (ks : List Kd) (k : ByteArray) (e : Ending) (w' : World) : Prop := e = .returned (.int .i64 (towI ks k : Int)) ∧ Below w.heap.size w w'
set_option maxHeartbeats 1000000 in
theorem toward49 {w : World} {h : Nat} {sl : Value} {s k : ByteArray} {t : Int} {ks : List Kd} (hl : LV EK w sl (ks.map (·.1))) (hk : Kids w h ks) (hs : Srt (flat ks)) (hn : ks.length ≤ 1000) (h0 : 0 < ks.length) :
    Calls Try.prog 49 #[.agg #[sl, .string s, .int .i64 t], .string k] w (TPost w ks k) := by
  obtain ⟨a, c, rfl⟩ := hl.form
  rw [List.length_map] at hl ⊢
  have hB : Below w.heap.size w ((w.alloc (.cells #[.slice a ks.length c, .string s, .int .i64 t] 72)).alloc (.cells #[.string k] 9)) := bal (al _ _) _
  have hbx : Box ((w.alloc (.cells #[.slice a ks.length c, .string s, .int .i64 t] 72)).alloc (.cells #[.string k] 9)) w.heap.size (w.heap.size + 1) (.slice a ks.length c) s t k :=
    ⟨(blk_new w [.slice a ks.length c, .string s, .int .i64 t] 72).below (al _ _), blk_at (w.alloc (.cells #[.slice a ks.length c, .string s, .int .i64 t] 72)) [.string k] 9 (by simp)⟩
  have k60 := search60 hbx (hl.below hB) (hk.below hB) hs hn
  have HT : Hid (∀ i, i ≤ ks.length → Behind ks k i → i - 1 = towI ks k) := fun i hi hb => by rw [behind_one hb (behind_tw (kids_mono hk hs)) hi (tw_le ks k)]; rfl
  have HB : Hid _ := hB
  generalize ks.length = n at *
  clear hl hk hs hbx hB
  go_enter Try.func49, Try.ntmps49
  go_wp2_with (go_at_call 60; (with_reducible refine k60.mono ?_); rintro e w1 ⟨i, hi, hBh, rfl, hB1⟩; obtain ⟨j, hj⟩ : ∃ j : Nat, j = i - 1 := ⟨_, rfl⟩; have hw1 : wrap64 ((i : Int) - 1) = (i : Int) - 1 := IntWalk.wrap64_in _ (by omega); have hw2 : max (0 : Int) ((i : Int) - 1) = (j : Int) := (by omega); have HT2 := HT.out i hi hBh; rw [← hj] at HT2; have HT3 : Hid _ := HT2; have HB1 : Hid _ := hB1; clear hj HT2 hBh)
  go_ret
  exact ⟨by rw [← HT3.out]; rfl, bmore HB.out HB1.out⟩
end Go.Proofs.Ytgimjjlkniplnaa
