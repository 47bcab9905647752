/- Delete, Len, Height, Count, Fork. -/
import Derived.Test.YtgimjjlkniplnaaTs
namespace Go.Proofs.Ytgimjjlkniplnaa
open Go.RowKit Go.Shelf
set_option maxRecDepth 100000
attribute [local go_sem] ta64_64 ta72_64 ta72_72 ta64_72 tb64_64 tb72_72
theorem exists_at : ∀ {kv : List Pr} (k : ByteArray), Srt kv → ∃ i, At kv k i
  | [], k, _ => ⟨0, fun j p h => by cases h⟩
  | a :: l, k, hs => by
    obtain ⟨ha, hl⟩ := List.pairwise_cons.1 hs
    obtain ⟨i, hi⟩ := exists_at k hl
    cases hz : lt a.1 k with
    | true =>
      refine ⟨i + 1, fun j p hj => ?_⟩
      cases j with
      | zero => cases hj; rw [hz]; simp
      | succ j => rw [hi j p (by simpa using hj)]; omega
    | false =>
      refine ⟨0, fun j p hj => ⟨fun hl2 => ?_, fun h => by omega⟩⟩
      cases j with
      | zero => cases hj; rw [hz] at hl2; cases hl2
      | succ j =>
        have := lt_trans (ha p (List.mem_of_getElem? (by simpa using hj))) hl2
        rw [hz] at this; cases this
theorem get_has {kv : List Pr} (hs : Srt kv) (k : ByteArray) : (getP kv k).isSome = has kv k := by
  obtain ⟨i, hi⟩ := exists_at k hs
  cases hf : found kv k i with
  | true =>
    obtain ⟨p, hp, hpk⟩ := is_found hf
    rw [(cut_found hs hp hpk hi).2.2]
    unfold getP
    rw [floor_found hs hi hp hf]
    simp [hpk]
  | false =>
    rw [(cut_none hi (not_found hf) hs).2.2]
    unfold getP
    rw [floor_none hs hi hf]
    cases hq : (kv.take i).getLast? with
    | none => rfl
    | some p =>
      have hm := List.mem_of_mem_take (List.mem_of_getLast? hq)
      have hlt : lt p.1 k = true := by
        have h2 : p ∈ kv.take i := List.mem_of_getLast? hq
        rw [← (cut_lo hi).1] at h2
        exact (List.mem_filter.1 h2).2
      simp [lt_ne hlt]
set_option maxHeartbeats 1000000 in
theorem delete32 {w : World} {t : Nat} {kv : List Pr} (ht : TT w t kv) (k : ByteArray) : Calls Try.prog 32 #[.pointer (some ⟨t, 0, none⟩), .string k] w fun e w' => e = .returned (.bool (has kv k)) ∧ Did w t (if has kv k then del kv k else kv) w' := by
  have k10 := get10 ht k
  unfold GetPost at k10
  have hgh := get_has ht.srt k
  cases hh : has kv k with
  | false =>
    rw [hh] at hgh
    obtain ⟨s, hs⟩ : ∃ s, s = (getP kv k).getD ⟨#[]⟩ := ⟨_, rfl⟩
    rw [← hs, hgh] at k10
    have HT : Hid (TT w t kv) := ht
    clear ht hgh hs hh
    go_enter Try.func32, Try.ntmps32
    go_wp2_with (go_at_call 10; (with_reducible refine k10.mono ?_); rintro e w1 ⟨rfl, hB1⟩)
    go_ret
    exact ⟨rfl, HT.out.below hB1, Keep.of hB1⟩
  | true =>
    rw [hh] at hgh
    obtain ⟨s, hs⟩ : ∃ s, s = (getP kv k).getD ⟨#[]⟩ := ⟨_, rfl⟩
    rw [← hs, hgh] at k10
    obtain ⟨h, n, x, hb, hp, hr⟩ := ht.ex
    have hdl := del_len ht.srt hh
    have HX : Hid (Srt (del kv k) ∧ (del kv k).length ≤ 800 ∧ ∀ q ∈ del kv k, q.1.size ≤ 64) := by
      refine ⟨ht.srt.del k, by have := ht.few; omega, fun q hq => ?_⟩
      rcases List.mem_append.1 hq with hq | hq
      · exact ht.key q (List.mem_filter.1 hq).1
      · exact ht.key q (List.mem_filter.1 hq).1
    have HK46 : Hid (∀ W, Below w.heap.size w W → W.cell? ⟨t, 0, none⟩ = some (.iface x.1 x.2) ∧ Calls Try.prog 46 #[.iface x.1 x.2, .string k] W (RPost W h n (del kv k))) := fun W hW =>
      ⟨(hb.below hW).cell 0, without46 (hp.below hW) ht.srt (by have := ht.few; omega) hr.1 hr.2 hh⟩
    have HK45 : Hid (∀ W x' n', Below w.heap.size w W → Part W h n' x' (del kv k) → n' ≤ n → Calls Try.prog 45 #[.iface x'.1 x'.2] W (fun e w' => ∃ y : Bx, e = .returned (.iface y.1 y.2) ∧ (w'.cell? ⟨t, 0, none⟩ = some (.iface x.1 x.2) ∧ w'.frozen? ⟨t, 0, none⟩ = false) ∧ Hid (Did w t (del kv k) (w'.setCell ⟨t, 0, none⟩ (.iface y.1 y.2))))) := fun W x' n' hW hp' hn' => by
      refine (lowered45 hp' (by have := hr.1; omega)).mono fun e w' q => ?_
      obtain ⟨y, h', n'', rfl, hpy, hry, hB'⟩ := q
      have hbk := (hb.below hW).below hB'
      exact ⟨y, rfl, ⟨hbk.cell 0, hbk.frozen 0⟩, did_set (bmore hW hB') hbk hpy hry HX.out.1 HX.out.2.1 HX.out.2.2⟩
    clear ht hgh hs hh hb hp hr hdl
    go_enter Try.func32, Try.ntmps32
    go_wp2_with (first
      | (go_at_call 10; (with_reducible refine k10.mono ?_); rintro e w1 ⟨rfl, hB1⟩; obtain ⟨c1, k46⟩ := HK46.out w1 hB1; have HB1 : Hid _ := hB1; clear hB1)
      | (go_at_call 46; (with_reducible refine k46.mono ?_); rintro e w2 ⟨x2, n2, rfl, hp2, l2, l3, hB2⟩; have k45 := HK45.out w2 x2 n2 (bmore HB1.out hB2) hp2 l3; clear hp2 hB2)
      | (go_at_call 45; (with_reducible refine k45.mono ?_); rintro e w3 ⟨y, rfl, ⟨c2, f2⟩, HD⟩))
    go_ret
    exact ⟨rfl, HD.out⟩
theorem len26 {w : World} {t : Nat} {kv : List Pr} (ht : TT w t kv) : Calls Try.prog 26 #[.pointer (some ⟨t, 0, none⟩)] w fun e w' => e = .returned (.int .i64 (kv.length : Int)) ∧ Below w.heap.size w w' := by
  obtain ⟨h, n, x, hb, hp, hr⟩ := ht.ex
  have k35 := top35 hb
  have HM : Hid (Meth "regesta/tree.count" x w fun v w' => v = .int .i64 (kv.length : Int) ∧ Below w.heap.size w w') := meth_count hp
  generalize kv.length = kl at *
  clear ht hb hp hr
  go_enter Try.func26, Try.ntmps26
  go_wp2_with (first
    | (go_at_call 35; (with_reducible refine k35.mono ?_); rintro e w1 ⟨rfl, rfl⟩)
    | ((with_reducible refine upon_meth HM.out ?_); rintro v1 w1 ⟨rfl, hB1⟩))
  go_ret
  exact ⟨rfl, hB1⟩
theorem len26_nil (w : World) : Calls Try.prog 26 #[.pointer none] w fun e w' => e = .returned (.int .i64 0) ∧ Below w.heap.size w w' := by
  have k35 := top35_nil w
  have hm := m_count64
  have k89 := count89 none 0 0 w
  go_enter Try.func26, Try.ntmps26
  go_wp2_with (first
    | (go_at_call 35; (with_reducible refine k35.mono ?_); rintro e w1 ⟨rfl, rfl⟩)
    | (go_at_call 89; (with_reducible refine k89.mono ?_); rintro e w1 ⟨rfl, rfl⟩))
  go_ret
  exact ⟨rfl, Below.refl _ _⟩
/-- How high the tree may be. -/
theorem Part.high {w : World} : ∀ {h n : Nat} {x : Bx} {kv : List Pr}, Part w h n x kv → n * 2 ^ h ≤ kv.length
  | 0, _, _, _, hp => by obtain ⟨_, _, h3⟩ := hp; omega
  | h + 1, n, x, kv, hp => by
    obtain ⟨a, c, ks, rfl, h2, h3, h4, h5, h6⟩ := hp.inner
    subst h5 h3
    have : ∀ l : List Kd, (∀ k ∈ l, k ∈ ks) → l.length * 2 ^ (h + 1) ≤ (flat l).length := by
      intro l
      induction l with
      | nil => intro _; simp
      | cons y l ih =>
        intro hl
        have h7 := ih (fun k hk => hl k (by simp [hk]))
        obtain ⟨m, q1, q2, q3⟩ := h6 y (hl y (by simp))
        have h8 := Part.high q3
        have h9 : 2 ^ (h + 1) ≤ m * 2 ^ h := by rw [Nat.pow_succ, Nat.mul_comm]; exact Nat.mul_le_mul_right _ (by omega)
        rw [show flat (y :: l) = y.2 ++ flat l by simp [flat], List.length_append, List.length_cons, Nat.add_mul]
        omega
    exact this ks (fun _ q => q)
theorem pow_le (h : Nat) : h ≤ 2 ^ h := Nat.le_of_lt Nat.lt_two_pow_self
def HtPost (w : World) (kv : List Pr) (e : Ending) (w' : World) : Prop := ∃ m : Nat, e = .returned (.int .i64 (m : Int)) ∧ (kv = [] ↔ m = 0) ∧ (kv ≠ [] → 2 ^ (m - 1) ≤ kv.length) ∧ m ≤ 900 ∧ Below w.heap.size w w'
set_option maxHeartbeats 400000 in
theorem height25 {w : World} {t : Nat} {kv : List Pr} (ht : TT w t kv) : Calls Try.prog 25 #[.pointer (some ⟨t, 0, none⟩)] w (HtPost w kv) := by
  have k26 := len26 ht
  obtain ⟨h, n, x, hb, hp, hr⟩ := ht.ex
  by_cases h0 : kv = []
  · have HR : Hid (∀ W, Below w.heap.size w W → HtPost w kv (.returned (.int .i64 0)) W) := fun W hW => ⟨0, rfl, by simp [h0], fun q => absurd h0 q, by omega, hW⟩
    rw [h0] at k26
    clear ht hb hp hr h0
    go_enter Try.func25, Try.ntmps25
    go_wp2_with (go_at_call 26; (with_reducible refine k26.mono ?_); rintro e w1 ⟨rfl, hB1⟩)
    go_ret
    exact HR.out _ hB1
  · have hl : 0 < kv.length := List.length_pos_iff.2 h0
    have hn1 : 1 ≤ n := by
      cases h with
      | zero => obtain ⟨_, _, h3⟩ := hp; omega
      | succ h => exact Nat.le_of_lt (hr.2 (by omega))
    have hhigh : 2 ^ h ≤ kv.length := Nat.le_trans (Nat.le_mul_of_pos_left _ hn1) hp.high
    have hh : h ≤ 800 := Nat.le_trans (pow_le h) (Nat.le_trans hhigh ht.few)
    have h10 : h ≤ 100 := by
      rcases Nat.lt_or_ge h 10 with q | q
      · omega
      · have h1 : 2 ^ 10 ≤ 2 ^ h := Nat.pow_le_pow_right (by decide) q
        have h2 := ht.few
        have h3 : (2 : Nat) ^ 10 = 1024 := by decide
        omega
    have HR : Hid (∀ W, Below w.heap.size w W → HtPost w kv (.returned (.int .i64 ((h + 1 : Nat) : Int))) W) := fun W hW => ⟨h + 1, rfl, by simp [h0], fun _ => by simpa using hhigh, by omega, hW⟩
    have HK : Hid (∀ W, Below w.heap.size w W → W.cell? ⟨t, 0, none⟩ = some (.iface x.1 x.2) ∧ Calls Try.prog 42 #[.iface x.1 x.2] W fun e w' => e = .returned (.int .i64 ((h + 1 : Nat) : Int)) ∧ Below W.heap.size W w') := fun W hW => ⟨(hb.below hW).cell 0, levels42 (hp.below hW) h10⟩
    have hz : ¬ ((kv.length : Int) = 0) := by omega
    generalize kv.length = kl at *
    generalize ((h + 1 : Nat) : Int) = J at *
    clear ht hb hp hr h0 hhigh
    go_enter Try.func25, Try.ntmps25
    go_wp2_with (first
      | (go_at_call 26; (with_reducible refine k26.mono ?_); rintro e w1 ⟨rfl, hB1⟩; obtain ⟨c1, k42⟩ := HK.out w1 hB1)
      | (go_at_call 42; (with_reducible refine k42.mono ?_); rintro e w2 ⟨rfl, hB2⟩))
    go_ret
    exact HR.out _ (bmore hB1 hB2)
def FkPost (w : World) (kv : List Pr) (e : Ending) (w' : World) : Prop := ∃ t, e = .returned (.pointer (some ⟨t, 0, none⟩)) ∧ w.heap.size ≤ t ∧ TT w' t kv ∧ Below w.heap.size w w'
theorem fork29 {w : World} {t : Nat} {kv : List Pr} (ht : TT w t kv) : Calls Try.prog 29 #[.pointer (some ⟨t, 0, none⟩)] w (FkPost w kv) := by
  obtain ⟨h, n, x, hb, hp, hr⟩ := ht.ex
  have HR : Hid (FkPost w kv (.returned (.pointer (some ⟨w.heap.size, 0, none⟩))) (w.alloc (.cells #[.iface x.1 x.2] 66))) := ⟨_, rfl, Nat.le_refl _, ⟨⟨h, n, x, blk_new w [.iface x.1 x.2] 66, hp.below (al _ _), hr⟩, ht.srt, ht.few, ht.key⟩, al _ _⟩
  have c0 := hb.cell 0
  simp only [List.getElem?_cons_zero] at c0
  clear ht hb hp hr
  go_enter Try.func29, Try.ntmps29
  go_wp2
  go_ret
  exact HR.out
end Go.Proofs.Ytgimjjlkniplnaa
