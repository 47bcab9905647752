/- The document's Put. -/
import Derived.Test.YtgimjjlkniplnaaTd
namespace Go.Proofs.Ytgimjjlkniplnaa
open Go.RowKit Go.Shelf
set_option maxRecDepth 100000
/-- What is left where a key is taken away. -/
def off (kv : List Pr) (k : ByteArray) : List Pr := if has kv k then del kv k else kv
theorem has_iff {kv : List Pr} {k : ByteArray} : has kv k = true ↔ ∃ p ∈ kv, p.1 = k := by simp [has]
theorem has_del (kv : List Pr) (k : ByteArray) : has (del kv k) k = false := by
  cases h : has (del kv k) k with
  | false => rfl
  | true =>
    obtain ⟨p, hp, hk⟩ := has_iff.1 h
    unfold del at hp
    rcases List.mem_append.1 hp with h1 | h1
    · have := (List.mem_filter.1 h1).2; simp only [hk, lt_irrefl] at this; cases this
    · have := (List.mem_filter.1 h1).2; simp only [hk, lt_irrefl] at this; cases this
theorem has_off (kv : List Pr) (k : ByteArray) : has (off kv k) k = false := by
  unfold off
  cases h : has kv k with
  | false => simpa using h
  | true => simpa using has_del kv k
theorem put_off (kv : List Pr) (p : Pr) : put (off kv p.1) p = put kv p := by
  unfold off
  cases h : has kv p.1 with
  | false => simp
  | true =>
    have h1 : lo (del kv p.1) p.1 = lo kv p.1 := by
      unfold del lo hi
      rw [List.filter_append, List.filter_filter, List.filter_filter, filter_none (f := fun x => lt x.1 p.1 && lt p.1 x.1) (fun x _ => ?_), List.append_nil]
      · simp
      · cases hq : lt x.1 p.1 with
        | false => rfl
        | true => simp [lt_not hq]
    have h2 : hi (del kv p.1) p.1 = hi kv p.1 := by
      unfold del lo hi
      rw [List.filter_append, List.filter_filter, List.filter_filter, filter_none (f := fun x => lt p.1 x.1 && lt x.1 p.1) (fun x _ => ?_), List.nil_append]
      · simp
      · cases hq : lt x.1 p.1 with
        | false => simp
        | true => simp [lt_not hq]
    simp only [if_true]
    unfold put
    rw [h1, h2]
theorem Srt.off {kv : List Pr} (h : Srt kv) (k : ByteArray) : Srt (off kv k) := by
  unfold Ytgimjjlkniplnaa.off
  split
  · exact h.del k
  · exact h
theorem off_len {kv : List Pr} (h : Srt kv) (k : ByteArray) : (off kv k).length ≤ kv.length := by
  unfold off
  split
  · rename_i hh; have := del_len h hh; omega
  · exact Nat.le_refl _
def RPut (W : World) (r : Nat) (kv : List Pr) (e : Ending) (w' : World) : Prop := e = .returned (.int .i64 0) ∧ (∃ a' c', RI w' r a' c' kv) ∧ Keep (fun b => b = r) W w'
set_option maxHeartbeats 2000000 in
theorem rput38 {W : World} {r : Nat} {a : Option Addr} {c : Nat} {kv : List Pr} (hr : RI W r a c kv) (hs : Srt kv) (hl : kv.length ≤ 900) (p : Pr) (hk : p.1.size ≤ 64) : Calls Try.prog 38 #[.pointer (some ⟨r, 0, none⟩), .string p.1, .string p.2] W (RPut W r (put kv p)) := by
  have k39 := rdel39 hr hs (by omega) p.1
  unfold RDel at k39
  have HO : Hid (Srt (off kv p.1) ∧ (off kv p.1).length ≤ 900 ∧ has (off kv p.1) p.1 = false ∧ put (off kv p.1) p = put kv p) := ⟨hs.off _, by have := off_len hs p.1; omega, has_off _ _, put_off _ _⟩
  change Calls Try.prog 39 _ _ fun e w' => e = .returned (.bool (has kv p.1)) ∧ (∃ a' c', RI w' r a' c' (off kv p.1)) ∧ Keep (fun b => b = r) W w' at k39
  generalize off kv p.1 = kv' at *
  generalize has kv p.1 = hb at *
  have hk1 : ¬ (64 : Int) < (p.1.size : Int) := by omega
  clear hr hs hl hk
  go_enter Try.func38, Try.ntmps38
  go_wp2_with (first
    | (go_at_call 39; (with_reducible refine k39.mono ?_); rintro e w0 ⟨rfl, ⟨a0, c0, r0⟩, K0⟩; have k33 := rplace33 r0 HO.out.1 (Nat.le_trans HO.out.2.1 (by decide)) p.1)
    | (go_at_call 33; (with_reducible refine k33.mono ?_); rintro e w1 ⟨n, hn, hat, rfl, B1⟩))
  have HP : Hid (put kv p = kv'.take n ++ p :: kv'.drop n) := by
    show _ = _
    rw [← HO.out.2.2.2]
    exact at_of_no HO.out.1 hat HO.out.2.2.1 p.2
  refine preg7 (r0.below B1) (k := n) hn (Nat.le_trans HO.out.2.1 (by decide)) (fun v20 v26 v27 v31 v32 v38 v39 w4 hRI hKeep => ?_)
  have HRI : Hid (∃ a' c', RI w4 r a' c' (kv'.take n ++ p :: kv'.drop n)) := hRI
  have HKe : Hid (Keep (fun k => k = r) w1 w4) := hKeep
  clear hRI hKeep
  go_wp2
  go_ret
  refine ⟨rfl, by rw [HP.out]; exact HRI.out, (K0.trans (Keep.of (F := fun k => k = r) B1) (fun _ _ h => h)).trans HKe.out (fun _ _ h => h)⟩
theorem rput_long {W : World} {r : Nat} (p : Pr) (hk : 64 < p.1.size) : Calls Try.prog 38 #[.pointer (some ⟨r, 0, none⟩), .string p.1, .string p.2] W fun e w' => e = .returned (.int .i64 2) ∧ W = w' := by
  have hk1 : (64 : Int) < (p.1.size : Int) := by omega
  go_enter Try.func38, Try.ntmps38
  go_wp2
  go_ret
  exact ⟨rfl, rfl⟩
theorem put_long {W : World} {t : Nat} (p : Pr) (hk : 64 < p.1.size) : Calls Try.prog 31 #[.pointer (some ⟨t, 0, none⟩), .string p.1, .string p.2] W fun e w' => e = .returned (.int .i64 2) ∧ Below W.heap.size W w' := by
  have hk1 : (64 : Int) < (p.1.size : Int) := by omega
  go_enter Try.func31, Try.ntmps31
  go_wp2
  go_ret
  exact ⟨rfl, Below.refl _ _⟩
end Go.Proofs.Ytgimjjlkniplnaa
