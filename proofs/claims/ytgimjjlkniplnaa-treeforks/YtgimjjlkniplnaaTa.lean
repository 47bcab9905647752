/- The document's tree: place, Get, New, Len, Halves. -/
import Derived.Test.YtgimjjlkniplnaaIo
namespace Go.Proofs.Ytgimjjlkniplnaa
open Go.RowKit Go.Shelf
set_option maxRecDepth 100000
/-- The document's tree at r holds these pairs. -/
structure RI (W : World) (r : Nat) (a : Option Addr) (c : Nat) (L : List Pr) : Prop where
  blk : Blk W r [.slice a L.length c] 55
  lv : LV EP W (.slice a L.length c) L
theorem RI.below {W W' : World} {r : Nat} {a : Option Addr} {c : Nat} {L : List Pr} (h : RI W r a c L) (k : Below W.heap.size W W') : RI W' r a c L := ⟨h.blk.below k, h.lv.below k⟩
theorem RI.cap {W : World} {r : Nat} {a : Option Addr} {c : Nat} {L : List Pr} (h : RI W r a c L) : L.length ≤ c := h.lv.cap.2
set_option maxHeartbeats 1000000 in
theorem rplace33 {w : World} {r : Nat} {a : Option Addr} {c : Nat} {kv : List Pr} (hr : RI w r a c kv) (hs : Srt kv) (hl : kv.length ≤ 1000) (k : ByteArray) : Calls Try.prog 33 #[.pointer (some ⟨r, 0, none⟩), .string k] w fun e w' => ∃ i : Nat, i ≤ kv.length ∧ At kv k i ∧ e = .returned (.int .i64 (i : Int)) ∧ Below w.heap.size w w' := by
  have HR : Hid (RI w r a c kv) := hr
  have HS : Hid (Srt kv) := hs
  have HC : Hid (∀ W, Below w.heap.size w W → W.cell? ⟨r, 0, none⟩ = some (.slice a kv.length c)) := fun W k => (hr.blk.below k).cell 0
  generalize hN : kv.length = n at *
  have HN : Hid (kv.length = n) := hN
  clear hr hs hN
  go_enter Try.func33, Try.ntmps33
  go_wp2_with fail
  go_loopw [5] (fun fi wr => ∃ (i : Nat), fi = .int .i64 (i : Int) ∧ Hid (i ≤ n ∧ ∀ t p, kv[t]? = some p → t < i → lt p.1 k = true) ∧ Hid (Below w.heap.size w wr)) (fun fi _ => ((n : Int) - intOf fi).toNat)
  case atStart => exact ⟨0, rfl, ⟨Nat.zero_le _, fun t p _ h => by omega⟩, Below.refl _ _⟩
  case round =>
    obtain ⟨i, rfl, hi, hB⟩ := hrel
    have e0 := HC.out _ hB.out
    by_cases hin : i < n
    · have h1 : (i : Int) < (n : Int) := by omega
      have h0 : (0 : Int) ≤ (i : Int) := by omega
      have hw : wrap64 ((i : Int) + 1) = (i : Int) + 1 := IntWalk.wrap64_in _ (by omega)
      obtain ⟨p, hp⟩ : ∃ p, kv[i]? = some p := ⟨_, List.getElem?_eq_getElem (by rw [HN.out]; omega)⟩
      obtain ⟨g, o, ha, d0, d1⟩ := EP.cell (by have := (HR.out.below hB.out).lv; rw [HN.out] at this; exact this) hp
      subst ha
      have HP : Hid (kv[i]? = some p) := hp
      clear hp
      cases hq : lt p.1 k with
      | true =>
        have hq2 : Op.bytesLess p.1.toList k.toList = true := by rw [less_lt]; exact hq
        have HQ : Hid (lt p.1 k = true) := hq
        clear hq
        go_wp2_with fail
        go_roundw
        case rel =>
          refine ⟨i + 1, by simp, ⟨by omega, fun t q ht hti => ?_⟩, hB.out⟩
          by_cases e : t = i
          · subst e; rw [HP.out] at ht; cases ht; exact HQ.out
          · exact hi.out.2 t q ht (by omega)
        case measure => simp only [intOf]; omega
      | false =>
        have hq2 : Op.bytesLess p.1.toList k.toList = false := by rw [less_lt]; exact hq
        have HQ : Hid (lt p.1 k = false) := hq
        clear hq
        go_wp2
        go_ret
        refine ⟨i, by omega, fun t q ht => ⟨fun hl2 => ?_, fun hti => hi.out.2 t q ht hti⟩, rfl, hB.out⟩
        by_cases hti : t < i
        · exact hti
        · by_cases e : t = i
          · subst e; rw [HP.out] at ht; cases ht; rw [HQ.out] at hl2; cases hl2
          · have := lt_trans (HS.out.get HP.out ht (by omega)) hl2
            rw [HQ.out] at this; cases this
    · have h1 : ¬ (i : Int) < (n : Int) := by omega
      go_wp2
      go_ret
      refine ⟨i, hi.out.1, fun t q ht => ⟨fun hl2 => ?_, fun hti => hi.out.2 t q ht hti⟩, rfl, hB.out⟩
      have := (List.getElem?_eq_some_iff.1 ht).1
      rw [HN.out] at this
      omega
theorem get_found {kv : List Pr} {k : ByteArray} {i : Nat} {p : Pr} (hs : Srt kv) (ha : At kv k i) (hp : kv[i]? = some p) (hk : p.1 = k) : getP kv k = some p.2 := by
  unfold getP
  rw [floor_found hs ha hp (by unfold found; rw [hp]; simpa using hk)]
  simp [hk]
theorem get_no {kv : List Pr} {k : ByteArray} {i : Nat} (hs : Srt kv) (ha : At kv k i) (hn : ∀ p, kv[i]? = some p → p.1 ≠ k) : getP kv k = none := by
  have := get_has hs k
  rw [(cut_none ha hn hs).2.2] at this
  cases h : getP kv k with
  | none => rfl
  | some x => rw [h] at this; cases this
/-- What is at a place. -/
theorem placed {w : World} {r : Nat} {a : Option Addr} {c : Nat} {kv : List Pr} (hr : RI w r a c kv) (hs : Srt kv) {k : ByteArray} {i : Nat} (hi : i ≤ kv.length) (ha : At kv k i) :
    (∃ (p : Pr) (g o : Nat), a = some ⟨g, o, none⟩ ∧ (∀ W, Below w.heap.size w W → W.cell? ⟨g, o + i * 2, none⟩ = some (.string p.1) ∧ W.cell? ⟨g, o + i * 2 + 1, none⟩ = some (.string p.2)) ∧ (i : Int) < (kv.length : Int) ∧ ((i : Int) == (kv.length : Int)) = false ∧ (p.1.toList == k.toList) = true ∧ getP kv k = some p.2) ∨
    (∃ (p : Pr) (g o : Nat), a = some ⟨g, o, none⟩ ∧ (∀ W, Below w.heap.size w W → W.cell? ⟨g, o + i * 2, none⟩ = some (.string p.1) ∧ W.cell? ⟨g, o + i * 2 + 1, none⟩ = some (.string p.2)) ∧ (i : Int) < (kv.length : Int) ∧ ((i : Int) == (kv.length : Int)) = false ∧ (p.1.toList == k.toList) = false ∧ getP kv k = none) ∨
    (((i : Int) == (kv.length : Int)) = true ∧ getP kv k = none) := by
  rcases Nat.lt_or_ge i kv.length with hin | hin
  · obtain ⟨p, hp⟩ : ∃ p, kv[i]? = some p := ⟨_, List.getElem?_eq_getElem hin⟩
    obtain ⟨g, o, rfl, _, _⟩ := EP.cell hr.lv hp
    have hc : ∀ W, Below w.heap.size w W → W.cell? ⟨g, o + i * 2, none⟩ = some (.string p.1) ∧ W.cell? ⟨g, o + i * 2 + 1, none⟩ = some (.string p.2) := fun W hW => by
      obtain ⟨g', o', hg, d0, d1⟩ := EP.cell (hr.below hW).lv hp
      cases hg
      exact ⟨d0, d1⟩
    have hne : ((i : Int) == (kv.length : Int)) = false := by simp; omega
    by_cases hpk : p.1 = k
    · exact .inl ⟨p, g, o, rfl, hc, by omega, hne, by rw [hpk]; simp, get_found hs ha hp hpk⟩
    · exact .inr (.inl ⟨p, g, o, rfl, hc, by omega, hne, by rw [eq_str]; simpa using hpk, get_no hs ha (fun q hq => by rw [hp] at hq; cases hq; exact hpk)⟩)
  · exact .inr (.inr ⟨by simp; omega, get_no hs ha (fun q hq => by have := (List.getElem?_eq_some_iff.1 hq).1; omega)⟩)
set_option maxHeartbeats 1000000 in
theorem rget11 {w : World} {r : Nat} {a : Option Addr} {c : Nat} {kv : List Pr} (hr : RI w r a c kv) (hs : Srt kv) (hl : kv.length ≤ 1000) (k : ByteArray) : Calls Try.prog 11 #[.pointer (some ⟨r, 0, none⟩), .string k] w (GetPost w (getP kv k)) := by
  have k33 := rplace33 hr hs hl k
  have HC : Hid (∀ W, Below w.heap.size w W → W.cell? ⟨r, 0, none⟩ = some (.slice a kv.length c)) := fun W k => (hr.blk.below k).cell 0
  have HPL := fun (i : Nat) (hi : i ≤ kv.length) (ha : At kv k i) => placed hr hs (k := k) hi ha
  generalize hN : kv.length = n at *
  clear hr hs hN
  go_enter Try.func11, Try.ntmps11
  go_wp2_with (go_at_call 33; (with_reducible refine k33.mono ?_); rintro e w1 ⟨i, hi, hat, rfl, hB⟩; have e0 := HC.out _ hB; have h0 : (0 : Int) ≤ (i : Int) := Int.natCast_nonneg _; rcases HPL i hi hat with ⟨p, g, o, rfl, hc, h1, h2, h3, hg⟩ | ⟨p, g, o, rfl, hc, h1, h2, h3, hg⟩ | ⟨h2, hg⟩ <;> (have HG : Hid _ := hg; clear hg hat HPL k33; try (obtain ⟨d0, d1⟩ := hc _ hB; clear hc)))
  all_goals go_ret2
  all_goals exact ⟨by rw [HG.out]; rfl, hB⟩
theorem rnew22 (w : World) : Calls Try.prog 22 #[] w fun e w' => ∃ r a c, e = .returned (.pointer (some ⟨r, 0, none⟩)) ∧ w.heap.size ≤ r ∧ RI w' r a c [] ∧ Below w.heap.size w w' := by
  go_enter Try.func22, Try.ntmps22
  go_wp2
  go_ret
  exact ⟨_, none, 0, rfl, Nat.le_refl _, ⟨blk_new w [.slice none 0 0] 55, LV.nil EP _ _ _⟩, al _ _⟩
theorem rlen28 {w : World} {r : Nat} {a : Option Addr} {c : Nat} {kv : List Pr} (hr : RI w r a c kv) : Calls Try.prog 28 #[.pointer (some ⟨r, 0, none⟩)] w fun e w' => e = .returned (.int .i64 (kv.length : Int)) ∧ w = w' := by
  have e0 := hr.blk.cell 0
  simp only [List.getElem?_cons_zero] at e0
  generalize kv.length = n at *
  clear hr
  go_enter Try.func28, Try.ntmps28
  go_wp2
  go_ret
  exact ⟨rfl, rfl⟩
end Go.Proofs.Ytgimjjlkniplnaa
