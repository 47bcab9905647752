/- The reference's Count, Join, Gaps, Minus, Covers: by points. -/
import Derived.Test.YtgkkknjkgpdcjaaOf
import Derived.Test.YtgkkknjkgpdcjaaRefapart
namespace Go.Proofs.Ytgkkknjkgpdcjaa
open Go.RowKit

theorem marks39_n (v : Value) (xs : List (Int × Int)) (w : World) (hl : xs.length ≤ 100000) (h : SRow w v xs) :
    Calls Try.prog 39 #[v] w fun e w' => ∃ g n, e = .returned (.slice (some ⟨g, 0, none⟩) n n) ∧ Hid (n = 2000) ∧ n ≤ 3000 ∧ w.heap.size ≤ g ∧ g < w'.heap.size ∧ Hid (RowB w' g (ptB (rights xs))) ∧ Below w.heap.size w w' := by
  refine (marks39 v xs w hl h).mono ?_
  rintro e w' ⟨g, rfl, h1, h2, h3⟩
  exact ⟨g, 2000, rfl, rfl, by omega, h1, World.rowIs.lt h2, h2, h3⟩

theorem cnt_bd (f : Int → Bool) (n : Nat) : 0 ≤ cnt f n ∧ cnt f n ≤ n := by
  induction n with
  | zero => simp [cnt]
  | succ n ih => simp only [cnt]; split <;> omega

theorem has_bd {xs : List (Int × Int)} {p : Int} (h : Has xs p) : -1000 ≤ p ∧ p < 1000 := by
  obtain ⟨x, hx, h1, h2⟩ := h
  have r := (rightB_iff _ _).1 (by simpa using (List.mem_filter.1 hx).2)
  omega

theorem one_row (W : World) (a b : Int) : SRow (W.alloc (.cells #[.int .i64 a, .int .i64 b] 23)) (.slice (some ⟨W.heap.size, 0, none⟩) 1 1) [(a, b)] :=
  .inr ⟨W.heap.size, 0, 1, rfl, by simp, by unfold maxLen; omega, by simp, fun i hi => by
    have : i = 0 := by simpa using hi
    subst this
    simp⟩
theorem one_pt (a b p : Int) : ptB (rights [(a, b)]) p = hasB a b p := by
  rw [Bool.eq_iff_iff, ptB_iff]
  by_cases h : rightB a b = true
  · simp [rights, h, Pt, hasB]
  · simp [rights, h, Pt, hasB]

set_option maxHeartbeats 1000000 in
theorem count31 (v : Value) (xs : List (Int × Int)) (w : World) (hl : xs.length ≤ 100000) (h : SRow w v xs) :
    Calls Try.prog 31 #[v] w fun e w' => e = .returned (.int .i64 (cnt (ptB (rights xs)) 2000)) ∧ Below w.heap.size w w' := by
  have hmarks := marks39_n v xs w hl h
  obtain ⟨f, hf⟩ : ∃ f, ptB (rights xs) = f := ⟨_, rfl⟩
  rw [hf] at hmarks ⊢
  clear h hf
  go_enter Try.func31, Try.ntmps31
  go_wp2_with (go_at_call 39; refine hmarks.mono ?_; rintro e w1 ⟨g, n, rfl, hn, hn3, hg1, hg2, HR, hb1⟩)
  clear hmarks
  go_loop [3, 5] (fun c i => ∃ m : Nat, m ≤ n ∧ i = .int .i64 m ∧ c = .int .i64 (cnt f m)) (fun _ i => n - (intOf i).toNat)
  case atStart => exact ⟨0, Nat.zero_le _, rfl, rfl⟩
  case round =>
    obtain ⟨m, hm, rfl, rfl⟩ := hrel
    by_cases hlt : m < n
    · have c1 := HR.out.cell (m := m) (by have := hn.out; omega)
      have hbd := cnt_bd f m
      have HS : Hid (cnt f (m + 1) = cnt f m + if f ((m : Int) - 1000) = true then 1 else 0) := rfl
      obtain ⟨s, hs⟩ : ∃ s, cnt f m = s := ⟨_, rfl⟩
      rw [hs] at hbd HS ⊢
      obtain ⟨b1, b2⟩ := hbd
      clear hs
      cases hfm : f ((m : Int) - 1000)
      · rw [hfm] at c1 HS
        clear hfm
        go_wp2
        go_round
        case rel => exact ⟨m + 1, by omega, by go_num, by rw [HS.out]; simp⟩
        case measure => simp [intOf]; omega
      · rw [hfm] at c1 HS
        clear hfm
        go_wp2
        go_round
        case rel => exact ⟨m + 1, by omega, by go_num, by rw [HS.out]; simp⟩
        case measure => simp [intOf]; omega
    · have H1 : Hid (m = 2000) := by have := hn.out; unfold Hid; omega
      go_wp2
      go_ret
      exact ⟨ret_int (by rw [H1.out]), hb1⟩

theorem join25 (v : Value) (xs : List (Int × Int)) (w : World) (hl : xs.length ≤ 100000) (h : SRow w v xs) :
    Calls Try.prog 25 #[v] w fun e w' => ∃ v' ys, e = .returned v' ∧ Canon ys ∧ (∀ p, Pt ys p ↔ Has xs p) ∧ ys.length ≤ 2001 ∧ Own w' w.heap.size v' ys ∧ Below w.heap.size w w' := by
  have hmarks := marks39 v xs w hl h
  clear h
  go_enter Try.func25, Try.ntmps25
  go_wp2_with (go_at_call 39; refine hmarks.mono ?_; rintro e w1 ⟨g, rfl, hg1, hR, hb1⟩)
  refine (of38 g _ w1 hR).mono ?_
  rintro e w2 ⟨v2, ys, rfl, hc, hp, hlen, ho, hb2⟩
  go_wp2
  go_ret
  refine ⟨v2, ys, rfl, hc, fun p => ?_, hlen, ho.base hb1.size, hb1.trans (hb2.mono hb1.size)⟩
  rw [hp, ptB_iff]
  exact ⟨fun h => h.2.2, fun h => ⟨(has_bd h).1, (has_bd h).2, h⟩⟩

set_option maxHeartbeats 1000000 in
theorem gaps27 (v : Value) (xs : List (Int × Int)) (a b : Int) (w : World) (hl : xs.length ≤ 100000) (h : SRow w v xs) :
    Calls Try.prog 27 #[v, .agg #[.int .i64 a, .int .i64 b]] w fun e w' => ∃ v' gs, e = .returned v' ∧ Canon gs ∧ (∀ p, Pt gs p ↔ hasB a b p = true ∧ ¬ Has xs p) ∧ gs.length ≤ 2001 ∧ Own w' w.heap.size v' gs ∧ Below w.heap.size w w' := by
  have hB : SRow (w.alloc (.cells #[.int .i64 a, .int .i64 b] 23)) v xs := h.below (below1 w _) h.lt
  have hmarks := marks39_n v xs _ hl hB
  clear h hB
  go_enter Try.func27, Try.ntmps27
  go_wp2_with fail
  refine hmarks.mono ?_
  rintro e w1 ⟨g, n, rfl, hn, hn3, hg1, hg2, HR, hb1⟩
  have ka : w1.cell? ⟨w.heap.size, 0, none⟩ = some (.int .i64 a) := (bc hb1 w.heap.size 0 (by simp)).trans (box1 _ _ _).1
  have kb : w1.cell? ⟨w.heap.size, 1, none⟩ = some (.int .i64 b) := (bc hb1 w.heap.size 1 (by simp)).trans (box1 _ _ _).2
  have hbw : Below w.heap.size w w1 := (below1 w (.cells #[.int .i64 a, .int .i64 b] 23)).trans (hb1.mono (by simp))
  have hz1 := hb1.size
  simp only [World.size_alloc] at hz1 hg1
  have hmarks2 := marks39_n _ _ _ (by simp) (one_row w1 a b)
  clear hmarks hb1
  go_wp2_with fail
  refine hmarks2.mono ?_
  rintro e w2 ⟨g2, n2, rfl, hn2, hn23, hg21, hg22, HR2, hb2⟩
  have HPT : Hid (∀ gs : List (Int × Int), (∀ p, Pt gs p ↔ -1000 ≤ p ∧ p < 1000 ∧ (ptB (rights [(a, b)]) p && !ptB (rights xs) p) = true) → ∀ p, Pt gs p ↔ hasB a b p = true ∧ ¬ Has xs p) := fun gs hg p => by
    rw [hg, one_pt, Bool.and_eq_true, Bool.not_eq_true', ← Bool.not_eq_true, ptB_iff]
    unfold Has
    refine ⟨fun h => h.2.2, fun h => ⟨?_, ?_, h⟩⟩
    · have := h.1; unfold hasB at this; simp [rightB_iff] at this; omega
    · have := h.1; unfold hasB at this; simp [rightB_iff] at this; omega
  obtain ⟨f, hf⟩ : ∃ f, ptB (rights xs) = f := ⟨_, rfl⟩
  obtain ⟨k, hk⟩ : ∃ k, ptB (rights [(a, b)]) = k := ⟨_, rfl⟩
  rw [hf] at HR HPT
  rw [hk] at HR2 HPT
  have hz2 := hb2.size
  simp only [World.size_alloc] at hz2 hg21
  have R1 : RowB w2 g f := (HR.out.alloc (.cells #[.int .i64 a, .int .i64 b] 23)).below hb2 (by simp; omega)
  have R2 : RowB w2 g2 (fun p => if p < ((0 : Nat) : Int) - 1000 then k p && !f p else k p) := HR2.out.congr fun p h1 _ => by rw [if_neg (by simp; omega)]
  have hbw2 : Below w.heap.size w w2 := hbw.trans ((below1 w1 (.cells #[.int .i64 a, .int .i64 b] 23)).mono hbw.size |>.trans (hb2.mono (by simp; omega)))
  have hgg : g ≠ g2 := by omega
  have hg2w : w.heap.size ≤ g2 := by omega
  clear hmarks2 HR HR2 hf hk hb2 hbw ka kb hg1 hg2 hg21 hg22
  go_wp2_with fail
  go_loopw [7] (fun i wr => ∃ m : Nat, m ≤ n2 ∧ i = .int .i64 m ∧ RowB wr g f ∧ RowB wr g2 (fun p => if p < (m : Int) - 1000 then k p && !f p else k p) ∧ Below w.heap.size w wr) (fun i _ => n2 - (intOf i).toNat)
  case atStart => exact ⟨0, Nat.zero_le _, rfl, R1, R2, hbw2⟩
  case round =>
    clear R1 R2 hbw2
    obtain ⟨m, hm, rfl, r1, r2, hnx⟩ := hrel
    by_cases hlt : m < n2
    · have hm2 : m < 2000 := by have := hn2.out; omega
      have hmn : m < n := by have := hn.out; omega
      have c1 := r1.cell hm2
      have c2 := r2.cell hm2
      rw [if_neg (by omega)] at c2
      have fz := World.rowIs.frozen r2 m
      have HS : ∀ u : Bool, u = (k ((m : Int) - 1000) && !f ((m : Int) - 1000)) → RowB (wr.setCell ⟨g2, m, none⟩ (.bool u)) g f ∧ RowB (wr.setCell ⟨g2, m, none⟩ (.bool u)) g2 (fun p => if p < ((m + 1 : Nat) : Int) - 1000 then k p && !f p else k p) ∧ Below w.heap.size w (wr.setCell ⟨g2, m, none⟩ (.bool u)) := fun u hu => by
        refine ⟨World.rowIs.setOther r1 hgg _, (r2.set m u).congr fun p _ _ => ?_, hnx.setCell hg2w _⟩
        by_cases h1 : p = (m : Int) - 1000
        · subst h1; rw [if_pos rfl, if_pos (by push_cast; omega), hu]
        · rw [if_neg h1]
          by_cases h2 : p < (m : Int) - 1000
          · rw [if_pos h2, if_pos (by push_cast; omega)]
          · rw [if_neg h2, if_neg (by push_cast; omega)]
      have HS' := hidA HS
      clear HS r1 r2 hnx HPT hm2
      obtain ⟨kk, hkk⟩ : ∃ kk, k ((m : Int) - 1000) = kk := ⟨_, rfl⟩
      obtain ⟨ff, hff⟩ : ∃ ff, f ((m : Int) - 1000) = ff := ⟨_, rfl⟩
      rw [hkk] at c2 HS'
      rw [hff] at c1 HS'
      clear hkk hff
      cases kk
      · have H1 := hidA (HS'.out false rfl)
        clear HS'
        go_wp2
        go_roundw
        case rel => exact ⟨m + 1, by omega, by go_num, H1.out⟩
        case measure => simp [intOf]; omega
      · cases ff
        · have H1 := hidA (HS'.out true rfl)
          clear HS'
          go_wp2
          go_roundw
          case rel => exact ⟨m + 1, by omega, by go_num, H1.out⟩
          case measure => simp [intOf]; omega
        · have H1 := hidA (HS'.out false rfl)
          clear HS'
          go_wp2
          go_roundw
          case rel => exact ⟨m + 1, by omega, by go_num, H1.out⟩
          case measure => simp [intOf]; omega
    · have hm2 : m = 2000 := by have := hn2.out; omega
      have r3 : RowB wr g2 (fun p => k p && !f p) := r2.congr fun p _ _ => by rw [if_pos (by omega)]
      have hof := of38_n g2 n2 _ wr r3 hn2 hn23
      clear r1 r2 r3 hm2
      go_wp2_with fail
      refine hof.mono ?_
      rintro e w3 ⟨v3, ys, rfl, hc, hp, hlen, ho, hb3⟩
      go_wp2
      go_ret
      exact ⟨v3, ys, rfl, hc, HPT.out ys hp, hlen, ho.base hnx.size, hnx.trans (hb3.mono hnx.size)⟩

end Go.Proofs.Ytgkkknjkgpdcjaa
