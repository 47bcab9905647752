/- The law LexPlaces. -/
import Derived.Test.YthebpkcnhghofaaDoorLg
import Derived.Test.YthebpkcnhghofaaDoorLq
import Derived.BigQuiet
namespace Go.Proofs.YthebpkcnhghofaaDoor
open Go.RowKit Go.Lib Go.Joins
set_option maxRecDepth 100000

/-- The cells of one token among others. -/
theorem cellsT_get : ∀ (l : List Tk) (i : Nat) (x : Tk), l[i]? = some x → ∀ j u, (cellT x)[j]? = some u → (cellsT l)[i * 4 + j]? = some u
  | [], i, x, h, _, _, _ => by simp at h
  | y :: l, 0, x, h, j, u, hu => by
    simp only [List.getElem?_cons_zero, Option.some.injEq] at h
    subst h
    rw [show cellsT (y :: l) = cellT y ++ cellsT l by simp [cellsT], Nat.zero_mul, Nat.zero_add, List.getElem?_append_left (List.getElem?_eq_some_iff.1 hu).1]
    exact hu
  | y :: l, i + 1, x, h, j, u, hu => by
    rw [show cellsT (y :: l) = cellT y ++ cellsT l by simp [cellsT], List.getElem?_append_right (by simp [cellT]; omega), show (i + 1) * 4 + j - (cellT y).length = i * 4 + j by simp [cellT]; omega]
    exact cellsT_get l i x (by simpa using h) j u hu

set_option maxHeartbeats 8000000 in
theorem places5 (s0 : ByteArray) (w : World) (hg : Good w) :
    Calls Tryd.prog 5 #[.string s0] w fun e w' => e = .returned (.bool true) ∧ Below w.heap.size w w' := by
  have c9 := fun w1 => short9 s0 w1
  obtain ⟨s, hs⟩ : ∃ s, str ((bs s0).take 410) = s := ⟨_, rfl⟩
  have hsz : s.size ≤ 410 := by rw [← hs, str_size, List.length_take]; omega
  rw [hs] at c9
  clear hs
  have hok := toks_ok (bs s)
  have HC8 : Hid (Calls Tryd.prog 8 #[.string s] w fun e w' => ∃ a c, e = .returned (.tuple #[.slice a (toks (bs s)).1.length c, .int .i64 ((toks (bs s)).2.1 : Nat), .int .i64 ((toks (bs s)).2.2 : Nat)]) ∧ (∀ (i : Nat) (x : Tk), (toks (bs s)).1[i]? = some x → ∃ g, a = some ⟨g, 0, none⟩ ∧ g < w'.heap.size ∧ (w'.cell? ⟨g, i * 4, none⟩ = some (.int .u8 (x.k : Int)) ∧ w'.cell? ⟨g, i * 4 + 1, none⟩ = some (.string (str x.t)) ∧ w'.cell? ⟨g, i * 4 + 2, none⟩ = some (.int .i64 x.n) ∧ w'.cell? ⟨g, i * 4 + 3, none⟩ = some (.int .i64 (x.a : Int)))) ∧ Below w.heap.size w w') := by
    refine (tokens8 s w (by omega) hg).mono ?_
    rintro e w' ⟨v, h1, h2, h3⟩
    by_cases h0 : 0 < (toks (bs s)).1.length
    · obtain ⟨g, c, rfl, _, h4, h5⟩ := trow_cells h2 h0
      exact ⟨_, c, h1, fun i x hx => ⟨g, rfl, h4, h5 _ _ (cellsT_get _ i x hx 0 _ rfl), h5 _ _ (cellsT_get _ i x hx 1 _ rfl), h5 _ _ (cellsT_get _ i x hx 2 _ rfl), h5 _ _ (cellsT_get _ i x hx 3 _ rfl)⟩, h3⟩
    · have hz : (toks (bs s)).1.length = 0 := by omega
      obtain ⟨a, c, rfl⟩ : ∃ a c, v = .slice a (toks (bs s)).1.length c := by
        rcases h2.2 with ⟨h, h'⟩ | ⟨g, cap, cur, h, _⟩
        · rw [h']; exact ⟨_, _, h⟩
        · exact ⟨_, _, h⟩
      exact ⟨a, c, h1, fun i x hx => by rw [List.eq_nil_of_length_eq_zero hz] at hx; simp at hx, h3⟩
  have HL : Hid (∀ w1, Below w.heap.size w w1 → Calls Tryd.prog 11 #[] w1 fun e w' => e = .returned (.bool true) ∧ Below w1.heap.size w1 w') := fun w1 h => live11 w1 (hg.below h)
  generalize toks (bs s) = R at *
  obtain ⟨ts, pl, er⟩ := R
  simp only at HC8 hok
  clear hg
  rcases hok with ⟨rfl, hacc⟩ | ⟨rfl, her⟩
  · simp only at hacc
    obtain ⟨N, hN⟩ : ∃ N, ts.length = N := ⟨_, rfl⟩
    have HNN : Hid (ts.length = N) := hN
    have hN100 : N ≤ 100 := by rw [← hN]; exact hacc.few
    rw [hN] at HC8
    have HA : Hid (AccOk (bs s) (bs s).length ts) := hacc
    clear hacc hN
    go_enter Tryd.func5, Tryd.ntmps5
    go_wp2_with (first
      | (go_at_call 9; refine (c9 _).mono ?_; rintro e w1 ⟨rfl, rfl⟩)
      | (go_at_call 8; refine HC8.out.mono ?_; rintro e w2 ⟨va, vc, rfl, hcs, hb2⟩; have HCS : Hid (∀ (i : Nat) (x : Tk), ts[i]? = some x → ∃ g, va = some ⟨g, 0, none⟩ ∧ g < w2.heap.size ∧ (w2.cell? ⟨g, i * 4, none⟩ = some (.int .u8 (x.k : Int)) ∧ w2.cell? ⟨g, i * 4 + 1, none⟩ = some (.string (str x.t)) ∧ w2.cell? ⟨g, i * 4 + 2, none⟩ = some (.int .i64 x.n) ∧ w2.cell? ⟨g, i * 4 + 3, none⟩ = some (.int .i64 (x.a : Int)))) := hcs; clear hcs HC8))
    go_loopw [6] (fun p wr => ∃ m : Nat, m ≤ N ∧ p = .int .i64 (m : Int) ∧ Below w2.heap.size w2 wr) (fun p _ => N - (RowKit.intOf p).toNat)
    case atStart => exact ⟨0, by omega, rfl, Below.refl _ _⟩
    case round =>
      obtain ⟨m, hm, rfl, hB⟩ := hrel
      by_cases hlt : m < N
      · have hlt1 : (m : Int) < (N : Int) := by omega
        have hlt0 : (0 : Int) ≤ (m : Int) := by omega
        obtain ⟨x, hx⟩ : ∃ x, ts[m]? = some x := ⟨_, List.getElem?_eq_getElem (by rw [HNN.out]; exact hlt)⟩
        obtain ⟨g, rfl, hgl, h0, h1, h2, h3⟩ := HCS.out m x hx
        have hto := HA.out.each x (List.mem_of_getElem? hx)
        have c0 := (hB.cell (p := ⟨g, m * 4, none⟩) hgl).trans h0
        have c1 := (hB.cell (p := ⟨g, m * 4 + 1, none⟩) hgl).trans h1
        have c2 := (hB.cell (p := ⟨g, m * 4 + 2, none⟩) hgl).trans h2
        have c3 := (hB.cell (p := ⟨g, m * 4 + 3, none⟩) hgl).trans h3
        clear h0 h1 h2 h3
        have hprev : ∀ m', m = m' + 1 → ∃ y : Nat, wr.cell? ⟨g, m' * 4 + 3, none⟩ = some (.int .i64 (y : Int)) ∧ ¬ ((x.a : Int) ≤ (y : Int)) := fun m' e => by
          subst e
          obtain ⟨y, hy⟩ : ∃ y, ts[m']? = some y := ⟨_, List.getElem?_eq_getElem (by rw [HNN.out]; omega)⟩
          obtain ⟨g', e', _, _, _, _, h3⟩ := HCS.out m' y hy
          cases e'
          have := HA.out.rise m' y x hy hx
          exact ⟨y.a, (hB.cell (p := ⟨g, m' * 4 + 3, none⟩) hgl).trans h3, by omega⟩
        clear hx
        obtain ⟨k, t, n, a⟩ := x
        obtain ⟨ha, hlo, hhi, hpre, hquo⟩ := hto
        simp only at ha hlo hhi hpre hquo c0 c1 c2 c3 hprev
        rw [bs_length] at ha
        have z2 : (a : Int) < (s.size : Int) := by omega
        have z0 : (0 : Int) ≤ (a : Int) := by omega
        obtain ⟨b, hbb⟩ : ∃ b, s[a]'ha = b := ⟨_, rfl⟩
        have hb39 : (bs s).getD a 0 = b := by
          rw [List.getD_eq_getElem?_getD, List.getElem?_eq_getElem (by rw [bs_length]; exact ha), ← hbb]
          rfl
        rw [hb39] at hquo
        have htx : k = 2 ∨ k = 4 → s.extract a (a + (str t).size) = str t ∧ a + (str t).size ≤ s.size := fun h => by
          have hp := hpre h
          have hl := hp.length_le
          rw [List.length_drop, bs_length] at hl
          rw [str_size]
          refine ⟨?_, by omega⟩
          rw [ext_take]
          congr 2
          rw [List.drop_take, Nat.add_sub_cancel_left]
          exact (List.prefix_iff_eq_take.1 hp).symm
        generalize str t = tt at *
        clear hpre hb39
        have hk : k = 1 ∨ k = 2 ∨ k = 3 ∨ k = 4 := by omega
        have HP : Hid (∀ m', m = m' + 1 → ∃ y : Nat, wr.cell? ⟨g, m' * 4 + 3, none⟩ = some (.int .i64 (y : Int)) ∧ ¬ ((a : Int) ≤ (y : Int))) := hprev
        have HTX : Hid (k = 2 ∨ k = 4 → s.extract a (a + tt.size) = tt ∧ a + tt.size ≤ s.size) := htx
        clear hprev htx hlo hhi
        have d1 : decide ((a : Int) < 0) = false := by simp
        have d2 : decide ((s.size : Int) ≤ (a : Int)) = false := by simp; omega
        have d3 : decide ((0 : Int) < 0) = false := by simp
        have d2b : decide (s.size ≤ a) = false := by simp; omega
        have d2c : ¬ s.size ≤ a := by omega
        have hgw : g < wr.heap.size := Nat.lt_of_lt_of_le hgl hB.size
        by_cases hm0 : m = 0
        · subst hm0
          rcases hk with rfl | rfl | rfl | rfl
          · have hbn : ¬ b.toNat = 39 := fun e => by have := hquo.2 (UInt8.toNat_inj.1 (by show b.toNat = 39; omega)); omega
            have hbd : (b == 39) = false := by rw [beq_eq_false_iff_ne]; intro e; exact hbn (by rw [e]; rfl)
            clear hquo
            go_wp2_with fail
            go_big_quiet (fail)
            go_wp2_with fail
            go_big_quiet (fail)
            go_wp2_with fail
            go_big_quiet (fail)
            go_wp2_with fail
            exact ⟨⟨1, by omega, rfl, (hB.alloc hB.size _).trans ⟨rfl, rfl, rfl, Nat.le_refl _, fun _ _ => rfl⟩⟩, by simp [RowKit.intOf]; omega⟩
          · have hbn : ¬ b.toNat = 39 := fun e => by have := hquo.2 (UInt8.toNat_inj.1 (by show b.toNat = 39; omega)); omega
            have hbd : (b == 39) = false := by rw [beq_eq_false_iff_ne]; intro e; exact hbn (by rw [e]; rfl)
            clear hquo
            obtain ⟨hx1, hx2⟩ := HTX.out (by omega)
            have d5 : decide ((s.size : Int) - (a : Int) < (tt.size : Int)) = false := by simp; omega
            have d6 : ¬ ((s.size : Int) - (a : Int) < (tt.size : Int)) := by omega
            have d7 : (a : Int) ≤ (a : Int) + (tt.size : Int) := by omega
            have d8 : (a : Int) + (tt.size : Int) ≤ (s.size : Int) := by omega
            have d9 : ((a : Int) + (tt.size : Int)).toNat = a + tt.size := by omega
            go_wp2_with fail
            go_big_quiet (fail)
            go_wp2_with fail
            go_big_quiet (fail)
            go_wp2_with fail
            go_big_quiet (fail)
            go_wp2_with fail
            exact ⟨⟨1, by omega, rfl, (hB.alloc hB.size _).trans ⟨rfl, rfl, rfl, Nat.le_refl _, fun _ _ => rfl⟩⟩, by simp [RowKit.intOf]; omega⟩
          · obtain rfl : b = 39 := hquo.1 rfl
            clear hquo
            go_wp2_with fail
            go_big_quiet (fail)
            go_wp2_with fail
            go_big_quiet (fail)
            go_wp2_with fail
            go_big_quiet (fail)
            go_wp2_with fail
            exact ⟨⟨1, by omega, rfl, (hB.alloc hB.size _).trans ⟨rfl, rfl, rfl, Nat.le_refl _, fun _ _ => rfl⟩⟩, by simp [RowKit.intOf]; omega⟩
          · have hbn : ¬ b.toNat = 39 := fun e => by have := hquo.2 (UInt8.toNat_inj.1 (by show b.toNat = 39; omega)); omega
            have hbd : (b == 39) = false := by rw [beq_eq_false_iff_ne]; intro e; exact hbn (by rw [e]; rfl)
            clear hquo
            obtain ⟨hx1, hx2⟩ := HTX.out (by omega)
            have d5 : decide ((s.size : Int) - (a : Int) < (tt.size : Int)) = false := by simp; omega
            have d6 : ¬ ((s.size : Int) - (a : Int) < (tt.size : Int)) := by omega
            have d7 : (a : Int) ≤ (a : Int) + (tt.size : Int) := by omega
            have d8 : (a : Int) + (tt.size : Int) ≤ (s.size : Int) := by omega
            have d9 : ((a : Int) + (tt.size : Int)).toNat = a + tt.size := by omega
            go_wp2_with fail
            go_big_quiet (fail)
            go_wp2_with fail
            go_big_quiet (fail)
            go_wp2_with fail
            go_big_quiet (fail)
            go_wp2_with fail
            exact ⟨⟨1, by omega, rfl, (hB.alloc hB.size _).trans ⟨rfl, rfl, rfl, Nat.le_refl _, fun _ _ => rfl⟩⟩, by simp [RowKit.intOf]; omega⟩
        · obtain ⟨m', rfl⟩ : ∃ m', m = m' + 1 := ⟨m - 1, by omega⟩
          obtain ⟨y, hy, hyn⟩ := HP.out m' rfl
          have hy2 : ∀ o, (wr.alloc o).cell? ⟨g, m' * 4 + 3, none⟩ = some (.int .i64 (y : Int)) := fun o => ((al wr o).cell (p := ⟨g, m' * 4 + 3, none⟩) hgw).trans hy
          have e1 : decide ((0 : Int) < ((m' + 1 : Nat) : Int)) = true := decide_eq_true (by omega)
          have e2 : (0 : Int) < ((m' + 1 : Nat) : Int) := by omega
          have e3 : decide ((a : Int) ≤ (y : Int)) = false := by simp; omega
          have e4 : decide (a ≤ y) = false := by simp; omega
          have e5 : ¬ a ≤ y := by omega
          have e6 : (m' : Int) < (N : Int) := by omega
          have e7 : (0 : Int) ≤ (m' : Int) := by omega
          have e8 : ((m' + 1 : Nat) : Int) - 1 = (m' : Int) := by omega
          rcases hk with rfl | rfl | rfl | rfl
          · have hbn : ¬ b.toNat = 39 := fun e => by have := hquo.2 (UInt8.toNat_inj.1 (by show b.toNat = 39; omega)); omega
            have hbd : (b == 39) = false := by rw [beq_eq_false_iff_ne]; intro e; exact hbn (by rw [e]; rfl)
            clear hquo
            go_wp2_with fail
            go_big_quiet (fail)
            go_wp2_with fail
            go_big_quiet (fail)
            go_wp2_with fail
            go_big_quiet (fail)
            go_wp2_with fail
            exact ⟨⟨m' + 2, by omega, by first | rfl | (simp; omega), (hB.alloc hB.size _).trans ⟨rfl, rfl, rfl, Nat.le_refl _, fun _ _ => rfl⟩⟩, by simp [RowKit.intOf]; omega⟩
          · have hbn : ¬ b.toNat = 39 := fun e => by have := hquo.2 (UInt8.toNat_inj.1 (by show b.toNat = 39; omega)); omega
            have hbd : (b == 39) = false := by rw [beq_eq_false_iff_ne]; intro e; exact hbn (by rw [e]; rfl)
            clear hquo
            obtain ⟨hx1, hx2⟩ := HTX.out (by omega)
            have d5 : decide ((s.size : Int) - (a : Int) < (tt.size : Int)) = false := by simp; omega
            have d6 : ¬ ((s.size : Int) - (a : Int) < (tt.size : Int)) := by omega
            have d7 : (a : Int) ≤ (a : Int) + (tt.size : Int) := by omega
            have d8 : (a : Int) + (tt.size : Int) ≤ (s.size : Int) := by omega
            have d9 : ((a : Int) + (tt.size : Int)).toNat = a + tt.size := by omega
            go_wp2_with fail
            go_big_quiet (fail)
            go_wp2_with fail
            go_big_quiet (fail)
            go_wp2_with fail
            go_big_quiet (fail)
            go_wp2_with fail
            exact ⟨⟨m' + 2, by omega, by first | rfl | (simp; omega), (hB.alloc hB.size _).trans ⟨rfl, rfl, rfl, Nat.le_refl _, fun _ _ => rfl⟩⟩, by simp [RowKit.intOf]; omega⟩
          · obtain rfl : b = 39 := hquo.1 rfl
            clear hquo
            go_wp2_with fail
            go_big_quiet (fail)
            go_wp2_with fail
            go_big_quiet (fail)
            go_wp2_with fail
            go_big_quiet (fail)
            go_wp2_with fail
            exact ⟨⟨m' + 2, by omega, by first | rfl | (simp; omega), (hB.alloc hB.size _).trans ⟨rfl, rfl, rfl, Nat.le_refl _, fun _ _ => rfl⟩⟩, by simp [RowKit.intOf]; omega⟩
          · have hbn : ¬ b.toNat = 39 := fun e => by have := hquo.2 (UInt8.toNat_inj.1 (by show b.toNat = 39; omega)); omega
            have hbd : (b == 39) = false := by rw [beq_eq_false_iff_ne]; intro e; exact hbn (by rw [e]; rfl)
            clear hquo
            obtain ⟨hx1, hx2⟩ := HTX.out (by omega)
            have d5 : decide ((s.size : Int) - (a : Int) < (tt.size : Int)) = false := by simp; omega
            have d6 : ¬ ((s.size : Int) - (a : Int) < (tt.size : Int)) := by omega
            have d7 : (a : Int) ≤ (a : Int) + (tt.size : Int) := by omega
            have d8 : (a : Int) + (tt.size : Int) ≤ (s.size : Int) := by omega
            have d9 : ((a : Int) + (tt.size : Int)).toNat = a + tt.size := by omega
            go_wp2_with fail
            go_big_quiet (fail)
            go_wp2_with fail
            go_big_quiet (fail)
            go_wp2_with fail
            go_big_quiet (fail)
            go_wp2_with fail
            exact ⟨⟨m' + 2, by omega, by first | rfl | (simp; omega), (hB.alloc hB.size _).trans ⟨rfl, rfl, rfl, Nat.le_refl _, fun _ _ => rfl⟩⟩, by simp [RowKit.intOf]; omega⟩
      · have hlt1 : ¬ (m : Int) < (N : Int) := by omega
        have c11 := HL.out wr (hb2.trans (hB.mono hb2.size))
        have hN1 : (N : Int) ≤ 100 := by omega
        go_wp2_with (go_at_call 11; refine c11.mono ?_; rintro e w3 ⟨rfl, hb3⟩)
        go_ret
        exact ⟨rfl, (hb2.trans (hB.mono hb2.size)).trans (hb3.mono (Nat.le_trans hb2.size hB.size))⟩
  · simp only [List.length_nil] at HC8
    have hez : ¬ (er : Int) = 0 := by simp only at her; omega
    rcases her with her | her
    · simp only at her
      subst her
      go_enter Tryd.func5, Tryd.ntmps5
      go_wp2_with (first
        | (go_at_call 9; refine (c9 _).mono ?_; rintro e w1 ⟨rfl, rfl⟩)
        | (go_at_call 8; refine HC8.out.mono ?_; rintro e w2 ⟨va, vc, rfl, hcs, hb2⟩; have c11 := HL.out w2 hb2; clear hcs)
        | (go_at_call 11; refine c11.mono ?_; rintro e w3 ⟨rfl, hb3⟩))
      go_ret
      exact ⟨rfl, bmore hb2 hb3⟩
    · simp only at her
      subst her
      go_enter Tryd.func5, Tryd.ntmps5
      go_wp2_with (first
        | (go_at_call 9; refine (c9 _).mono ?_; rintro e w1 ⟨rfl, rfl⟩)
        | (go_at_call 8; refine HC8.out.mono ?_; rintro e w2 ⟨va, vc, rfl, hcs, hb2⟩; have c11 := HL.out w2 hb2; clear hcs)
        | (go_at_call 11; refine c11.mono ?_; rintro e w3 ⟨rfl, hb3⟩))
      go_ret
      exact ⟨rfl, bmore hb2 hb3⟩
end Go.Proofs.YthebpkcnhghofaaDoor
