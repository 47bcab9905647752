/- The document's Points, walked. -/
import Derived.Test.YtpagnphabchfcaaGreatQk
namespace Go.Proofs.YtpagnphabchfcaaGreat
open Go.RowKit Go.Shelf
set_option maxRecDepth 100000
set_option maxHeartbeats 1000000 in
theorem rpoints18 {w : World} {X : Nat → Prop} {v : Value} {es : List El} (h : RL w X v es) (hl : es.length ≤ 1000) :
    Calls Tryz.prog 18 #[v] w (IPost w (pointsR (rws es))) := by
  obtain ⟨pa, c, rfl⟩ := h.form
  obtain ⟨N, hN⟩ : ∃ N, es.length = N := ⟨_, rfl⟩
  have HN : Hid _ := hN
  have HR : Hid (RL w (fun x => w.heap.size ≤ x) (.slice pa es.length c) es) := RL.old (h.mono (Y := fun _ => False) (fun _ _ h => h.elim))
  have HA : Hid ((rws es).length = N) := by show _ = _; simpa [rws] using hN
  have HF : Hid (picked (mkd (rws es)) 2001 = pointsR (rws es)) := picked_points _
  obtain ⟨n, hn⟩ : ∃ n, n = 2001 := ⟨_, rfl⟩
  have Hn : Hid (n = 2001) := hn
  have hn3 : n ≤ 3000 := by omega
  have hn4 : 2000 < n := by omega
  have hmk : ∀ w : World, (Instr.makeSlice 73 (.int .i64 2001) (.int .i64 2001)).run Tryz.prog w = .ok (.slice (some ⟨w.heap.size, 0, none⟩) n n) (w.alloc (.cells (madeCells #[.bool false] 2001) 4)) := by
    rw [hn]
    exact run_make_row' (P := Tryz.prog) 73 4 (.bool false) 1 Sp.Tryz.underlying73 Sp.Tryz.info4 rfl .i64 .i64 2001 (by omega) (by omega)
  rw [hN] at hl HR ⊢
  generalize pointsR (rws es) = PP at *
  clear h hN hn
  go_enter Tryz.func18, Tryz.ntmps18
  go_wp2_with fail
  have R0 : RowC (w.alloc (.cells (madeCells #[.bool false] 2001) 4)) w.heap.size (mkd ((rws es).take 0)) := (World.rowIs_made _ _ _ _ : RowC _ _ (fun _ => false)).congr (fun i => by simp [mkd, ptsL])
  have hB0 : Below w.heap.size w (w.alloc (.cells (madeCells #[.bool false] 2001) 4)) := al _ _
  have hg0 : w.heap.size < (w.alloc (.cells (madeCells #[.bool false] 2001) 4)).heap.size := by simp
  have HR0 : Hid _ := R0
  have HB0 : Hid _ := hB0
  generalize w.alloc (.cells (madeCells #[.bool false] 2001) 4) = w1 at *
  clear R0 hB0 hmk
  go_loopw [4] (fun fi wr => ∃ (k : Nat), fi = .int .i64 (k : Int) ∧ Hid (k ≤ N) ∧ Hid (RowC wr w.heap.size (mkd ((rws es).take k))) ∧ Hid (Below w.heap.size w wr)) (fun fi _ => ((N : Int) - intOf fi).toNat)
  case atStart => exact ⟨0, rfl, Nat.zero_le _, HR0.out, HB0.out⟩
  case round =>
    obtain ⟨k, rfl, hk, hC, hB⟩ := hrel
    by_cases hkN : k < N
    · have hki : (k : Int) < (N : Int) := by omega
      have hk0 : (0 : Int) ≤ (k : Int) := by omega
      obtain ⟨e, he⟩ : ∃ e, es[k]? = some e := ⟨_, List.getElem?_eq_getElem (by rw [HN.out]; exact hkN)⟩
      obtain ⟨g, o, rfl, _, hgx, d0, d1, d2⟩ := (RL.below HR.out hB.out).get he
      have hgl : g < w.heap.size := by omega
      have HCk : Hid (∀ W, Below w.heap.size w W → W.cell? ⟨g, o + k * 3 + 1, none⟩ = some (.int .i64 e.2.2.1) ∧ W.cell? ⟨g, o + k * 3 + 2, none⟩ = some (.int .i64 e.2.2.2)) := fun W kk => (RL.at3 (RL.below HR.out kk) he).2
      have HTk : Hid (∀ i, mkd ((rws es).take (k + 1)) i = (mkd ((rws es).take k) i || (Sp.rightB e.2.2.1 e.2.2.2 && (decide ((i : Int) - 1000 = e.2.2.1) || decide ((i : Int) - 1000 = e.2.2.2))))) := fun i => mkd_take (by rw [rws, List.getElem?_map, he]; rfl) i
      obtain ⟨sv, vs, f, t⟩ := e
      simp only at d0 d1 d2 HCk HTk
      have k55 := Sp.right13 f t wr
      have hA := box39 wr f t
      have HB5 : Hid (Below w.heap.size w (wr.alloc (.cells #[.int .i64 f, .int .i64 t] 39))) := bmore hB.out hA
      have HC5 : Hid (RowC (wr.alloc (.cells #[.int .i64 f, .int .i64 t] 39)) w.heap.size (mkd ((rws es).take k))) := World.rowIs.alloc hC.out _
      clear he d0 hA
      cases hr : Sp.rightB f t
      · rw [hr] at k55
        have HC6 : Hid (RowC (wr.alloc (.cells #[.int .i64 f, .int .i64 t] 39)) w.heap.size (mkd ((rws es).take (k + 1)))) := HC5.out.congr (fun i => by rw [HTk.out, hr]; simp)
        clear hr
        go_wp2_with (go_at_call 55; (with_reducible refine k55.mono ?_); rintro e w' ⟨rfl, rfl⟩)
        go_roundw
        case rel => exact ⟨k + 1, by simp, by show _ ≤ _; omega, HC6.out, HB5.out⟩
        case measure => simp only [intOf]; omega
      · obtain ⟨r1, r2, r3⟩ := (Sp.rightB_iff _ _).1 hr
        rw [hr] at k55
        obtain ⟨m1, hm1⟩ : ∃ m : Nat, f + 1000 = (m : Int) := ⟨(f + 1000).toNat, by omega⟩
        obtain ⟨m2, hm2⟩ : ∃ m : Nat, t + 1000 = (m : Int) := ⟨(t + 1000).toNat, by omega⟩
        have HC6 : Hid (RowC (((wr.alloc (.cells #[.int .i64 f, .int .i64 t] 39)).setCell ⟨w.heap.size, m1, none⟩ (.bool true)).setCell ⟨w.heap.size, m2, none⟩ (.bool true)) w.heap.size (mkd ((rws es).take (k + 1)))) := ((HC5.out.set m1 true).set m2 true).congr (fun i => by
          rw [HTk.out, hr]
          by_cases h1 : i = m1
          · subst h1; by_cases h2 : i = m2 <;> simp [h2] <;> omega
          · by_cases h2 : i = m2
            · subst h2; simp; omega
            · have q1 : ¬ (i : Int) - 1000 = f := by omega
              have q2 : ¬ (i : Int) - 1000 = t := by omega
              simp [h1, h2, q1, q2])
        have HB6 : Hid (Below w.heap.size w (((wr.alloc (.cells #[.int .i64 f, .int .i64 t] 39)).setCell ⟨w.heap.size, m1, none⟩ (.bool true)).setCell ⟨w.heap.size, m2, none⟩ (.bool true))) := (HB5.out.setCell (Nat.le_refl _) _).setCell (Nat.le_refl _) _
        obtain ⟨x1, x2⟩ := HCk.out _ HB5.out
        have x3 := (HCk.out _ (HB5.out.setCell (p := ⟨w.heap.size, m1, none⟩) (Nat.le_refl _) (.bool true))).2
        have y1 := HC5.out.cell (m := m1) (by omega)
        have y2 := (HC5.out.set m1 true).cell (m := m2) (by omega)
        have z1 := World.rowIs.frozen HC5.out m1
        have z2 := World.rowIs.frozen (HC5.out.set m1 true) m2
        have i1 : (0 : Int) ≤ (m1 : Int) := by omega
        have i2 : (m1 : Int) < (n : Int) := by omega
        have i3 : (0 : Int) ≤ (m2 : Int) := by omega
        have i4 : (m2 : Int) < (n : Int) := by omega
        have w1 : IntKind.i64.wrap (f + 1000) = (m1 : Int) := by rw [hm1]; exact wrap_small _ (by omega) (by omega)
        have w2 : IntKind.i64.wrap (t + 1000) = (m2 : Int) := by rw [hm2]; exact wrap_small _ (by omega) (by omega)
        have hne : g ≠ w.heap.size := by omega
        generalize mkd ((rws es).take k) m1 = old1 at y1
        generalize (if m2 = m1 then true else mkd ((rws es).take k) m2) = old2 at y2
        clear hm1 hm2 hr r1 r2 r3 HTk HC5
        go_wp2_with (go_at_call 55; (with_reducible refine k55.mono ?_); rintro e w' ⟨rfl, rfl⟩)
        go_roundw
        case rel => exact ⟨k + 1, by simp, by show _ ≤ _; omega, HC6.out, HB6.out⟩
        case measure => simp only [intOf]; omega
    · have hki : ¬ (k : Int) < (N : Int) := by omega
      have HC' : Hid (RowC wr w.heap.size (mkd (rws es))) := by have := hC.out; rwa [List.take_of_length_le (by rw [HA.out]; omega)] at this
      have hgs : w.heap.size < wr.heap.size := World.rowIs.lt hC.out
      obtain ⟨w3, hw3⟩ : ∃ w3, w3 = wr := ⟨_, rfl⟩
      subst hw3
      have HB3 : Hid (Below w.heap.size w w3) := hB.out
      clear hC hB
      go_wp2_with fail
      go_loopw [5, 6] (fun fo fi wr => ∃ (i : Nat), fi = .int .i64 (i : Int) ∧ Hid (i ≤ n) ∧ Hid (OwnI wr w3.heap.size fo (picked (mkd (rws es)) i)) ∧ Hid (Below w3.heap.size w3 wr)) (fun _ fi _ => ((n : Int) - intOf fi).toNat)
      case atStart => exact ⟨0, rfl, Nat.zero_le _, OwnI.nil _ _, Below.refl _ _⟩
      case round =>
        obtain ⟨i, rfl, hi, hO, hB⟩ := hrel
        by_cases hin : i < n
        · have hii : (i : Int) < (n : Int) := by omega
          have hi0 : (0 : Int) ≤ (i : Int) := by omega
          have c1 := (RowC.below HC'.out hB.out hgs).cell (m := i) (by have := Hn.out; omega)
          have HS : Hid (picked (mkd (rws es)) (i + 1) = picked (mkd (rws es)) i ++ if mkd (rws es) i = true then [-1000 + (i : Int)] else []) := picked_succ _ _
          have HLn : Hid ((picked (mkd (rws es)) i).length ≤ 100000) := by have := picked_len (mkd (rws es)) i; show _ ≤ _; omega
          cases hm : mkd (rws es) i
          · rw [hm] at c1 HS
            have HS' : Hid (picked (mkd (rws es)) (i + 1) = picked (mkd (rws es)) i) := by show _ = _; rw [HS.out]; simp
            clear hm HS
            go_wp2_with fail
            go_roundw
            case rel => exact ⟨i + 1, by simp, by show _ ≤ _; omega, by show OwnI _ _ _ _; rw [HS'.out]; exact hO.out, hB.out⟩
            case measure => simp only [intOf]; omega
          · rw [hm] at c1 HS
            have HS' : Hid (picked (mkd (rws es)) (i + 1) = picked (mkd (rws es)) i ++ [-1000 + (i : Int)]) := by show _ = _; rw [HS.out]; simp
            have HApp := ownI_app1 (x := -1000 + (i : Int)) hO.out HLn.out hB.out.size
            have hw : IntKind.i64.wrap (-1000 + (i : Int)) = -1000 + (i : Int) := by simp [IntKind.wrap, IntKind.bits, IntKind.signed]; omega
            clear hm HS
            go_wp2_with (at_builtin; refine wpList_append_ex (by rfl) (.tmp 48) (.tmp 51) 31 (by rfl) _ _ (by rfl) (by rfl) HApp ?_; rintro v7 w7 ⟨hO7, hB7⟩)
            go_roundw
            case rel => exact ⟨i + 1, by simp, by show _ ≤ _; omega, by show OwnI _ _ _ _; rw [HS'.out]; exact hO7.out, hB.out.trans hB7.out⟩
            case measure => simp only [intOf]; omega
        · have hii : ¬ (i : Int) < (n : Int) := by omega
          have HE : Hid (picked (mkd (rws es)) i = PP) := by show _ = _; rw [← HF.out, show i = 2001 by have := hi.out; have := Hn.out; omega]
          go_wp2
          go_ret
          refine ⟨_, rfl, ?_, bmore HB3.out hB.out⟩
          have h1 := hO.out
          rw [HE.out] at h1
          exact ⟨h1.1, h1.2.imp id fun ⟨g, cap, cur, q1, q2, q3⟩ => ⟨g, cap, cur, q1, Nat.le_trans HB3.out.size q2, q3⟩⟩
end Go.Proofs.YtpagnphabchfcaaGreat
