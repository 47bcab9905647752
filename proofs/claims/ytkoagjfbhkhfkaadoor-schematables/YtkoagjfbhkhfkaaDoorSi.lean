/- Columns and tables: are they the same? -/
import Derived.Test.YtkoagjfbhkhfkaaDoorSh
namespace Go.Proofs.YtkoagjfbhkhfkaaDoor
open Go.RowKit Go.Lib
set_option maxRecDepth 100000
variable {w w' : World}
theorem cl_ne {x y : Cl} (h : ¬ x = y) : ¬ (str x.1 = str y.1 ∧ (x.2 : Int) = (y.2 : Int)) := fun ⟨h1, h2⟩ => h (by
  have h3 := congrArg bs h1
  rw [bs_str, bs_str] at h3
  exact Prod.ext h3 (by omega))
set_option maxHeartbeats 1000000 in
theorem eq47 (a b : Value) (xs ys : List Cl) (w : World) (ha : SC w a xs) (hb : SC w b ys) (hl : xs.length ≤ 1000) (hl2 : ys.length ≤ 1000) :
    Calls Tryd.prog 47 #[a, b] w (EQ w (xs = ys)) := by
  obtain ⟨pa, ca, rfl, ha⟩ := ha
  obtain ⟨pb, cb, rfl, hb⟩ := hb
  obtain ⟨N, hN⟩ : ∃ N, xs.length = N := ⟨_, rfl⟩
  obtain ⟨M, hM⟩ : ∃ M, ys.length = M := ⟨_, rfl⟩
  have HNN : Hid (xs.length = N) := hN
  have HMM : Hid (ys.length = M) := hM
  rw [hN] at ha hl ⊢
  rw [hM] at hb hl2 ⊢
  have HA : Hid _ := ha
  have HB : Hid _ := hb
  clear ha hb hN hM
  by_cases hNM : N = M
  · subst hNM
    go_enter Tryd.func47, Tryd.ntmps47
    go_wp2
    go_loopw [13] (fun q wr => ∃ k : Nat, k ≤ N ∧ q = .int .i64 (k : Int) ∧ Hid ((∀ i, i < k → xs[i]? = ys[i]?) ∧ wr.heap = w.heap ∧ Below w.heap.size w wr)) (fun q _ => N - (RowKit.intOf q).toNat)
    case atStart => exact ⟨0, by omega, rfl, fun i hi => by omega, rfl, Below.refl _ _⟩
    case round =>
      obtain ⟨k, hk, rfl, HW⟩ := hrel
      by_cases hlt : k < N
      · have h1 : (k : Int) < (N : Int) := by omega
        have h0 : (0 : Int) ≤ (k : Int) := by omega
        obtain ⟨ga, oa, rfl, _, hca⟩ := HA.out (by omega)
        obtain ⟨gb, ob, rfl, _, hcb⟩ := HB.out (by omega)
        obtain ⟨s, hs⟩ : ∃ s, xs[k]? = some s := ⟨_, List.getElem?_eq_getElem (by rw [HNN.out]; exact hlt)⟩
        obtain ⟨t, ht⟩ : ∃ t, ys[k]? = some t := ⟨_, List.getElem?_eq_getElem (by rw [HMM.out]; exact hlt)⟩
        have c0 : wr.cell? ⟨ga, oa + k * 2, none⟩ = some (.string (str s.1)) := by
          have := (hca k s hs).1
          simpa only [World.cell?, HW.out.2.1] using this
        have c1 : wr.cell? ⟨ga, oa + k * 2 + 1, none⟩ = some (.int .u8 (s.2 : Int)) := by
          have := (hca k s hs).2
          simpa only [World.cell?, HW.out.2.1] using this
        have d0 : wr.cell? ⟨gb, ob + k * 2, none⟩ = some (.string (str t.1)) := by
          have := (hcb k t ht).1
          simpa only [World.cell?, HW.out.2.1] using this
        have d1 : wr.cell? ⟨gb, ob + k * 2 + 1, none⟩ = some (.int .u8 (t.2 : Int)) := by
          have := (hcb k t ht).2
          simpa only [World.cell?, HW.out.2.1] using this
        have HS : Hid (xs[k]? = some s ∧ ys[k]? = some t) := ⟨hs, ht⟩
        clear hca hcb hs ht
        by_cases hst : s = t
        · subst hst
          have hne := neq44
          generalize str s.1 = s1 at *
          go_wp2_with fail
          go_quiet (fail)
          go_wp2_with fail
          go_roundw
          case rel => exact ⟨k + 1, by omega, by simp, fun i hi => by
            by_cases hik : i < k
            · exact HW.out.1 i hik
            · obtain rfl : i = k := by omega
              rw [HS.out.1, HS.out.2], HW.out.2.1, bdrewN HW.out.2.2 _⟩
          case measure => simp [RowKit.intOf]; omega
        · have HNE : Hid (¬ xs = ys) := fun e => hst (by have := HS.out; rw [e, this.2] at this; exact Option.some.inj this.1.symm)
          have hne := neq44_ne _ _ _ _ (cl_ne hst)
          clear hst
          generalize str s.1 = s1 at *
          generalize str t.1 = t1 at *
          go_wp2_with fail
          go_quiet (fail)
          go_wp2_with fail
          go_ret
          exact EQ.no HNE.out (bdrewN HW.out.2.2 _)
      · have h1 : ¬ (k : Int) < (N : Int) := by omega
        go_wp2
        go_ret
        exact EQ.yes (ext_upto HNN.out HMM.out (fun i hi => HW.out.1 i (by omega))) HW.out.2.2
  · have hb1 : ((N : Int) != (M : Int)) = true := by simpa using (by omega : ¬ (N : Int) = (M : Int))
    have HNE : Hid (¬ xs = ys) := fun e => hNM (by have h1 := HNN.out; have h2 := HMM.out; rw [e] at h1; omega)
    clear hNM
    go_enter Tryd.func47, Tryd.ntmps47
    go_wp2
    go_ret
    exact EQ.no HNE.out (Below.refl _ _)
set_option maxHeartbeats 1000000 in
theorem alike39 (n p n' p' : ByteArray) (va vb : Value) (l l' : List Cl) (q q' : Int) (w : World) (ha : SC w va l) (hb : SC w vb l') (hl : l.length ≤ 1000) (hl2 : l'.length ≤ 1000) :
    Calls Tryd.prog 39 #[TB n va p q, TB n' vb p' q'] w (EQ w (n = n' ∧ p = p' ∧ q = q' ∧ l = l')) := by
  have HE : Hid (∀ w1, Below w.heap.size w w1 → Calls Tryd.prog 47 #[va, vb] w1 (EQ w1 (l = l'))) := fun w1 h1 => eq47 _ _ _ _ w1 (ha.below h1) (hb.below h1) hl hl2
  obtain ⟨pa, ca, rfl, _⟩ := ha
  obtain ⟨pb, cb, rfl, _⟩ := hb
  generalize l.length = N at *
  generalize l'.length = M at *
  by_cases h1 : n = n'
  · subst h1
    by_cases h2 : p = p'
    · subst h2
      by_cases h3 : q = q'
      · subst h3
        go_enter Tryd.func39, Tryd.ntmps39
        go_wp2_with (go_at_call 47; refine (HE.out _ (bal (al _ _) _)).mono ?_; rintro e w1 ⟨b, rfl, hbb, hb1⟩; have HBB : Hid _ := hbb; clear hbb)
        go_ret
        exact ⟨b, rfl, by rw [HBB.out]; simp, bmore (bal (al _ _) _) hb1⟩
      · have hq : (q == q') = false := by simpa using h3
        have HN : Hid (¬ q = q') := h3
        clear h3
        go_enter Tryd.func39, Tryd.ntmps39
        go_wp2
        go_ret
        exact EQ.no (fun h => HN.out h.2.2.1) (bal (al _ _) _)
    · have hnl := ne_list h2
      have HN : Hid (¬ p = p') := h2
      clear h2
      go_enter Tryd.func39, Tryd.ntmps39
      go_wp2
      go_ret
      exact EQ.no (fun h => HN.out h.2.1) (bal (al _ _) _)
  · have hnl := ne_list h1
    have HN : Hid (¬ n = n') := h1
    clear h1
    go_enter Tryd.func39, Tryd.ntmps39
    go_wp2
    go_ret
    exact EQ.no (fun h => HN.out h.1) (bal (al _ _) _)
end Go.Proofs.YtkoagjfbhkhfkaaDoor
