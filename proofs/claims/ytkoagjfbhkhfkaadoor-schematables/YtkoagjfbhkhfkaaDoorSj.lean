/- The reference's SameTable, whichever way. -/
import Derived.Test.YtkoagjfbhkhfkaaDoorSi
namespace Go.Proofs.YtkoagjfbhkhfkaaDoor
open Go.RowKit Go.Lib
set_option maxRecDepth 100000
variable {w w' : World}
set_option maxHeartbeats 2000000 in
theorem table29g (n p n' p' : ByteArray) (va vb : Value) (l l' : List Cl) (q q' : Int) (w : World) (ha : SC w va l) (hb : SC w vb l') (hl : l.length ≤ 1000) (hl2 : l'.length ≤ 1000) :
    Calls Tryd.prog 29 #[TB n va p q, TB n' vb p' q'] w (EQ w (n = n' ∧ p = p' ∧ q = q' ∧ l = l')) := by
  have HSA : Hid (∀ w1, Below w.heap.size w w1 → SC w1 va l) := fun w1 h => ha.below h
  have HSB : Hid (∀ w1, Below w.heap.size w w1 → SC w1 vb l') := fun w1 h => hb.below h
  obtain ⟨pa, ca, rfl, _⟩ := ha
  obtain ⟨pb, cb, rfl, _⟩ := hb
  obtain ⟨N, hN⟩ : ∃ N, l.length = N := ⟨_, rfl⟩
  obtain ⟨M, hM⟩ : ∃ M, l'.length = M := ⟨_, rfl⟩
  have HNN : Hid (l.length = N) := hN
  have HMM : Hid (l'.length = M) := hM
  rw [hN] at hl ⊢
  rw [hM] at hl2 ⊢
  clear hN hM
  by_cases h1 : n = n'
  · subst h1
    by_cases h2 : p = p'
    · subst h2
      by_cases h3 : q = q'
      · subst h3
        by_cases h4 : N = M
        · subst h4
          have b0 := (blk_new w [.string n, .slice pa N ca, .string p, .int .i64 q] 32).below (al _ (.cells #[.string n, .slice pb N cb, .string p, .int .i64 q] 32))
          have b1 : Blk ((w.alloc (.cells #[.string n, .slice pa N ca, .string p, .int .i64 q] 32)).alloc (.cells #[.string n, .slice pb N cb, .string p, .int .i64 q] 32)) (w.heap.size + 1) [.string n, .slice pb N cb, .string p, .int .i64 q] 32 := blk_at _ _ 32 (by simp)
          have F2 : Below w.heap.size w ((w.alloc (.cells #[.string n, .slice pa N ca, .string p, .int .i64 q] 32)).alloc (.cells #[.string n, .slice pb N cb, .string p, .int .i64 q] 32)) := bal (al _ _) _
          have HB0 : Hid _ := b0
          have HB1 : Hid _ := b1
          have HF2 : Hid _ := F2
          clear b0 b1 F2
          go_enter Tryd.func29, Tryd.ntmps29
          go_wp2
          go_loopw [5] (fun x wr => ∃ k : Nat, k ≤ N ∧ x = .int .i64 (k : Int) ∧ Hid ((∀ i, i < k → l[i]? = l'[i]?) ∧ Blk wr w.heap.size [.string n, .slice pa N ca, .string p, .int .i64 q] 32 ∧ Blk wr (w.heap.size + 1) [.string n, .slice pb N cb, .string p, .int .i64 q] 32 ∧ Below w.heap.size w wr)) (fun x _ => N - (RowKit.intOf x).toNat)
          case atStart => exact ⟨0, by omega, rfl, fun i hi => by omega, HB0.out, HB1.out, HF2.out⟩
          case round =>
            obtain ⟨k, hk, rfl, HW⟩ := hrel
            obtain ⟨_, b0, b1, hB⟩ := HW.out
            have e0 := b0.here (j := 1) rfl
            have e1 := b1.here (j := 1) rfl
            by_cases hlt : k < N
            · have h1 : (k : Int) < (N : Int) := by omega
              have h0 : (0 : Int) ≤ (k : Int) := by omega
              obtain ⟨a1, a2, he1, hat1⟩ := HSA.out wr hB
              obtain ⟨a3, a4, he2, hat2⟩ := HSB.out wr hB
              simp only [Value.slice.injEq] at he1 he2
              obtain ⟨rfl, he3, rfl⟩ := he1
              obtain ⟨rfl, he4, rfl⟩ := he2
              clear he3 he4
              obtain ⟨ga, oa, rfl, _, hca⟩ := hat1 (by rw [HNN.out]; omega)
              obtain ⟨gb, ob, rfl, _, hcb⟩ := hat2 (by rw [HMM.out]; omega)
              obtain ⟨x, hx⟩ : ∃ x, l[k]? = some x := ⟨_, List.getElem?_eq_getElem (by rw [HNN.out]; exact hlt)⟩
              obtain ⟨y, hy⟩ : ∃ y, l'[k]? = some y := ⟨_, List.getElem?_eq_getElem (by rw [HMM.out]; exact hlt)⟩
              obtain ⟨c0, c1⟩ := hca k x hx
              obtain ⟨d0, d1⟩ := hcb k y hy
              have HS : Hid (l[k]? = some x ∧ l'[k]? = some y) := ⟨hx, hy⟩
              clear hca hcb hx hy hat1 hat2
              by_cases hxy : x = y
              · subst hxy
                have hne := neq44
                generalize str x.1 = xs at *
                go_wp2_with fail
                go_quiet (fail)
                go_wp2_with fail
                go_roundw
                case rel => exact ⟨k + 1, by omega, by simp, fun i hi => by
                  by_cases hik : i < k
                  · exact HW.out.1 i hik
                  · obtain rfl : i = k := by omega
                    rw [HS.out.1, HS.out.2], b0.block rfl, b1.block rfl, bdrewN hB _⟩
                case measure => simp [RowKit.intOf]; omega
              · have HNE : Hid (¬ l = l') := fun e => hxy (by have := HS.out; rw [e, this.2] at this; exact Option.some.inj this.1.symm)
                have hne := neq44_ne _ _ _ _ (cl_ne hxy)
                clear hxy
                generalize str x.1 = xs at *
                generalize str y.1 = ys at *
                go_wp2_with fail
                go_quiet (fail)
                go_wp2_with fail
                go_ret
                exact EQ.no (fun h => HNE.out h.2.2.2) (bdrewN hB _)
            · have h1 : ¬ (k : Int) < (N : Int) := by omega
              go_wp2
              go_ret
              have hll : l = l' := ext_upto HNN.out HMM.out (fun i hi => HW.out.1 i (by omega))
              exact EQ.yes (by simp [hll]) hB
        · have hb1 : ((N : Int) != (M : Int)) = true := by simpa using (by omega : ¬ (N : Int) = (M : Int))
          have HNE : Hid (¬ l = l') := fun e => h4 (by have h1 := HNN.out; have h2 := HMM.out; rw [e] at h1; omega)
          clear h4
          go_enter Tryd.func29, Tryd.ntmps29
          go_wp2
          go_ret
          exact EQ.no (fun h => HNE.out h.2.2.2) (bal (al _ _) _)
      · have hq : (q != q') = true := by simpa using h3
        have HN : Hid (¬ q = q') := h3
        clear h3
        go_enter Tryd.func29, Tryd.ntmps29
        go_wp2
        go_ret
        exact EQ.no (fun h => HN.out h.2.2.1) (bal (al _ _) _)
    · have hnl := ne_list h2
      have HN : Hid (¬ p = p') := h2
      clear h2
      go_enter Tryd.func29, Tryd.ntmps29
      go_wp2
      go_ret
      exact EQ.no (fun h => HN.out h.2.1) (bal (al _ _) _)
  · have hnl := ne_list h1
    have HN : Hid (¬ n = n') := h1
    clear h1
    go_enter Tryd.func29, Tryd.ntmps29
    go_wp2
    go_ret
    exact EQ.no (fun h => HN.out h.1) (bal (al _ _) _)
end Go.Proofs.YtkoagjfbhkhfkaaDoor
