/- Are they the same? The answers, whichever way. -/
import Derived.Test.YtkoagjfbhkhfkaaDoorFl
namespace Go.Proofs.YtkoagjfbhkhfkaaDoor
open Go.RowKit Go.Lib
set_option maxRecDepth 100000
variable {w w' : World}
def EQ (w : World) (P : Prop) (e : Ending) (w' : World) : Prop := ∃ b : Bool, e = .returned (.bool b) ∧ (b = true ↔ P) ∧ Below w.heap.size w w'
theorem EQ.no {P : Prop} (h : ¬ P) (hb : Below w.heap.size w w') : EQ w P (.returned (.bool false)) w' := ⟨false, rfl, by simp [h], hb⟩
theorem EQ.yes {P : Prop} (h : P) (hb : Below w.heap.size w w') : EQ w P (.returned (.bool true)) w' := ⟨true, rfl, by simp [h], hb⟩
theorem ext_upto {α : Type} {xs ys : List α} {N : Nat} (h1 : xs.length = N) (h2 : ys.length = N) (h : ∀ i, i < N → xs[i]? = ys[i]?) : xs = ys := List.ext_getElem? fun i => by
  by_cases hi : i < N
  · exact h i hi
  · rw [List.getElem?_eq_none (by omega), List.getElem?_eq_none (by omega)]
set_option maxHeartbeats 1000000 in
theorem eq38 (a b : Value) (xs ys : List ByteArray) (w : World) (ha : SX w a xs) (hb : SX w b ys) (hl : xs.length ≤ 1000) (hl2 : ys.length ≤ 1000) :
    Calls Tryd.prog 38 #[a, b] w (EQ w (xs = ys)) := by
  obtain ⟨pa, ca, rfl, ha⟩ := ha
  obtain ⟨pb, cb, rfl, hb⟩ := hb
  obtain ⟨N, hN⟩ : ∃ N, xs.length = N := ⟨_, rfl⟩
  obtain ⟨M, hM⟩ : ∃ M, ys.length = M := ⟨_, rfl⟩
  have HNN : Hid (xs.length = N) := hN
  have HMM : Hid (ys.length = M) := hM
  rw [hN] at ha hl ⊢
  rw [hM] at hb hl2 ⊢
  have HA : Hid _ := ha
  have HB : Hid _ := hb
  clear ha hb hN hM
  by_cases hNM : N = M
  · subst hNM
    go_enter Tryd.func38, Tryd.ntmps38
    go_wp2
    go_loopw [13] (fun q wr => ∃ k : Nat, k ≤ N ∧ q = .int .i64 (k : Int) ∧ Hid ((∀ i, i < k → xs[i]? = ys[i]?) ∧ wr.heap = w.heap ∧ Below w.heap.size w wr)) (fun q _ => N - (RowKit.intOf q).toNat)
    case atStart => exact ⟨0, by omega, rfl, fun i hi => by omega, rfl, Below.refl _ _⟩
    case round =>
      obtain ⟨k, hk, rfl, HW⟩ := hrel
      by_cases hlt : k < N
      · have h1 : (k : Int) < (N : Int) := by omega
        have h0 : (0 : Int) ≤ (k : Int) := by omega
        obtain ⟨ga, oa, rfl, _, hca⟩ := HA.out (by omega)
        obtain ⟨gb, ob, rfl, _, hcb⟩ := HB.out (by omega)
        obtain ⟨s, hs⟩ : ∃ s, xs[k]? = some s := ⟨_, List.getElem?_eq_getElem (by rw [HNN.out]; exact hlt)⟩
        obtain ⟨t, ht⟩ : ∃ t, ys[k]? = some t := ⟨_, List.getElem?_eq_getElem (by rw [HMM.out]; exact hlt)⟩
        have c0 : wr.cell? ⟨ga, oa + k, none⟩ = some (.string s) := by
          have := hca k s hs
          simpa only [World.cell?, HW.out.2.1] using this
        have c1 : wr.cell? ⟨gb, ob + k, none⟩ = some (.string t) := by
          have := hcb k t ht
          simpa only [World.cell?, HW.out.2.1] using this
        have HS : Hid (xs[k]? = some s ∧ ys[k]? = some t) := ⟨hs, ht⟩
        clear hca hcb hs ht
        by_cases hst : s = t
        · subst hst
          go_wp2_with fail
          go_quiet (fail)
          go_wp2_with fail
          go_roundw
          case rel => exact ⟨k + 1, by omega, by simp, fun i hi => by
            by_cases hik : i < k
            · exact HW.out.1 i hik
            · obtain rfl : i = k := by omega
              rw [HS.out.1, HS.out.2], HW.out.2.1, bdrewN HW.out.2.2 _⟩
          case measure => simp [RowKit.intOf]; omega
        · have hnl := ne_list hst
          have HNE : Hid (¬ xs = ys) := fun e => hst (by have := HS.out; rw [e, this.2] at this; exact Option.some.inj this.1.symm)
          clear hst
          go_wp2_with fail
          go_quiet (fail)
          go_wp2_with fail
          go_ret
          exact EQ.no HNE.out (bdrewN HW.out.2.2 _)
      · have h1 : ¬ (k : Int) < (N : Int) := by omega
        go_wp2
        go_ret
        exact EQ.yes (ext_upto HNN.out HMM.out (fun i hi => HW.out.1 i (by omega))) HW.out.2.2
  · have hb1 : ((N : Int) != (M : Int)) = true := by simpa using (by omega : ¬ (N : Int) = (M : Int))
    have HNE : Hid (¬ xs = ys) := fun e => hNM (by have h1 := HNN.out; have h2 := HMM.out; rw [e] at h1; omega)
    clear hNM
    go_enter Tryd.func38, Tryd.ntmps38
    go_wp2
    go_ret
    exact EQ.no HNE.out (Below.refl _ _)
theorem neq44_ne (s t : ByteArray) (k j : Int) (h : ¬ (s = t ∧ k = j)) (W : World) : (binOp .neq 44 (.agg #[.string s, .int .u8 k]) (.agg #[.string t, .int .u8 j])).run Tryd.prog W = .ok (.bool true) W := by
  have h1 : Tryd.prog.underlying 44 = some (.struct (Tryd.prog.fieldsOf 44)) := by kernel_rfl
  have h2 : Tryd.prog.stoodInHeld 44 = false := by kernel_rfl
  rw [run_neq_struct, show (10000 : Nat) = 9999 + 1 from rfl, run_equalIn_struct _ _ _ _ _ h1 h2]
  have hf : (Tryd.prog.fieldsOf 44) = (match Tryd.prog.underlying 44 with | some (.struct fs) => fs | _ => #[]) := rfl
  rw [hf, Tryd.underlying44]
  clear hf h1 h2
  by_cases hs : s = t
  · have hk : ¬ k = j := fun e => h ⟨hs, e⟩
    subst hs
    simp [go_sem, hk]
  · have hnl := ne_list hs
    simp [go_sem, hnl]
end Go.Proofs.YtkoagjfbhkhfkaaDoor
