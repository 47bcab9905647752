/- Whether two states are the same: the document's; Get of a table that is not there. -/
import Derived.Test.YtpagnphabchfcaaGreatTl
namespace Go.Proofs.YtpagnphabchfcaaGreat
open Go.RowKit Go.Shelf
set_option maxRecDepth 100000
theorem get36_none {w : World} {s m : Nat} {E : List (List UInt8 × Value)} {n : ByteArray} (h : SM w s m E) (hn : n.size ≤ maxLen) (hf : fnd E (bs n) = none) : Calls Tryz.prog 36 #[.pointer (some ⟨s, 0, none⟩), .string n] w (RPost w []) := by
  have k35 := copied35 (RL.nil (w := w) (X := fun _ => False) none 0) (by simp) (fun e he => by cases he)
  have hlk := h.look n hn
  rw [hf] at hlk
  simp only [Option.map_none, Option.getD_none] at hlk
  have hc0 := h.blk.cell 0
  simp only [List.getElem?_cons_zero] at hc0
  clear h hf
  have hh : Calls Tryz.prog 36 #[.pointer (some ⟨s, 0, none⟩), .string n] w (SPost w []) := by
    go_enter Tryz.func36, Tryz.ntmps36
    go_wp2_with (go_at_call 44; (with_reducible refine k35.mono ?_); rintro e w1 ⟨v1, es1, rfl, hO, hE, B1⟩)
    go_ret
    exact ⟨v1, es1, rfl, hO.out.1, hO.out.2, hE.out, B1⟩
  exact hh.mono (fun _ _ q => SPost.r q)
set_option maxHeartbeats 1000000 in
theorem rget37_none {w : World} {r : Nat} {σ : List Tab} {n : ByteArray} (h : RSt w r σ) (hσ : σ.length ≤ 100) (hno : ∀ t ∈ σ, t.1 ≠ n) :
    Calls Tryz.prog 37 #[.pointer (some ⟨r, 0, none⟩), .string n] w fun e w' => e = .returned (.slice none 0 0) ∧ Below w.heap.size w w' := by
  obtain ⟨v0, ns, hb, hN, hT⟩ := h.ex
  obtain ⟨a0, c0, rfl⟩ := hN.form
  obtain ⟨M, hM⟩ : ∃ M, ns.length = M := ⟨_, rfl⟩
  have HM : Hid (ns.length = M) := hM
  have HTM : Hid (σ.length = M) := by show _ = _; rw [← hT, ← hM]; simp [tabs]
  have hM1 : M ≤ 100 := by have := HTM.out; omega
  have HN : Hid (NL w (fun b => b = r) (.slice a0 ns.length c0) ns) := hN
  have HT : Hid (tabs ns = σ) := hT
  have HRb : Hid (∀ W, Below w.heap.size w W → Blk W r [.slice a0 ns.length c0] 93) := fun W k => hb.below k
  have HNe : Hid (∀ t ∈ σ, t.1 ≠ n) := hno
  rw [hM] at HN HRb
  clear h hσ hb hN hT hM hno
  go_enter Tryz.func37, Tryz.ntmps37
  go_wp2_with fail
  go_loopw [5] (fun fi wr => ∃ (i : Nat), fi = .int .i64 (i : Int) ∧ Hid (i ≤ M) ∧ Hid (Below w.heap.size w wr)) (fun fi _ => ((M : Int) - intOf fi).toNat)
  case atStart => exact ⟨0, rfl, Nat.zero_le _, Below.refl _ _⟩
  case round =>
    obtain ⟨i, rfl, hi, hB⟩ := hrel
    have y0 := (HRb.out _ hB.out).cell 0
    simp only [List.getElem?_cons_zero] at y0
    by_cases hiM : i < M
    · have hii : (i : Int) < (M : Int) := by omega
      have hi0 : (0 : Int) ≤ (i : Int) := by omega
      obtain ⟨e, he⟩ : ∃ e, ns[i]? = some e := ⟨_, List.getElem?_eq_getElem (by rw [HM.out]; exact hiM)⟩
      obtain ⟨g, o, rfl, _, _, d0, d1⟩ := (NL.below HN.out hB.out).get he
      have HRR : Hid (RRow wr (fun _ => False) e.2.1 e.2.2) := ((HN.out.rows e (List.mem_of_getElem? he)).below hB.out).mono (fun _ _ h => h.elim)
      have hne := toList_ne (HNe.out (e.1, e.2.2) (by rw [← HT.out]; exact List.mem_map.2 ⟨e, List.mem_of_getElem? he, rfl⟩))
      obtain ⟨ne, sv, le⟩ := e
      simp only at d0 d1 HRR hne
      clear he
      obtain ⟨pe, ln, ce, rfl⟩ := HRR.out.form
      go_wp2_with fail
      go_roundw
      case rel => exact ⟨i + 1, by simp, by show _ ≤ _; omega, hB.out⟩
      case measure => simp only [intOf]; omega
    · have hii : ¬ (i : Int) < (M : Int) := by omega
      go_wp2
      go_ret
      exact ⟨rfl, hB.out⟩
noncomputable def eqL (a b : List ByteArray) : Bool := @decide (a = b) (Classical.propDecidable _)
theorem eqL_t {a b : List ByteArray} (h : a = b) : eqL a b = true := by unfold eqL; exact @decide_eq_true _ (Classical.propDecidable _) h
theorem eqL_f {a b : List ByteArray} (h : ¬ a = b) : eqL a b = false := by unfold eqL; exact @decide_eq_false _ (Classical.propDecidable _) h
set_option maxHeartbeats 1000000 in
theorem sameTextsG {w : World} {B B' : Nat} {a a' : Option Addr} {c c' : Nat} {zs zs' : List ByteArray} (h : OwnS w B (.slice a zs.length c) zs) (h' : OwnS w B' (.slice a' zs'.length c') zs') (hl : zs.length ≤ 100000) :
    Calls Tryz.prog 71 #[.slice a zs.length c, .slice a' zs'.length c'] w fun e w' => e = .returned (.bool (eqL zs zs')) ∧ Below w.heap.size w w' := by
  by_cases hz : zs = zs'
  · subst hz
    rw [eqL_t rfl]
    exact sameTexts71 h h' hl
  rw [eqL_f hz]
  have HZ : Hid (¬ zs = zs') := hz
  obtain ⟨N, hN⟩ : ∃ N, zs.length = N := ⟨_, rfl⟩
  obtain ⟨N', hN'⟩ : ∃ N, zs'.length = N := ⟨_, rfl⟩
  have HN : Hid _ := hN
  have HN' : Hid _ := hN'
  have H1 : Hid (OwnS w B (.slice a zs.length c) zs) := h
  have H2 : Hid (OwnS w B' (.slice a' zs'.length c') zs') := h'
  rw [hN] at hl H1 ⊢
  rw [hN'] at H2 ⊢
  clear h h' hN hN' hz
  by_cases hnn : N = N'
  · subst hnn
    go_enter Tryz.func71, Tryz.ntmps71
    go_wp2_with fail
    go_loopw [5] (fun fi wr => ∃ (k : Nat), fi = .int .i64 (k : Int) ∧ Hid (k ≤ N) ∧ Hid (∀ j, j < k → zs[j]? = zs'[j]?) ∧ Hid (Below w.heap.size w wr)) (fun fi _ => ((N : Int) - intOf fi).toNat)
    case atStart => exact ⟨0, rfl, Nat.zero_le _, fun j hj => by omega, Below.refl _ _⟩
    case round =>
      obtain ⟨k, rfl, hk, hE, hB⟩ := hrel
      by_cases hkN : k < N
      · have hki : (k : Int) < (N : Int) := by omega
        have hk0 : (0 : Int) ≤ (k : Int) := by omega
        obtain ⟨z, hz⟩ : ∃ z, zs[k]? = some z := ⟨_, List.getElem?_eq_getElem (by rw [HN.out]; exact hkN)⟩
        obtain ⟨z', hz'⟩ : ∃ z, zs'[k]? = some z := ⟨_, List.getElem?_eq_getElem (by rw [HN'.out]; exact hkN)⟩
        obtain ⟨g, rfl, _, z1⟩ := ownS_at (H1.out.below hB.out) hz
        obtain ⟨g', rfl, _, z2⟩ := ownS_at (H2.out.below hB.out) hz'
        have y1 : ∀ n, (wr.drewN n).cell? ⟨g, k, none⟩ = some (.string z) := fun n => z1
        have y2 : ∀ n, (wr.drewN n).cell? ⟨g', k, none⟩ = some (.string z') := fun n => z2
        have HZk : Hid (zs[k]? = some z ∧ zs'[k]? = some z') := ⟨hz, hz'⟩
        clear hz hz'
        by_cases hzz : z = z'
        · subst hzz
          have heq : (z.toList == z.toList) = true := by simp
          have hne : (z.toList != z.toList) = false := by simp
          go_wp2_with fail
          go_big_quiet (fail)
          have Ky : Below wr.heap.size wr (wr.drewN nq) := ⟨rfl, rfl, rfl, Nat.le_refl _, fun _ _ => rfl⟩
          generalize wr.drewN nq = wy at *
          go_wp2_with fail
          go_roundw
          case rel => exact ⟨k + 1, by simp, by show _ ≤ _; omega, fun j hj => by
            by_cases e : j = k
            · rw [e, HZk.out.1, HZk.out.2]
            · exact hE.out j (by omega), bmore hB.out Ky⟩
          case measure => simp only [intOf]; omega
        · have heq := toList_ne hzz
          have hne : (z.toList != z'.toList) = true := by simp [bne, heq]
          go_wp2_with fail
          go_big_quiet (fail)
          have Ky : Below wr.heap.size wr (wr.drewN nq) := ⟨rfl, rfl, rfl, Nat.le_refl _, fun _ _ => rfl⟩
          generalize wr.drewN nq = wy at *
          go_wp2_with fail
          go_ret
          exact ⟨rfl, bmore hB.out Ky⟩
      · exfalso
        refine HZ.out (List.ext_getElem? fun j => ?_)
        by_cases hj : j < k
        · exact hE.out j hj
        · rw [List.getElem?_eq_none (by rw [HN.out]; omega), List.getElem?_eq_none (by rw [HN'.out]; omega)]
  · have hnn' : ¬ (N : Int) = (N' : Int) := by omega
    have hb1 : ((N : Int) != (N' : Int)) = true := by simp [bne]; omega
    go_enter Tryz.func71, Tryz.ntmps71
    go_wp2
    go_ret
    exact ⟨rfl, Below.refl _ _⟩
end Go.Proofs.YtpagnphabchfcaaGreat
