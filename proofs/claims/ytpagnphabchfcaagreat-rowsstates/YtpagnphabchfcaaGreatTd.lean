/- The document's Get, Names, Fork; whether texts are the same. -/
import Derived.Test.YtpagnphabchfcaaGreatTc
namespace Go.Proofs.YtpagnphabchfcaaGreat
open Go.RowKit Go.Shelf
set_option maxRecDepth 100000
theorem toList_ne {a b : ByteArray} (h : a ≠ b) : (a.toList == b.toList) = false := by
  rw [Bool.eq_false_iff]
  intro q
  apply h
  simp only [beq_iff_eq] at q
  rw [Lib.toList_data, Lib.toList_data] at q
  exact bs_inj q
set_option maxHeartbeats 1000000 in
theorem rget37 {w : World} {r idx : Nat} {σ : List Tab} {t : Tab} (h : RSt w r σ) (hσ : σ.length ≤ 100) (hs : SortedS σ) (ht : σ[idx]? = some t) :
    Calls Tryz.prog 37 #[.pointer (some ⟨r, 0, none⟩), .string t.1] w (RPost w (sortR t.2)) := by
  obtain ⟨v0, ns, hb, hN, hT⟩ := h.ex
  obtain ⟨a0, c0, rfl⟩ := hN.form
  obtain ⟨M, hM⟩ : ∃ M, ns.length = M := ⟨_, rfl⟩
  have HM : Hid (ns.length = M) := hM
  have HTM : Hid (σ.length = M) := by show _ = _; rw [← hT, ← hM]; simp [tabs]
  have hM1 : M ≤ 100 := by have := HTM.out; omega
  have hidx : idx < M := by have := (List.getElem?_eq_some_iff.1 ht).1; rw [← HTM.out]; exact this
  have HN : Hid (NL w (fun b => b = r) (.slice a0 ns.length c0) ns) := hN
  have HT : Hid (tabs ns = σ) := hT
  have HRb : Hid (∀ W, Below w.heap.size w W → Blk W r [.slice a0 ns.length c0] 93) := fun W k => hb.below k
  have HNe : Hid (∀ j u, j < idx → σ[j]? = some u → u.1 ≠ t.1) := (getS_at hs ht).2
  have HIt : Hid (σ[idx]? = some t) := ht
  rw [hM] at HN HRb
  clear h hσ hs hb hN hT hM ht
  go_enter Tryz.func37, Tryz.ntmps37
  go_wp2_with fail
  go_loopw [5] (fun fi wr => ∃ (i : Nat), fi = .int .i64 (i : Int) ∧ Hid (i ≤ idx) ∧ Hid (Below w.heap.size w wr)) (fun fi _ => ((M : Int) - intOf fi).toNat)
  case atStart => exact ⟨0, rfl, Nat.zero_le _, Below.refl _ _⟩
  case round =>
    obtain ⟨i, rfl, hi, hB⟩ := hrel
    have hiM : i < M := by have := hi.out; omega
    have hii : (i : Int) < (M : Int) := by omega
    have hi0 : (0 : Int) ≤ (i : Int) := by omega
    obtain ⟨e, he⟩ : ∃ e, ns[i]? = some e := ⟨_, List.getElem?_eq_getElem (by rw [HM.out]; exact hiM)⟩
    obtain ⟨g, o, rfl, _, _, d0, d1⟩ := (NL.below HN.out hB.out).get he
    have y0 := (HRb.out _ hB.out).cell 0
    simp only [List.getElem?_cons_zero] at y0
    have HTi : Hid (σ[i]? = some (e.1, e.2.2)) := by show _ = _; rw [← HT.out]; simp [tabs, he]
    have HRR : Hid (RRow wr (fun _ => False) e.2.1 e.2.2) := ((HN.out.rows e (List.mem_of_getElem? he)).below hB.out).mono (fun _ _ h => h.elim)
    obtain ⟨ne, sv, le⟩ := e
    simp only at d0 d1 HTi HRR
    clear he
    by_cases hx : i < idx
    · have hne := toList_ne (HNe.out i _ hx HTi.out)
      simp only at hne
      obtain ⟨pe, ln, ce, rfl⟩ := HRR.out.form
      go_wp2_with fail
      go_roundw
      case rel => exact ⟨i + 1, by simp, by show _ ≤ _; omega, hB.out⟩
      case measure => simp only [intOf]; omega
    · have hie : i = idx := by have := hi.out; omega
      have HTt : Hid (ne = t.1 ∧ le = t.2) := by
        have h1 := HTi.out
        rw [hie, HIt.out] at h1
        cases h1
        exact ⟨rfl, rfl⟩
      obtain ⟨hn1, hn2⟩ := HTt.out
      subst hn1
      obtain ⟨es, hR, hE, hl, hv⟩ := HRR.out
      obtain ⟨pe, ce, rfl⟩ := hR.form
      have k11 := (rsorted11 hR hl hv).mono (fun _ _ q => LPost.r q)
      rw [hE, hn2] at k11
      have heq : (t.1.toList == t.1.toList) = true := by simp
      clear HRR hR hE hl hv hie HTt hn2
      go_wp2_with (go_at_call 11; (with_reducible refine k11.mono ?_); rintro e w9 ⟨p9, c9, x9, rfl, r9, e9, B9⟩)
      go_ret
      exact ⟨p9, c9, x9, rfl, r9, e9, bmore hB.out B9⟩
def OwnS (w : World) (B : Nat) (v : Value) (ss : List ByteArray) : Prop := w.ownsRow B 9 1 v ss.length (ss.map Value.string)
theorem OwnS.nil (w : World) (B : Nat) : OwnS w B (.slice none 0 0) [] := World.ownsRow_nil _ _ _ _
theorem OwnS.below {w w' : World} {B : Nat} {v : Value} {ss : List ByteArray} (h : OwnS w B v ss) (k : Below w.heap.size w w') : OwnS w' B v ss := owns_keep h (fun j hj => k.block j (World.ownsRow.lt h j hj).2)
theorem info9 : (Tryz.prog.info? 9).map (fun i => (i.zero, i.size, i.bytes)) = some (some (.string ByteArray.empty), 1, 16) := by kernel_rfl
theorem ownS_app {w w6 : World} {fo : Value} {ss : List ByteArray} {x : ByteArray} (h : OwnS w6 w.heap.size fo ss) (hb : Below w.heap.size w w6) (hn : ss.length ≤ 1000) (g : Nat) (hg : w6.heap.size = g) :
    ∃ v7 w7, (Builtin.append_ #[61, 61] 61 #[fo, .slice (some ⟨g, 0, none⟩) 1 1]).run Tryz.prog (w6.alloc (.cells #[.string x] 9)) = .ok v7 w7 ∧ Hid (OwnS w7 w.heap.size v7 (ss ++ [x])) ∧ Hid (w6.grownBy w7 fo.ownBlock) ∧ Hid (Below w.heap.size w w7) := by
  subst hg
  obtain ⟨i0, hi, hz0, hz1, hz2⟩ := info_parts' info9
  have hal := al w6 (.cells #[.string x] 9)
  have nb := blk_new w6 [.string x] 9
  change Blk (w6.alloc (.cells #[.string x] 9)) _ _ _ at nb
  have h1 := h.below hal
  obtain ⟨v7, w7, hr, r1, r2, r3, r4⟩ := run_append_own_at (P := Tryz.prog) _ w.heap.size 61 61 9 i0 (.string ByteArray.empty) 1 16 Tryz.underlying61 hi hz0 hz1 hz2 rfl (by decide) fo ss.length (ss.map Value.string) h1 ⟨w6.heap.size, 0, none⟩ 1 1 [.string x] rfl (fun j y hx => by rw [Addr.add_mid, Nat.zero_add]; exact (nb.cell j).trans hx) (by intro u hu; simp at hu; subst hu; rfl) (by unfold maxLen; omega) (by omega) (bmore hb hal).size
  refine ⟨v7, w7, hr, ?_, ⟨r2.os.trans hal.os, r2.tape.trans hal.tape, r2.output.trans hal.output, Nat.le_trans hal.size r2.size, fun k hk hne => (r2.block k (Nat.lt_of_lt_of_le hk hal.size) hne).trans (hal.block k hk)⟩, ?_⟩
  · show OwnS _ _ _ _
    unfold OwnS
    rw [List.length_append, List.map_append]
    exact r1
  · exact (bmore hb hal).trans ⟨r2.os, r2.tape, r2.output, r2.size, fun k hk => r2.block k (by have := (bmore hb hal).size; omega) (fun e => by have := (World.ownsRow.lt h1 k e.symm).1; omega)⟩
theorem ownS_form {w : World} {B : Nat} {v : Value} {ss : List ByteArray} (h : OwnS w B v ss) : ∃ a c, v = .slice a ss.length c := by
  obtain ⟨_, ⟨h, h0⟩ | ⟨g, cap, cur, h, _⟩⟩ := h
  · exact ⟨none, 0, by rw [h, h0]⟩
  · exact ⟨_, cap, h⟩
theorem ownS_at {w : World} {B : Nat} {a : Option Addr} {n c : Nat} {ss : List ByteArray} (h : OwnS w B (.slice a n c) ss) {k : Nat} {z : ByteArray} (hk : ss[k]? = some z) : ∃ g, a = some ⟨g, 0, none⟩ ∧ g < w.heap.size ∧ w.cell? ⟨g, k, none⟩ = some (.string z) := by
  have hc := fun g hg => World.ownsRow.cells h (g := g) hg
  have hlt := World.ownsRow.lt h
  obtain ⟨_, ⟨h, h0⟩ | ⟨g, cap, cur, h, _⟩⟩ := h
  · have := (List.getElem?_eq_some_iff.1 hk).1
    omega
  · cases h
    refine ⟨g, rfl, (hlt g rfl).2, ?_⟩
    have := hc g rfl k (.string z) (by rw [List.getElem?_map, hk]; rfl)
    rwa [Addr.add_mid, Nat.zero_add] at this
/-- Texts that a call answers. -/
def TPost (w : World) (ss : List ByteArray) (e : Ending) (w' : World) : Prop := ∃ p c, e = .returned (.slice p ss.length c) ∧ Hid (OwnS w' w.heap.size (.slice p ss.length c) ss) ∧ Below w.heap.size w w'
def nms (σ : List Tab) : List ByteArray := σ.map (·.1)
set_option maxHeartbeats 1000000 in
theorem rnames70 {w : World} {r : Nat} {σ : List Tab} (h : RSt w r σ) (hσ : σ.length ≤ 100) :
    Calls Tryz.prog 70 #[.pointer (some ⟨r, 0, none⟩)] w (TPost w (nms σ)) := by
  obtain ⟨v0, ns, hb, hN, hT⟩ := h.ex
  obtain ⟨a0, c0, rfl⟩ := hN.form
  obtain ⟨M, hM⟩ : ∃ M, ns.length = M := ⟨_, rfl⟩
  have HM : Hid (ns.length = M) := hM
  have HTM : Hid (σ.length = M) := by show _ = _; rw [← hT, ← hM]; simp [tabs]
  have hM1 : M ≤ 100 := by have := HTM.out; omega
  have HN : Hid (NL w (fun b => b = r) (.slice a0 ns.length c0) ns) := hN
  have HT : Hid (tabs ns = σ) := hT
  have HRb : Hid (∀ W, Below w.heap.size w W → Blk W r [.slice a0 ns.length c0] 93) := fun W k => hb.below k
  rw [hM] at HN HRb
  clear h hσ hb hN hT hM
  go_enter Tryz.func70, Tryz.ntmps70
  go_wp2_with fail
  go_loopw [3, 4] (fun fo fi wr => ∃ (i : Nat), fi = .int .i64 (i : Int) ∧ Hid (i ≤ M) ∧ Hid (OwnS wr w.heap.size fo (nms (σ.take i))) ∧ Hid (Below w.heap.size w wr)) (fun _ fi _ => ((M : Int) - intOf fi).toNat)
  case atStart => exact ⟨0, rfl, Nat.zero_le _, OwnS.nil _ _, Below.refl _ _⟩
  case round =>
    obtain ⟨i, rfl, hi, hO, hB⟩ := hrel
    have y0 := (HRb.out _ hB.out).cell 0
    simp only [List.getElem?_cons_zero] at y0
    by_cases hiM : i < M
    · have hii : (i : Int) < (M : Int) := by omega
      have hi0 : (0 : Int) ≤ (i : Int) := by omega
      obtain ⟨e, he⟩ : ∃ e, ns[i]? = some e := ⟨_, List.getElem?_eq_getElem (by rw [HM.out]; exact hiM)⟩
      obtain ⟨g, o, rfl, _, _, d0, d1⟩ := (NL.below HN.out hB.out).get he
      have HTk : Hid (nms (σ.take (i + 1)) = nms (σ.take i) ++ [e.1]) := by
        show _ = _
        rw [← HT.out, List.take_add_one, show (tabs ns)[i]? = some (e.1, e.2.2) by simp [tabs, he]]
        simp [nms]
      have HLn : Hid ((nms (σ.take i)).length ≤ 1000) := by show _ ≤ _; unfold nms; rw [List.length_map, List.length_take]; omega
      have HApp := ownS_app (x := e.1) hO.out hB.out HLn.out wr.heap.size rfl
      obtain ⟨ne, sv, le⟩ := e
      simp only at d0 d1 HTk HApp
      clear he
      go_wp2_with (at_builtin; refine wpList_append_ex (by rfl) (.tmp 18) (.tmp 27) 61 (by rfl) _ _ (by rfl) (by rfl) HApp ?_; rintro v7 w7 ⟨hO7, _, hB7⟩)
      go_roundw
      case rel => exact ⟨i + 1, by simp, by show _ ≤ _; omega, by show OwnS _ _ _ _; rw [HTk.out]; exact hO7.out, hB7.out⟩
      case measure => simp only [intOf]; omega
    · have hki : ¬ (i : Int) < (M : Int) := by omega
      have HE : Hid (nms (σ.take i) = nms σ) := by show _ = _; rw [List.take_of_length_le (by rw [HTM.out]; omega)]
      have HO' : Hid (OwnS wr w.heap.size u3 (nms σ)) := by have := hO.out; rwa [HE.out] at this
      obtain ⟨p3, c3, hf⟩ := ownS_form HO'.out
      subst hf
      go_wp2
      go_ret
      exact ⟨p3, c3, rfl, HO'.out, hB.out⟩
set_option maxHeartbeats 1000000 in
theorem sameTexts71 {w : World} {B B' : Nat} {a a' : Option Addr} {c c' : Nat} {zs : List ByteArray} (h : OwnS w B (.slice a zs.length c) zs) (h' : OwnS w B' (.slice a' zs.length c') zs) (hl : zs.length ≤ 100000) :
    Calls Tryz.prog 71 #[.slice a zs.length c, .slice a' zs.length c'] w fun e w' => e = .returned (.bool true) ∧ Below w.heap.size w w' := by
  obtain ⟨N, hN⟩ : ∃ N, zs.length = N := ⟨_, rfl⟩
  have HN : Hid _ := hN
  have H1 : Hid (OwnS w B (.slice a zs.length c) zs) := h
  have H2 : Hid (OwnS w B' (.slice a' zs.length c') zs) := h'
  rw [hN] at hl H1 H2 ⊢
  clear h h' hN
  go_enter Tryz.func71, Tryz.ntmps71
  go_wp2_with fail
  go_loopw [5] (fun fi wr => ∃ (k : Nat), fi = .int .i64 (k : Int) ∧ Hid (k ≤ N) ∧ Hid (Below w.heap.size w wr)) (fun fi _ => ((N : Int) - intOf fi).toNat)
  case atStart => exact ⟨0, rfl, Nat.zero_le _, Below.refl _ _⟩
  case round =>
    obtain ⟨k, rfl, hk, hB⟩ := hrel
    by_cases hkN : k < N
    · have hki : (k : Int) < (N : Int) := by omega
      have hk0 : (0 : Int) ≤ (k : Int) := by omega
      obtain ⟨z, hz⟩ : ∃ z, zs[k]? = some z := ⟨_, List.getElem?_eq_getElem (by rw [HN.out]; exact hkN)⟩
      obtain ⟨g, rfl, _, z1⟩ := ownS_at (H1.out.below hB.out) hz
      obtain ⟨g', rfl, _, z2⟩ := ownS_at (H2.out.below hB.out) hz
      have y1 : ∀ n, (wr.drewN n).cell? ⟨g, k, none⟩ = some (.string z) := fun n => z1
      have y2 : ∀ n, (wr.drewN n).cell? ⟨g', k, none⟩ = some (.string z) := fun n => z2
      have heq : (z.toList == z.toList) = true := by simp
      have hne : (z.toList != z.toList) = false := by simp
      clear hz
      go_wp2_with fail
      go_big_quiet (fail)
      have Ky : Below wr.heap.size wr (wr.drewN nq) := ⟨rfl, rfl, rfl, Nat.le_refl _, fun _ _ => rfl⟩
      generalize wr.drewN nq = wy at *
      go_wp2_with fail
      go_roundw
      case rel => exact ⟨k + 1, by simp, by show _ ≤ _; omega, bmore hB.out Ky⟩
      case measure => simp only [intOf]; omega
    · have hki : ¬ (k : Int) < (N : Int) := by omega
      go_wp2
      go_ret
      exact ⟨rfl, hB.out⟩
end Go.Proofs.YtpagnphabchfcaaGreat
