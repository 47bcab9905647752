/- same. -/
import Derived.Test.YtkoagjfbhkhfkaaDoorSe
namespace Go.Proofs.YtkoagjfbhkhfkaaDoor
open Go.RowKit Go.Lib
set_option maxRecDepth 100000
variable {w w' : World} {B c m r : Nat} {nv lv : Value} {E : List En} {L : List Tv} {Q : Nat → Prop}
def SPost (w : World) (e : Ending) (w' : World) : Prop := e = .returned (.bool true) ∧ Below w.heap.size w w'
set_option maxHeartbeats 4000000 in
theorem same9 (h : Two B w c m nv E r lv L) (name : ByteArray) (hnm : name.size ≤ maxLen) :
    Calls Tryd.prog 9 #[.pointer (some ⟨c, 0, none⟩), .pointer (some ⟨r, 0, none⟩), .string name] w (SPost w) := by
  have HT : Hid (∀ w1, Below w.heap.size w w1 → Two B w1 c m nv E r lv L) := fun w1 h1 => h.below h1
  have hlen : (nmsR L).length ≤ 3 := by rw [nmsR, List.length_map]; exact h.rc.few
  have HL : Hid _ := hlen
  have H27 : Hid (∀ w1, Below w.heap.size w w1 → Calls Tryd.prog 27 #[.pointer (some ⟨r, 0, none⟩)] w1 (fun e w' => (∃ va vn vc, e = .returned (.slice va vn vc) ∧ SX w' (.slice va vn vc) (nmsR L)) ∧ Below w1.heap.size w1 w')) := fun w1 h1 => (rnames27 (h.below h1).rc).mono fun e w' ⟨⟨v, h2, h3, _⟩, h4⟩ => by
    obtain ⟨va, vc, hv, _⟩ := id h3
    subst hv
    exact ⟨⟨va, _, vc, h2, h3⟩, h4⟩
  have HA1 : Hid (∀ w1 va vn vc, SX w1 (.slice va vn vc) (nmsR L) → Below w.heap.size w w1 → ∀ b, ∃ u w2, (Builtin.append_ #[51, 51] 51 #[.slice (some b) 0 0, .slice va vn vc]).run Tryd.prog w1 = .ok u w2 ∧ RS w1.heap.size w2 u (nmsR L) ∧ w1.grownBy w2 none) := fun w1 va vn vc hs _ b => run_appS0 hs HL.out b
  have HA2 : Hid (∀ w1 w2 u, Below w.heap.size w w1 → RS w1.heap.size w2 u (nmsR L) → w1.grownBy w2 none → ∃ va vn vc w3, (Builtin.append_ #[51, 51] 51 #[u, .slice (some ⟨w2.heap.size, 0, none⟩) 1 1]).run Tryd.prog (w2.alloc (.cells #[.string name] 9)) = .ok (.slice va vn vc) w3 ∧ vn = (nmsR L).length + 1 ∧ SX w3 (.slice va vn vc) (nmsR L ++ [name]) ∧ Below w.heap.size w w3) := fun w1 w2 u h1 hr hgr => by
    obtain ⟨va, vn, vc, w3, h2, h3, h4, h5⟩ := run_appS1 (hr.below (al w2 (.cells #[.string name] 9))) HL.out (Nat.le_trans hgr.size (al _ _).size) (blk_new w2 [.string name] 9)
    refine ⟨va, vn, vc, w3, h2, h3, h4, ?_⟩
    have h6 : Below w1.heap.size w1 w2 := ⟨hgr.os, hgr.tape, hgr.output, hgr.size, fun k hk => hgr.block k hk (by simp)⟩
    exact h1.trans (((bmore h6 (al _ _)).trans h5).mono h1.size)
  clear hlen
  go_enter Tryd.func9, Tryd.ntmps9
  go_wp2_with (first
    | (go_at_call 27; refine (H27.out _ (al _ _)).mono ?_; rintro e w1 ⟨⟨va, vn, vc, rfl, hsx⟩, hb1⟩; have F1 := bmore (al _ _) hb1; obtain ⟨u, w2, hr1, hrs, hgr⟩ := HA1.out w1 va vn vc hsx F1 ⟨w.heap.size, 0, none⟩; have HR1 : Hid _ := hr1; clear hr1; obtain ⟨xa, xn, xc, w3, hr2, hxn, hsn, F3⟩ := HA2.out w1 w2 u F1 hrs hgr; have HR2 : Hid _ := hr2; (have HX0 : Hid (xn = (nmsR L).length + 1) := hxn); clear hr2 hxn)
    | (at_builtin; (refine wpList_append_run rfl (.tmp 13) (.tmp 15) 51 rfl _ _ rfl rfl _ _ HR1.out ?_))
    | (at_builtin; (refine wpList_append_run rfl (.tmp 16) (.tmp 18) 51 rfl _ _ rfl rfl _ _ HR2.out ?_)))
  have hN3 : xn ≤ 4 := by have h1 := HL.out; have h2 := HX0.out; omega
  have HXN : Hid ((nmsR L).length + 1 = xn) := HX0.out.symm
  have HSN : Hid (SX w3 (.slice xa xn xc) (nmsR L ++ [name])) := hsn
  have HF3 : Hid _ := F3
  clear hsn F3 hrs hgr HR1 HR2 hsx hb1 F1 HX0
  go_loopw [8] (fun q wr => ∃ k : Nat, k ≤ xn ∧ q = .int .i64 (k : Int) ∧ Hid (Below w3.heap.size w3 wr)) (fun q _ => xn - (RowKit.intOf q).toNat)
  case atStart => exact ⟨0, by omega, rfl, Below.refl _ _⟩
  case round =>
    obtain ⟨k, hk, rfl, HW⟩ := hrel
    have FW : Below w.heap.size w wr := HF3.out.trans (HW.out.mono HF3.out.size)
    have HFW : Hid _ := FW
    by_cases hlt : k < xn
    · have h1 : (k : Int) < (xn : Int) := by omega
      have h0 : (0 : Int) ≤ (k : Int) := by omega
      obtain ⟨a1, a2, he1, hat⟩ := SX.below HSN.out HW.out
      simp only [Value.slice.injEq] at he1
      obtain ⟨rfl, he2, rfl⟩ := he1
      clear he2
      have hln : (nmsR L ++ [name]).length = xn := by rw [List.length_append, ← HXN.out]; rfl
      obtain ⟨gn, on, rfl, hgn, hcn⟩ := hat (by omega)
      obtain ⟨s, hs⟩ : ∃ s, (nmsR L ++ [name])[k]? = some s := ⟨_, List.getElem?_eq_getElem (by omega)⟩
      have cs := hcn k s hs
      have hss : s.size ≤ maxLen := by
        rcases List.mem_append.1 (List.mem_of_getElem? hs) with h2 | h2
        · obtain ⟨x, hx, rfl⟩ := List.mem_map.1 h2
          have := rtB_name (h.rc.ok x hx)
          rw [str_size]; unfold maxLen; omega
        · simp at h2
          rw [h2]; exact hnm
      have HGT : Hid (∀ w1, Below wr.heap.size wr w1 → _) := fun w1 hb => get_t (HT.out w1 (HFW.out.trans (hb.mono HFW.out.size))).cat s hss
      have HRG : Hid (∀ w1, Below wr.heap.size wr w1 → _) := fun w1 hb => rget_t (HT.out w1 (HFW.out.trans (hb.mono HFW.out.size))) s
      have HKD : Hid (∀ w1, Below wr.heap.size wr w1 → _) := fun w1 hb => kids_t (HT.out w1 (HFW.out.trans (hb.mono HFW.out.size))) s
      have HRK : Hid (∀ w1, Below wr.heap.size wr w1 → _) := fun w1 hb => rkids_t (HT.out w1 (HFW.out.trans (hb.mono HFW.out.size))).rc s
      have hcl := tabOf_cols h.cat (bs s)
      have HCN : Hid (∀ w1, Below wr.heap.size wr w1 → w1.cell? ⟨gn, on + k, none⟩ = some (.string s)) := fun w1 hb => (hb.cell (p := ⟨gn, on + k, none⟩) hgn).trans cs
      have HTB : Hid (∀ w1 va vn vc va' vn' vc', SC w1 (.slice va vn vc) (tabOf E (bs s)).cols → SC w1 (.slice va' vn' vc') (tabOf E (bs s)).cols → Calls Tryd.prog 29 #[TB (str (tabOf E (bs s)).n) (.slice va vn vc) (str (tabOf E (bs s)).p) (tabOf E (bs s)).r, TB (str (tabOf E (bs s)).n) (.slice va' vn' vc') (str (tabOf E (bs s)).p) (tabOf E (bs s)).r] w1 fun e w' => e = .returned (.bool true) ∧ Below w1.heap.size w1 w') := fun w1 va vn vc va' vn' vc' h2 h3 => table29 _ _ _ _ _ _ w1 h2 h3 hcl
      have HTX : Hid (∀ w1 va vn vc va' vn' vc', SX w1 (.slice va vn vc) (chR L (bs s)) → SX w1 (.slice va' vn' vc') (chR L (bs s)) → Calls Tryd.prog 30 #[.slice va vn vc, .slice va' vn' vc'] w1 fun e w' => e = .returned (.bool true) ∧ Below w1.heap.size w1 w') := fun w1 va vn vc va' vn' vc' h2 h3 => texts30 _ _ _ w1 h2 h3 (by have := chR_len L (bs s); have := h.rc.few; omega)
      clear hcn hs hat hcl hln
      generalize chR L (bs s) = ch at *
      generalize (fnd E (bs s)).isSome = bb at *
      generalize str (tabOf E (bs s)).n = tn at *
      generalize str (tabOf E (bs s)).p = tp at *
      generalize (tabOf E (bs s)).r = tr at *
      generalize (tabOf E (bs s)).cols = tc at *
      go_wp2_with (first
        | (go_at_call 22; (with_reducible refine (HGT.out _ (Below.refl _ _)).mono ?_); rintro e w4 ⟨⟨pa, pn, pc, rfl, hs4⟩, hb4⟩; have cs4 := HCN.out _ hb4; have hg4 : gn < w4.heap.size := Nat.lt_of_lt_of_le hgn hb4.size)
        | (go_at_call 28; (with_reducible refine (HRG.out _ (bmore hb4 (al _ _))).mono ?_); rintro e w5 ⟨⟨qa, qn, qc, rfl, hs5⟩, hb5⟩; have F5 := bmore (bmore hb4 (al _ _)) hb5))
      have hb6 := bmore hb5 (al w5 (.cells #[.string tn, .slice qa qn qc, .string tp, .int .i64 tr] 32))
      have k9 := ((blk_new w4 [.string tn, .slice pa pn pc, .string tp, .int .i64 tr] 32)).below hb6
      have k11 := blk_new w5 [.string tn, .slice qa qn qc, .string tp, .int .i64 tr] 32
      have F6 := bal F5 (.cells #[.string tn, .slice qa qn qc, .string tp, .int .i64 tr] 32)
      have s9 := (hs4.below (bmore (al w4 (.cells #[.string tn, .slice pa pn pc, .string tp, .int .i64 tr] 32)) hb6))
      have s11 := hs5.below (al w5 (.cells #[.string tn, .slice qa qn qc, .string tp, .int .i64 tr] 32))
      have HS : Hid (∀ W, Below (w5.alloc (.cells #[.string tn, .slice qa qn qc, .string tp, .int .i64 tr] 32)).heap.size (w5.alloc (.cells #[.string tn, .slice qa qn qc, .string tp, .int .i64 tr] 32)) W → (W.cell? ⟨w4.heap.size, 0, none⟩ = some (.string tn) ∧ W.cell? ⟨w4.heap.size, 1, none⟩ = some (.slice pa pn pc) ∧ W.cell? ⟨w4.heap.size, 2, none⟩ = some (.string tp) ∧ W.cell? ⟨w4.heap.size, 3, none⟩ = some (.int .i64 tr)) ∧ (W.cell? ⟨w5.heap.size, 0, none⟩ = some (.string tn) ∧ W.cell? ⟨w5.heap.size, 1, none⟩ = some (.slice qa qn qc) ∧ W.cell? ⟨w5.heap.size, 2, none⟩ = some (.string tp) ∧ W.cell? ⟨w5.heap.size, 3, none⟩ = some (.int .i64 tr)) ∧ W.cell? ⟨gn, on + k, none⟩ = some (.string s)) := fun W hW => ⟨⟨(k9.below hW).here rfl, (k9.below hW).here rfl, (k9.below hW).here rfl, (k9.below hW).here rfl⟩, ⟨(k11.below hW).here rfl, (k11.below hW).here rfl, (k11.below hW).here rfl, (k11.below hW).here rfl⟩, HCN.out W (bmore F6 hW)⟩
      have HW6 : Hid (Below wr.heap.size wr (w5.alloc (.cells #[.string tn, .slice qa qn qc, .string tp, .int .i64 tr] 32)) ∧ SC (w5.alloc (.cells #[.string tn, .slice qa qn qc, .string tp, .int .i64 tr] 32)) (.slice pa pn pc) tc ∧ SC (w5.alloc (.cells #[.string tn, .slice qa qn qc, .string tp, .int .i64 tr] 32)) (.slice qa qn qc) tc) := ⟨F6, s9, s11⟩
      clear hb6 k9 k11 F6 s9 s11 hs4 hs5 F5 hb5 hb4 cs4 hg4
      generalize w5.alloc (.cells #[.string tn, .slice qa qn qc, .string tp, .int .i64 tr] 32) = W6 at *
      generalize w5.heap.size = b11 at *
      generalize w4.heap.size = b9 at *
      have F0 : Below W6.heap.size W6 W6.drew := (Below.refl _ _).drew
      have hS0 := HS.out _ F0
      go_region_held3 (fun W => (W.cell? ⟨b9, 0, none⟩ = some (.string tn) ∧ W.cell? ⟨b9, 1, none⟩ = some (.slice pa pn pc) ∧ W.cell? ⟨b9, 2, none⟩ = some (.string tp) ∧ W.cell? ⟨b9, 3, none⟩ = some (.int .i64 tr)) ∧ (W.cell? ⟨b11, 0, none⟩ = some (.string tn) ∧ W.cell? ⟨b11, 1, none⟩ = some (.slice qa qn qc) ∧ W.cell? ⟨b11, 2, none⟩ = some (.string tp) ∧ W.cell? ⟨b11, 3, none⟩ = some (.int .i64 tr)) ∧ W.cell? ⟨gn, on + k, none⟩ = some (.string s)) (first | exact hS0 | exact HS.out _ F1 | exact HS.out _ F2 | exact HS.out _ F3 | exact HS.out _ F4) (first
        | (go_at_call 29; (with_reducible refine (HTB.out _ _ _ _ _ _ _ (HW6.out.2.1.below F0) (HW6.out.2.2.below F0)).mono ?_); rintro e w7 ⟨rfl, hb7⟩; have F1 := bmore F0 hb7)
        | (go_at_call 24; (with_reducible refine (HKD.out _ (bmore HW6.out.1 F1)).mono ?_); rintro e w8 ⟨⟨ka, kn, kc, rfl, hx8⟩, hb8⟩; have F2 := bmore F1 hb8)
        | (go_at_call 31; (with_reducible refine (HRK.out _ (bmore HW6.out.1 F2)).mono ?_); rintro e w9 ⟨⟨la, ln, lc, rfl, hx9⟩, hb9⟩; have F3 := bmore F2 hb9)
        | (go_at_call 30; (with_reducible refine (HTX.out _ _ _ _ _ _ _ (hx8.below hb9) hx9).mono ?_); rintro e w10 ⟨rfl, hb10⟩; have F4 := bmore F3 hb10))
      go_wp2
      go_roundw
      case rel => exact ⟨k + 1, by omega, by simp, HW.out.trans ((bmore HW6.out.1 F4).mono HW.out.size)⟩
      case measure => simp [RowKit.intOf]; omega
    · have h1 : ¬ (k : Int) < (xn : Int) := by omega
      have H23 : Hid (∀ w1, Below wr.heap.size wr w1 → _) := fun w1 hb => names_t (HT.out w1 (HFW.out.trans (hb.mono HFW.out.size)))
      have H27' : Hid (∀ w1, Below wr.heap.size wr w1 → _) := fun w1 hb => H27.out w1 (HFW.out.trans (hb.mono HFW.out.size))
      have HTX : Hid (∀ w1 va vn vc va' vn' vc', SX w1 (.slice va vn vc) (nmsR L) → SX w1 (.slice va' vn' vc') (nmsR L) → Calls Tryd.prog 30 #[.slice va vn vc, .slice va' vn' vc'] w1 fun e w' => e = .returned (.bool true) ∧ Below w1.heap.size w1 w') := fun w1 va vn vc va' vn' vc' h2 h3 => texts30 _ _ _ w1 h2 h3 (by have := HL.out; omega)
      have H18 : Hid (∀ w1, Below wr.heap.size wr w1 → Calls Tryd.prog 18 #[.pointer (some ⟨c, 0, none⟩)] w1 fun e w' => (∃ va vn vc T, e = .returned (.slice va vn vc) ∧ TL (fun _ => True) w' (.slice va vn vc) T ∧ T.map (·.1) = L.map (·.1)) ∧ Below w1.heap.size w1 w') := fun w1 hb => by
        have ht := HT.out w1 (HFW.out.trans (hb.mono HFW.out.size))
        refine (tables18 ht.cat ht.nd).mono fun e w' ⟨va, vc, T, h2, h3, h4⟩ => ⟨⟨va, _, vc, T.map toV, h2, ?_, ?_⟩, h3.bel⟩
        · have h5 := h3.own
          rw [show T.length = (T.map toV).length by simp] at h5 ⊢
          refine TL.own h5 (fun _ _ => trivial) (fun y hy => ?_)
          obtain ⟨x, hx, rfl⟩ := List.mem_map.1 hy
          obtain ⟨a1, a2, h6, h7⟩ := SC.blk (c := x.1.cols.length) (h3.cols x hx).1
          cases h6
          refine ⟨_, _, rfl, Nat.le_refl _, fun h0 => ?_⟩
          obtain ⟨g, o, h8, h9, h10⟩ := h7 h0
          exact ⟨g, o, h8, h9, trivial, h10⟩
        · rw [List.map_map, ht.eq, ← h4]; rfl
      have H33 : Hid (∀ w1, Below wr.heap.size wr w1 → Calls Tryd.prog 33 #[.pointer (some ⟨r, 0, none⟩)] w1 fun e w' => (∃ va vn vc T, e = .returned (.slice va vn vc) ∧ TL (fun _ => True) w' (.slice va vn vc) T ∧ T.map (·.1) = L.map (·.1)) ∧ Below w1.heap.size w1 w') := fun w1 hb => by
        have ht := HT.out w1 (HFW.out.trans (hb.mono HFW.out.size))
        refine (rtables33 ht.rc).mono fun e w' ⟨v, T, h2, h3, h4, h5⟩ => ⟨?_, h5⟩
        obtain ⟨⟨va, vc, hv, _⟩, _⟩ := id h3
        subst hv
        exact ⟨va, _, vc, T, h2, h3, h4⟩
      have H32 : Hid (∀ w1 va vn vc va' vn' vc' T T', TL (fun _ => True) w1 (.slice va vn vc) T → TL (fun _ => True) w1 (.slice va' vn' vc') T' → T.map (·.1) = L.map (·.1) → T'.map (·.1) = L.map (·.1) → Calls Tryd.prog 32 #[.slice va vn vc, .slice va' vn' vc'] w1 fun e w' => e = .returned (.bool true) ∧ Below w1.heap.size w1 w') := fun w1 va vn vc va' vn' vc' T T' h2 h3 h4 h5 => tables32 _ _ T T' w1 h2 h3 (h4.trans h5.symm) (fun x hx => by
          have : x.1 ∈ L.map (·.1) := by rw [← h4]; exact List.mem_map.2 ⟨x, hx, rfl⟩
          obtain ⟨y, hy, hxy⟩ := List.mem_map.1 this
          rw [← hxy]
          have := rtB_cols (h.rc.ok y hy)
          omega) (by have := congrArg List.length h4; simp at this; have := h.rc.few; omega)
      go_wp2_with (first
        | (go_at_call 23; (with_reducible refine (H23.out _ (Below.refl _ _)).mono ?_); rintro e w4 ⟨⟨pa, pn, pc, rfl, hx4⟩, hb4⟩)
        | (go_at_call 27; (with_reducible refine (H27'.out _ hb4).mono ?_); rintro e w5 ⟨⟨qa, qn, qc, rfl, hx5⟩, hb5⟩)
        | (go_at_call 30; (with_reducible refine (HTX.out _ _ _ _ _ _ _ (hx4.below hb5) hx5).mono ?_); rintro e w6 ⟨rfl, hb6⟩; have F6 := bmore (bmore hb4 hb5) hb6)
        | (go_at_call 18; (with_reducible refine (H18.out _ F6).mono ?_); rintro e w7 ⟨⟨ta, tn, tc, T7, rfl, ht7, hm7⟩, hb7⟩)
        | (go_at_call 33; (with_reducible refine (H33.out _ (bmore F6 hb7)).mono ?_); rintro e w8 ⟨⟨ua, un, uc, T8, rfl, ht8, hm8⟩, hb8⟩)
        | (go_at_call 32; (with_reducible refine (H32.out _ _ _ _ _ _ _ _ _ (ht7.below hb8) ht8 hm7 hm8).mono ?_); rintro e w9 ⟨rfl, hb9⟩))
      go_ret
      exact show SPost _ _ _ from ⟨rfl, HFW.out.trans ((bmore (bmore (bmore F6 hb7) hb8) hb9).mono HFW.out.size)⟩
end Go.Proofs.YtkoagjfbhkhfkaaDoor
