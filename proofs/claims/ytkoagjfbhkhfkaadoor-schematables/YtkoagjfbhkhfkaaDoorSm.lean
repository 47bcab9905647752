/- The law SchemaTables. -/
import Derived.Test.YtkoagjfbhkhfkaaDoorSl
import Derived.Test.YtkoagjfbhkhfkaaDoorFo
namespace Go.Proofs.YtkoagjfbhkhfkaaDoor
open Go.RowKit Go.Lib
set_option maxRecDepth 100000
variable {w w' : World} {B1 B2 c1 m1 r1 c2 m2 r2 f mf : Nat} {nv1 lv1 nv2 lv2 nvf : Value} {E1 E2 T : List En} {L1 L2 : List Tv}
theorem same_fork (h : Two B1 w c1 m1 nv1 E1 r1 lv1 L1) (hc : Cat w f mf nvf T) (he : T.map (·.1) = E1.map (·.1)) : Calls Tryd.prog 15 #[.pointer (some ⟨c1, 0, none⟩), .pointer (some ⟨f, 0, none⟩)] w fun e w' => e = .returned (.bool true) ∧ Below w.heap.size w w' := by
  have hnd : (T.map (·.1.n)).Nodup := by
    have h1 := h.nd
    rw [show (E1.map (·.1.n)) = (E1.map (·.1)).map (·.n) by simp] at h1
    rw [show (T.map (·.1.n)) = (T.map (·.1)).map (·.n) by simp, he]
    exact h1
  exact (same15 h.cat hc h.nd hnd).mono fun e w' ⟨b, h1, h2, h3⟩ => ⟨by rw [h1, h2.2 he.symm], h3⟩
theorem same_two (h1 : Two B1 w c1 m1 nv1 E1 r1 lv1 L1) (h2 : Two B2 w c2 m2 nv2 E2 r2 lv2 L2) : Calls Tryd.prog 15 #[.pointer (some ⟨c1, 0, none⟩), .pointer (some ⟨c2, 0, none⟩)] w fun e w' => ∃ b : Bool, e = .returned (.bool b) ∧ Hid (b = true ↔ E1.map (·.1) = E2.map (·.1)) ∧ Below w.heap.size w w' :=
  same15 h1.cat h2.cat h1.nd h2.nd
theorem rsame_two (h1 : Two B1 w c1 m1 nv1 E1 r1 lv1 L1) (h2 : Two B2 w c2 m2 nv2 E2 r2 lv2 L2) (b : Bool) (hb : Hid (b = true ↔ E1.map (·.1) = E2.map (·.1))) : Calls Tryd.prog 16 #[.pointer (some ⟨r1, 0, none⟩), .pointer (some ⟨r2, 0, none⟩)] w fun e w' => e = .returned (.bool b) ∧ Below w.heap.size w w' := by
  refine (rsame16 h1.rc h2.rc).mono fun e w' ⟨b', h3, h4, h5⟩ => ⟨?_, h5⟩
  have : b' = b := by
    rw [Bool.eq_iff_iff, h4, hb.out, h1.eq, h2.eq]
    exact List.reverse_inj
  rw [h3, this]
theorem SC.keepTab {A : Nat} {v : Value} {l : List Cl} {n p : ByteArray} {x y : Nat} {z : Option Addr} {q : Int} (h : SC w v l) (hA : Blk w A [.string n, .slice z x y, .string p, .int .i64 q] 32) (hk : Keep (fun k => k = A) w w') : SC w' v l := by
  obtain ⟨a, c, h1, h2⟩ := h
  refine ⟨a, c, h1, fun h0 => ?_⟩
  obtain ⟨g, o, h3, h4, h5⟩ := h2 h0
  have hne : g ≠ A := fun e => by
    subst e
    obtain ⟨u, hu⟩ : ∃ u, l[0]? = some u := ⟨_, List.getElem?_eq_getElem h0⟩
    have h6 := (h5 0 u hu).2
    rw [hA.cell] at h6
    rcases o with _ | _ | _ | o <;> simp at h6
  refine ⟨g, o, h3, Nat.lt_of_lt_of_le h4 hk.size, fun i u hu => ?_⟩
  have h7 := h5 i u hu
  exact ⟨(hk.cell h4 hne).trans h7.1, (hk.cell h4 hne).trans h7.2⟩
set_option maxHeartbeats 16000000 in
theorem tables4 (n p nm : ByteArray) (q : Int) (v : Value) (l : List Cl) (v1 v2 : Value) (T1 T2 : List Tv) (w : World) (hg : Good w) (hv : SCP (fun _ => True) w v l) (hm : ∀ a k c, v = .slice a k c → c ≤ maxLen) (h1 : IT w v1 T1) (h2 : IT w v2 T2) :
    Calls Tryd.prog 4 #[TB n v p q, .string nm, .agg #[v1, v2]] w fun e w' => e = .returned (.bool true) ∧ Below w.heap.size w w' := by
  have HI1 : Hid (∀ W, Below w.heap.size w W → IT W v1 T1) := fun W hW => ⟨h1.1.below hW, h1.2⟩
  have HI2 : Hid (∀ W, Below w.heap.size w W → IT W v2 T2) := fun W hW => ⟨h2.1.below hW, h2.2⟩
  have H10 : Hid (∀ W, Below w.heap.size w W → _) := fun W hW => few10 n p v l q W (hv.keep hW.size (fun k hk _ => hW.block k hk)) hm
  have HG : Hid (∀ W, Below w.heap.size w W → Good W) := fun W hW => hg.below hW
  obtain ⟨a0, c0, rfl, _⟩ := hv
  obtain ⟨⟨⟨a1, c1, rfl, _, _⟩, _⟩, _⟩ := h1
  obtain ⟨⟨⟨a2, c2, rfl, _, _⟩, _⟩, _⟩ := h2
  have hc8 : (l.take 8).length ≤ 1000 := by rw [List.length_take]; omega
  have HC8 : Hid ((l.take 8).length ≤ 1000) := hc8
  obtain ⟨M, hM⟩ : ∃ M, (l.take 8).length = M := ⟨_, rfl⟩
  simp only [hM] at H10
  generalize l.length = N0 at *
  generalize T1.length = N1 at *
  generalize T2.length = N2 at *
  clear hm hc8 hM
  generalize l.take 8 = l8 at *
  have HQ : Hid (∀ w0 e w1, PPost w0 e w1 → ∃ c m nv E r lv L, e = .returned (.tuple #[.pointer (some ⟨c, 0, none⟩), .pointer (some ⟨r, 0, none⟩), .bool true]) ∧ PS w0 w1 c m nv E r lv L) := fun _ e w1 h => h
  have HQ2 : Hid (∀ w2 E e w3, FPost w2 E e w3 → ∃ f mf g T, e = .returned (.pointer (some ⟨f, 0, none⟩)) ∧ Cat w3 f mf (.slice (some ⟨g, 0, none⟩) E.length E.length) T ∧ T.map (·.1) = E.map (·.1) ∧ (w2.heap.size ≤ f ∧ w2.heap.size ≤ mf ∧ w2.heap.size ≤ g) ∧ Below w2.heap.size w2 w3) := fun _ _ _ _ h => h
  have F0 : Below w.heap.size w ((w.alloc (.cells #[.string n, .slice a0 N0 c0, .string p, .int .i64 q] 32)).alloc (.cells #[.slice a1 N1 c1, .slice a2 N2 c2] 33)) := bal (al _ _) _
  have bA : Blk ((w.alloc (.cells #[.string n, .slice a0 N0 c0, .string p, .int .i64 q] 32)).alloc (.cells #[.slice a1 N1 c1, .slice a2 N2 c2] 33)) w.heap.size [.string n, .slice a0 N0 c0, .string p, .int .i64 q] 32 := (blk_new w [.string n, .slice a0 N0 c0, .string p, .int .i64 q] 32).below (al _ _)
  have bB : Blk ((w.alloc (.cells #[.string n, .slice a0 N0 c0, .string p, .int .i64 q] 32)).alloc (.cells #[.slice a1 N1 c1, .slice a2 N2 c2] 33)) (w.heap.size + 1) [.slice a1 N1 c1, .slice a2 N2 c2] 33 := blk_at _ [.slice a1 N1 c1, .slice a2 N2 c2] 33 (by simp)
  go_enter Tryd.func4, Tryd.ntmps4
  go_wp2_with (first
    | (go_at_call 10; (with_reducible refine (H10.out _ F0).mono ?_); rintro e w2 ⟨va, vc, rfl, hsc2, hb2⟩; have bA2 := bA.below hb2; have bB2 := bB.below hb2; have F2 := bmore F0 hb2)
    | (refine wpList_store_whole rfl 32 (.tmp 3) (.tmp 14) rfl w.heap.size [.string n, .slice va M vc, .string p, .int .i64 q] rfl rfl _ 32 bA2 rfl (by kernel_rfl) (by simp [Value.oneCell']) ?_; intro w3 bA3 hk3 hs3; have F3 : Below w.heap.size w w3 := F2.trans (hk3.below F2.size (fun i hi => by rw [hi]; exact Nat.le_refl _)); have bB3 : Blk w3 (w.heap.size + 1) [.slice a1 N1 c1, .slice a2 N2 c2] 33 := bB2.block (hk3.block _ bB2.lt (by simp)); have e30 := bB3.here (j := 0) rfl; have e31 := bB3.here (j := 1) rfl; have hsc3 := hsc2.keepTab bA2 hk3)
    | (go_at_call 7; (with_reducible refine (play7 _ T1 w3 (HG.out _ F3) (HI1.out _ F3)).mono ?_); intro e w4 hpost; obtain ⟨ca, ma, nva, Ea, ra, lva, La, rfl, hps⟩ := HQ.out _ _ _ hpost; have HPA : Hid _ := hps; clear hps hpost; have F4 := bmore F3 HPA.out.bel; have bB4 := bB3.below HPA.out.bel; have e41 := bB4.here (j := 1) rfl)
    | (go_at_call 7; (with_reducible refine (play7 _ T2 w4 (HG.out _ F4) (HI2.out _ F4)).mono ?_); intro e w5 hpost; obtain ⟨cb, mb, nvb, Eb, rb, lvb, Lb, rfl, hps⟩ := HQ.out _ _ _ hpost; have HPB : Hid _ := hps; clear hps hpost))
  have F5 : Below w.heap.size w w5 := bmore F4 HPB.out.bel
  have G5 : Below w3.heap.size w3 w5 := bmore HPA.out.bel HPB.out.bel
  have HTA : Hid (∀ W, Below w5.heap.size w5 W → Two w3.heap.size W ca ma nva Ea ra lva La) := fun W hW => HPA.out.two.below (bmore HPB.out.bel hW)
  have HTB : Hid (∀ W, Below w5.heap.size w5 W → Two w4.heap.size W cb mb nvb Eb rb lvb Lb) := fun W hW => HPB.out.two.below hW
  have HSC : Hid (∀ W, Below w5.heap.size w5 W → SC W (.slice va M vc) l8) := fun W hW => hsc3.below (bmore G5 hW)
  have HGD : Hid (∀ W, Below w5.heap.size w5 W → Good W) := fun W hW => HG.out W (bmore F5 hW)
  have HS : Hid (∀ W, Below w5.heap.size w5 W → W.cell? ⟨w.heap.size, 0, none⟩ = some (.string n) ∧ W.cell? ⟨w.heap.size, 1, none⟩ = some (.slice va M vc) ∧ W.cell? ⟨w.heap.size, 2, none⟩ = some (.string p) ∧ W.cell? ⟨w.heap.size, 3, none⟩ = some (.int .i64 q)) := fun W hW => by
    have hb := bA3.below (bmore G5 hW)
    exact ⟨hb.here rfl, hb.here rfl, hb.here rfl, hb.here rfl⟩
  have HF5 : Hid (Below w.heap.size w w5) := F5
  have HSZ : Hid (w.heap.size ≤ w5.heap.size) := F5.size
  have K0 : Below w5.heap.size w5 w5.drew := (Below.refl _ _).drew
  have hS0 := HS.out _ K0
  have H11 : Hid (∀ W, Below w5.heap.size w5 W → _) := fun W hW => right8 n p (.slice va M vc) l8 q W (HSC.out W hW) HC8.out
  have H12 : Hid (∀ W, Below w5.heap.size w5 W → _) := fun W hW => rright12 n p (.slice va M vc) l8 q W (HGD.out W hW) (HSC.out W hW) HC8.out
  have H13 : Hid (∀ W, Below w5.heap.size w5 W → _) := fun W hW => column17 (.slice va M vc) l8 nm W (HSC.out W hW) HC8.out
  have H14 : Hid (∀ W, Below w5.heap.size w5 W → _) := fun W hW => rcolumn14 (.slice va M vc) l8 nm W (HSC.out W hW) HC8.out
  have H15 : Hid (∀ W, Below w5.heap.size w5 W → _) := fun W hW => same_two (HTA.out W hW) (HTB.out W hW)
  have H16 : Hid (∀ W, Below w5.heap.size w5 W → ∀ b, Hid (b = true ↔ Ea.map (·.1) = Eb.map (·.1)) → _) := fun W hW b hb => rsame_two (HTA.out W hW) (HTB.out W hW) b hb
  clear hsc2 hsc3 hb2 bA bB bA2 bB2 bA3 bB3 bB4 F0 F2 F3 F4 F5 G5 hk3 hs3 e30 e31 e41 HI1 HI2 H10 HG HPA HPB HC8 HSC HGD
  generalize rtB (bs n) l8 (bs p) q = RB at *
  generalize colB l8 (bs nm) = CB at *
  generalize hAA : w.heap.size = A at *
  have HAE : Hid (w.heap.size = A) := hAA
  clear hAA
  go_wp2_with fail
  go_region_held3 (fun W => W.cell? ⟨A, 0, none⟩ = some (.string n) ∧ W.cell? ⟨A, 1, none⟩ = some (.slice va M vc) ∧ W.cell? ⟨A, 2, none⟩ = some (.string p) ∧ W.cell? ⟨A, 3, none⟩ = some (.int .i64 q)) (first | exact hS0 | exact HS.out _ K1 | exact HS.out _ K2 | exact HS.out _ K3 | exact HS.out _ K4 | exact HS.out _ K5 | exact HS.out _ K6 | exact HS.out _ K7 | exact HS.out _ K8 | exact HS.out _ K9 | exact HS.out _ K10) (first
    | (go_at_call 8; (with_reducible refine (live8 _).mono ?_); rintro e x1 ⟨rfl, hx1⟩; have K1 := bmore K0 hx1)
    | (go_at_call 11; (with_reducible refine (H11.out _ K1).mono ?_); rintro e x2 ⟨rfl, hx2⟩; have K2 := bmore K1 hx2)
    | (go_at_call 12; (with_reducible refine (H12.out _ K2).mono ?_); rintro e x3 ⟨rfl, hx3⟩; have K3 := bmore K2 hx3)
    | (go_at_call 13; (with_reducible refine (H13.out _ K3).mono ?_); rintro e x4 ⟨rfl, hx4⟩; have K4 := bmore K3 hx4)
    | (go_at_call 14; (with_reducible refine (H14.out _ K4).mono ?_); rintro e x5 ⟨rfl, hx5⟩; have K5 := bmore K4 hx5)
    | (go_at_call 15; (with_reducible refine (H15.out _ K5).mono ?_); rintro e x6 ⟨b, rfl, hbb, hx6⟩; have K6 := bmore K5 hx6)
    | (go_at_call 16; (with_reducible refine (H16.out _ K6 b hbb).mono ?_); rintro e x7 ⟨rfl, hx7⟩; have K7 := bmore K6 hx7)
    | (go_at_call 17; (with_reducible refine (fork17 (HTA.out _ K7).cat (HTA.out _ K7).nd).mono ?_); intro e x8 hpost; obtain ⟨f, mf, gf, Tf, rfl, hcf, hef, hge, hx8⟩ := HQ2.out _ _ _ _ hpost; have K8 := bmore K7 hx8; have HCF : Hid _ := hcf; have HEF : Hid _ := hef; clear hcf hef hge hpost)
    | (go_at_call 15; (with_reducible refine (same_fork (HTA.out _ K8) HCF.out HEF.out).mono ?_); rintro e x9 ⟨rfl, hx9⟩; have K9 := bmore K8 hx9)
    | (go_at_call 15; (with_reducible refine (same15_nil2 _ _).mono ?_); rintro e x10 ⟨rfl, hx10⟩; have K10 := bmore K9 hx10))
  all_goals (
    go_wp2
    go_ret
    exact ⟨rfl, by rw [HAE.out]; exact HF5.out.trans (K10.mono HSZ.out)⟩)
end Go.Proofs.YtkoagjfbhkhfkaaDoor
