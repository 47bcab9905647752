/- codec's live: it answers true. -/
import Derived.Test.YtolggmmlaohpdabDoorDec
import Derived.Test.YtolggmmlaohpdabDoorKeys
namespace Go.Proofs.YtolggmmlaohpdabDoor
open Go.RowKit Go.Lib
set_option maxRecDepth 100000

/-- The value that live asks of. -/
def x5 : Vt := (1, 5, ⟨#[]⟩)
theorem enc5 : encR [x5] 0 1 = [1, 128, 0, 0, 0, 0, 0, 0, 5, 0, 3, 232, 3, 233] := by decide +kernel
theorem key5 : keyR [x5] = [1, 128, 0, 0, 0, 0, 0, 0, 5] := by decide +kernel
theorem right5 : rightRow [x5] 0 1 = true := by decide +kernel
theorem few5 : Few [x5] := fun x hx => by
  obtain rfl := List.mem_singleton.1 hx
  exact ⟨by show -9223372036854775808 ≤ (5 : Int) ∧ (5 : Int) ≤ 9223372036854775807; omega, by decide⟩
theorem cmp5 : cmpR [x5] 0 1 [x5] 0 1 = 0 := by decide +kernel

theorem enc_at2 (v : Value) (w : World) (hsv : SV w v [x5]) (hg : Good w) :
    Calls Tryd.prog 19 #[RV v 0 1] w fun e w' => ∃ g c, e = .returned (.tuple #[.slice (some ⟨g, 0, none⟩) 14 c, .int .i64 0]) ∧ At w' g 0 (encR [x5] 0 1) ∧ 14 ≤ c ∧ c ≤ maxLen ∧ Below w.heap.size w w' := by
  refine (encode19_yes v [x5] 0 1 w hsv few5 right5 hg).mono ?_
  rintro e w' ⟨u, rfl, h2, h3⟩
  obtain ⟨g, c, rfl, h4, h5, _, hat⟩ := brow_at h2 (by rw [enc5]; decide)
  rw [show (encR [x5] 0 1).length = 14 by rw [enc5]; rfl] at h4 ⊢
  exact ⟨g, c, rfl, hat, h4, h5, h3⟩

/-- What live's last step reads. -/
def SL (w : World) (g B X : Nat) (v u : Value) (W : World) : Prop :=
  (W.cell? ⟨g, 9, none⟩ = some (.int .u8 0) ∧ W.cell? ⟨g, 10, none⟩ = some (.int .u8 3) ∧ W.cell? ⟨g, 13, none⟩ = some (.int .u8 233)) ∧ At W g 0 (encR [x5] 0 1) ∧ Bx W B v (.int .i64 0) (.int .i64 1) ∧ Bx W X u (.int .i64 0) (.int .i64 1) ∧ SV W v [x5] ∧ SV W u [x5] ∧ St w W
theorem Bx.below {W W' : World} {B : Nat} {x0 x1 x2 : Value} (h : Bx W B x0 x1 x2) (hb : Below W.heap.size W W') : Bx W' B x0 x1 x2 := h.block (hb.block _ h.lt)
theorem sl_mk {w : World} {g B X : Nat} {v u : Value} {W : World} (hat : At W g 0 (encR [x5] 0 1)) (hB : Bx W B v (.int .i64 0) (.int .i64 1)) (hX : Bx W X u (.int .i64 0) (.int .i64 1)) (hv : SV W v [x5]) (hu : SV W u [x5]) (hs : St w W) : SL w g B X v u W := by
  have h := hat
  rw [enc5] at h
  have h9 := h 9 (by decide)
  have h10 := h 10 (by decide)
  have h13 := h 13 (by decide)
  simp at h9 h10 h13
  exact ⟨⟨h9, h10, h13⟩, hat, hB, hX, hv, hu, hs⟩
theorem SL.below {w : World} {g B X : Nat} {v u : Value} {W W' : World} (h : SL w g B X v u W) (b : Below W.heap.size W W') : SL w g B X v u W' :=
  sl_mk (h.2.1.below b) (h.2.2.1.below b) (h.2.2.2.1.below b) (h.2.2.2.2.1.below b) (h.2.2.2.2.2.1.below b) (h.2.2.2.2.2.2.more b)
theorem SL.conv {w : World} {g B X : Nat} {v u : Value} {W : World} (h : SL w g B X v u W) (c : Nat) : (convert 34 9 (.slice (some ⟨g, 0, none⟩) 9 c)).run Tryd.prog W = .ok (.string (str (keyR [x5]))) W := by
  have h1 := h.2.1.take 9
  rw [show (encR [x5] 0 1).take 9 = keyR [x5] by rw [enc5, key5]; rfl] at h1
  have := conv_at (c := c) h1
  rw [show (keyR [x5]).length = 9 by rw [key5]; rfl] at this
  exact this

set_option maxHeartbeats 1000000 in
theorem live10 (w : World) (hg : Good w) : Calls Tryd.prog 10 #[] w fun e w' => e = .returned (.bool true) ∧ Below w.heap.size w w' := by
  obtain ⟨W0, hW0⟩ : ∃ W0, (w.alloc (.cells #[.int .u8 1, .int .i64 5, .string ⟨#[]⟩] 46)).alloc (.cells #[.slice (some ⟨w.heap.size, 0, none⟩) 1 1, .int .i64 0, .int .i64 1] 26) = W0 := ⟨_, rfl⟩
  have hb0 : Below w.heap.size w W0 := hW0 ▸ bmore (al w _) (al _ _)
  have hv0 : SV W0 (.slice (some ⟨w.heap.size, 0, none⟩) 1 1) [x5] := by
    refine .inr ⟨_, _, _, rfl, by simp, by simp, by unfold maxLen; omega, fun i x hx => ?_⟩
    rw [← hW0]
    have hi : i = 0 := by have := (List.getElem?_eq_some_iff.1 hx).1; simpa using this
    subst hi
    simp at hx
    subst hx
    simp [x5]
  have hB0 : Bx W0 (w.heap.size + 1) (.slice (some ⟨w.heap.size, 0, none⟩) 1 1) (.int .i64 0) (.int .i64 1) := by
    rw [← hW0]
    exact ⟨by simp, by simp, by simp, by simp, by simp, by simp⟩
  have c19 := enc_at2 _ W0 hv0 (hg.below hb0)
  have c21 := fun g c W hat h1 h2 hG => decode21_yes g 0 c [x5] 0 1 W hat h1 h2 right5 few5 hG
  rw [show (encR [x5] 0 1).length = 14 by rw [enc5]; rfl] at c21
  go_enter Tryd.func10, Tryd.ntmps10
  obtain ⟨p0, p1, p2, _, _, _⟩ := id hB0
  go_wp2_with fail
  refine c19.mono ?_
  rintro e w1 ⟨g, c, rfl, hat, hc, hm, hb1⟩
  have hbw1 := bmore hb0 hb1
  have hB1 := hB0.below hb1
  have hv1 := hv0.below hb1
  have d21 := c21 g c w1 hat hc hm (hg.below hbw1)
  clear c19 c21 hB0 hv0 hb1 hW0 hb0
  go_wp2_with (go_at_call 21; (refine d21.mono ?_; rintro e w2 ⟨u, rfl, hu, hb2⟩; obtain ⟨ua, uc, rfl, _⟩ := sv_form hu.sv))
  have hb3 := al w2 (.cells #[.slice ua 1 uc, .int .i64 0, .int .i64 1] 26)
  have hk : (SL w g (w.heap.size + 1) w2.heap.size (.slice (some ⟨w.heap.size, 0, none⟩) 1 1) (.slice ua 1 uc)) (w2.alloc (.cells #[.slice ua 1 uc, .int .i64 0, .int .i64 1] 26)) := sl_mk ((hat.below hb2).below hb3) ((hB1.below hb2).below hb3) ⟨by simp, by simp, by simp, by simp, by simp, by simp⟩ ((hv1.below hb2).below hb3) (hu.sv.below hb3) ((((St.start hg).more hbw1).more hb2).more hb3)
  have hk := hk.below (Below.refl _ _).drew
  have z1 := fun p : GW (SL w g (w.heap.size + 1) w2.heap.size (.slice (some ⟨w.heap.size, 0, none⟩) 1 1) (.slice ua 1 uc)) => p.h.1.1
  have z2 := fun p : GW (SL w g (w.heap.size + 1) w2.heap.size (.slice (some ⟨w.heap.size, 0, none⟩) 1 1) (.slice ua 1 uc)) => p.h.1.2.1
  have z3 := fun p : GW (SL w g (w.heap.size + 1) w2.heap.size (.slice (some ⟨w.heap.size, 0, none⟩) 1 1) (.slice ua 1 uc)) => p.h.1.2.2
  have z4 := fun p : GW (SL w g (w.heap.size + 1) w2.heap.size (.slice (some ⟨w.heap.size, 0, none⟩) 1 1) (.slice ua 1 uc)) => p.h.2.2.1.c0
  have z5 := fun p : GW (SL w g (w.heap.size + 1) w2.heap.size (.slice (some ⟨w.heap.size, 0, none⟩) 1 1) (.slice ua 1 uc)) => p.h.2.2.1.c1
  have z6 := fun p : GW (SL w g (w.heap.size + 1) w2.heap.size (.slice (some ⟨w.heap.size, 0, none⟩) 1 1) (.slice ua 1 uc)) => p.h.2.2.1.c2
  have z7 := fun p : GW (SL w g (w.heap.size + 1) w2.heap.size (.slice (some ⟨w.heap.size, 0, none⟩) 1 1) (.slice ua 1 uc)) => p.h.2.2.2.1.c0
  have z8 := fun p : GW (SL w g (w.heap.size + 1) w2.heap.size (.slice (some ⟨w.heap.size, 0, none⟩) 1 1) (.slice ua 1 uc)) => p.h.2.2.2.1.c1
  have z9 := fun p : GW (SL w g (w.heap.size + 1) w2.heap.size (.slice (some ⟨w.heap.size, 0, none⟩) 1 1) (.slice ua 1 uc)) => p.h.2.2.2.1.c2
  have cv := fun (p : GW (SL w g (w.heap.size + 1) w2.heap.size (.slice (some ⟨w.heap.size, 0, none⟩) 1 1) (.slice ua 1 uc))) c' => p.h.conv c'
  have inh : Nonempty (GW (SL w g (w.heap.size + 1) w2.heap.size (.slice (some ⟨w.heap.size, 0, none⟩) 1 1) (.slice ua 1 uc))) := ⟨⟨_, hk⟩⟩
  have Q13 := hideK (fun p : GW (SL w g (w.heap.size + 1) w2.heap.size (.slice (some ⟨w.heap.size, 0, none⟩) 1 1) (.slice ua 1 uc)) => calls_gw p (calls_s p.h SL.below (cmp5 ▸ compare13 _ _ [x5] [x5] 0 1 0 1 p.w p.h.2.2.2.2.2.1 p.h.2.2.2.2.1 (by simp) (by simp))))
  have Q17 := hideK (fun p : GW (SL w g (w.heap.size + 1) w2.heap.size (.slice (some ⟨w.heap.size, 0, none⟩) 1 1) (.slice ua 1 uc)) => calls_gw p (calls_s p.h SL.below (key17 _ [x5] 0 1 p.w p.h.2.2.2.2.1 few5 p.h.2.2.2.2.2.2.1)))
  have hc9 : 9 ≤ c := by omega
  generalize str (keyR [x5]) = s5 at *
  clear d21 hB1 hv1 hu hb2 hb3 hbw1 hat p0 p1 p2
  refine wp_region_gw (SL w g (w.heap.size + 1) w2.heap.size (.slice (some ⟨w.heap.size, 0, none⟩) 1 1) (.slice ua 1 uc)) (by kernel_rfl) hk ?_
  repeat (go_big_quiet_step (first | (go_at_call 13; with_reducible exact Q13.out _) | (go_at_call 17; with_reducible exact Q17.out _)))
  refine wpQuiet_nil ?_
  intro _ hw'
  obtain ⟨⟨wq, hq⟩, hw''⟩ := hw'
  subst hw''
  go_wp2
  go_ret
  exact ⟨rfl, hq.2.2.2.2.2.2.2⟩

end Go.Proofs.YtolggmmlaohpdabDoor
