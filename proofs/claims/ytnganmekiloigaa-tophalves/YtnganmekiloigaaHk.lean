/- Switch that is done, on a calm disk. -/
import Derived.Test.YtnganmekiloigaaHj
namespace Go.Proofs.Ytnganmekiloigaa
open Go.RowKit
set_option maxRecDepth 100000
variable {w w' : World} {B d s x : Nat} {D : Dk} {W : Wl} {G : List Nat}
set_option maxHeartbeats 1000000 in
theorem switch41_ok {R n c : Nat} {a : Option Addr} {l : Bs} (hA : LG B w d s D x W G) (hbr : W.br = false) (hcut : D.cut = false) (hoff : D.off = false) (hw : D.wait.length ≤ 50000) (hS : D.secs.length = 2 * R) (hR : R ≤ 64) (hh : W.half = 0 ∨ W.half = 1) (he : W.e < 65535) (hlv : LV EB w (.slice a n c) l) (hl0 : 0 < l.length) (hl : l.length ≤ 3648) (hag : ∀ g o, a = some ⟨g, o, none⟩ → g ∈ G) (hfit : np l ≤ R) :
    Calls Try.prog 41 #[.pointer (some ⟨x, 0, none⟩), .slice a n c] w fun e w' => e = .returned (.int .i64 0) ∧ LG B w' d s (D.switched ((1 - W.half) * R + 0) (layP (W.e + 1) 0 l)) x ⟨1 - W.half, W.e + 1, 1, np l, false⟩ G ∧ Kept G w w' ∧ Below B w w' := by
  obtain ⟨o, ho⟩ : ∃ o, 1 - W.half = o := ⟨_, rfl⟩
  obtain ⟨E, hE⟩ : ∃ E, W.e + 1 = E := ⟨_, rfl⟩
  rw [ho, hE]
  obtain ⟨_, _, hv0⟩ := hlv.form
  have hnl : n = l.length := by simp only [Value.slice.injEq] at hv0; exact hv0.2.1
  clear hv0
  have hnp : (n + 56) / 57 = np l := by rw [hnl]; rfl
  have k78 : ∀ W2, Below w.heap.size w W2 → Calls Try.prog 78 #[.pointer (some ⟨x, 0, none⟩), .slice a n c] W2 fun e w' => e = .returned (.int .i64 0) ∧ w' = W2 := fun W2 k => by
    have := takes78 (hA.wal.below k) a n c
    unfold takesP at this
    rw [hbr, if_neg (by simp), if_neg (by omega)] at this
    exact this
  have k79 := pieces79 a n c (by omega)
  rw [hnp] at k79
  have b0 := blk_new w [.pointer (some ⟨x, 0, none⟩)] 57
  have b1 := blk_new (w.alloc (.cells #[.pointer (some ⟨x, 0, none⟩)] 57)) [.slice a n c] 33
  have A2 := ((hA.new (.cells #[.pointer (some ⟨x, 0, none⟩)] 57)).new (.cells #[.slice a n c] 33)).below (Below.refl _ _).drew
  have kd : Below w.heap.size w ((w.alloc (.cells #[.pointer (some ⟨x, 0, none⟩)] 57)).alloc (.cells #[.slice a n c] 33)).drew := bmore (bmore (al _ _) (al _ _)) (Below.refl _ _).drew
  have c0 := (b0.below (al _ (.cells #[.slice a n c] 33))).below (Below.refl _ _).drew
  have c1 := b1.below (Below.refl _ _).drew
  have e0 := c0.cell 0
  have e1 := c1.cell 0
  simp only [World.size_alloc, List.getElem?_cons_zero] at e0 e1 c1 A2
  have k80 := room80 A2.disk A2.wal hS hR
  have hlv2 := hlv.below kd
  have hbz := hA.size
  have HKG : Hid (∀ g ∈ G, g < w.heap.size) := hA.glt
  have hxl := hA.wal.lt
  have hsz2 : (((w.alloc (.cells #[.pointer (some ⟨x, 0, none⟩)] 57)).alloc (.cells #[.slice a n c] 33)).drew).heap.size = w.heap.size + 2 := by simp
  clear b0 b1 hA hlv hnp
  obtain ⟨V, hV⟩ : ∃ V, ((w.alloc (.cells #[.pointer (some ⟨x, 0, none⟩)] 57)).alloc (.cells #[.slice a n c] 33)).drew = V := ⟨_, rfl⟩
  rw [hV] at hsz2 A2 c0 c1 hlv2 kd
  -- the epoch goes up
  obtain ⟨A3, K3, B3⟩ := A2.turn (o := 2) (v := .int .i64 (E : Int)) (W2 := ⟨W.half, E, W.cnt, W.en, false⟩) (by simp [wlC, hbr])
  have d0 := c0.block (K3 _ (by simp))
  have d1 := c1.block (K3 _ (by simp))
  have hlv3 : LV EB (V.setCell ⟨x, 2, none⟩ (.int .i64 (E : Int))) (.slice a n c) l := lv_keepAt hlv2 fun g o hg => K3 g (by simp [hag g o hg])
  have hsz3 : (V.setCell ⟨x, 2, none⟩ (.int .i64 (E : Int))).heap.size = w.heap.size + 2 := by rw [← hsz2]; simp [World.setCell]
  have A4 := A3.new (.cells #[.int .i64 (o : Int)] 3)
  have d2 := blk_new (V.setCell ⟨x, 2, none⟩ (.int .i64 (E : Int))) [.int .i64 (o : Int)] 3
  have f0 := d0.below (al _ (.cells #[.int .i64 (o : Int)] 3))
  have f1 := d1.below (al _ (.cells #[.int .i64 (o : Int)] 3))
  have hlv4 := hlv3.below (al _ (.cells #[.int .i64 (o : Int)] 3))
  rw [hsz3] at A4 d2
  obtain ⟨V4, hV4⟩ : ∃ V4, (V.setCell ⟨x, 2, none⟩ (.int .i64 (E : Int))).alloc (.cells #[.int .i64 (o : Int)] 3) = V4 := ⟨_, rfl⟩
  rw [hV4] at A4 d2 f0 f1 hlv4
  have k76 := change_lit (f := 81) (caps := #[.pointer (some ⟨w.heap.size, 0, none⟩), .pointer (some ⟨w.heap.size + 2, 0, none⟩), .pointer (some ⟨w.heap.size + 1, 0, none⟩)]) (D' := D.switched (o * R + 0) (layP E 0 l)) (cf81 _) A4 rfl (fun r hr => by
    subst hr
    exact switch81 (R := R) (A4.new _) (f0.below (al _ _)) (d2.below (al _ _)) (f1.below (al _ _)) (by simp) hcut hoff hw hS hR (by omega) (by show E < 65536; omega) (hlv4.below (al _ _)) hl0 hl (fun g o hg => by simp [hag g o hg]) hfit)
  have K34 : Kept G w V4 := fun g hg => by rw [← hV4]; exact ((Below.heap_alloc _ _ _ (by rw [hsz3]; have := HKG.out g hg; omega)).trans (K3 g (by simp [hg]))).trans (kd.block g (HKG.out g hg))
  have B34 : Below B w V4 := by rw [← hV4]; exact ((kd.mono hbz).trans B3).trans ((al _ _).mono (by rw [hsz3]; omega))
  have HFIN : Hid (∀ w5, LG B w5 d s (D.switched (o * R + 0) (layP E 0 l)) x ⟨W.half, E, W.cnt, W.en, false⟩ ((w.heap.size + 2) :: (w.heap.size + 1) :: w.heap.size :: G) → Kept ((w.heap.size + 2) :: (w.heap.size + 1) :: w.heap.size :: G) V4 w5 → Below B V4 w5 → ∀ w6, w6 = ((w5.setCell ⟨x, 1, none⟩ (.int .i64 (o : Int))).setCell ⟨x, 3, none⟩ (.int .i64 1)).setCell ⟨x, 4, none⟩ (.int .i64 ((np l : Nat) : Int)) →
      LG B w6 d s (D.switched (o * R + 0) (layP E 0 l)) x ⟨o, E, 1, np l, false⟩ G ∧ Kept G w w6 ∧ Below B w w6) := by
    rintro w5 A5 K5 B5 w6 rfl
    obtain ⟨A6, K6, B6⟩ := A5.turn (o := 1) (v := .int .i64 (o : Int)) (W2 := ⟨o, E, W.cnt, W.en, false⟩) (by simp [wlC])
    obtain ⟨A7, K7, B7⟩ := A6.turn (o := 3) (v := .int .i64 1) (W2 := ⟨o, E, 1, W.en, false⟩) (by simp [wlC])
    obtain ⟨A8, K8, B8⟩ := A7.turn (o := 4) (v := .int .i64 ((np l : Nat) : Int)) (W2 := ⟨o, E, 1, np l, false⟩) (by simp [wlC])
    refine ⟨A8.less (fun g hg => by simp [hg]), fun g hg => ?_, (((B34.trans B5).trans B6).trans B7).trans B8⟩
    have h1 : g ∈ (w.heap.size + 2) :: (w.heap.size + 1) :: w.heap.size :: G := by simp [hg]
    exact ((((K8 g h1).trans (K7 g h1)).trans (K6 g h1)).trans (K5 g h1)).trans (K34 g hg)
  have hle : ¬ (R : Int) < ((np l : Nat) : Int) := by omega
  have hle2 : ¬ R < np l := by omega
  have hne : ¬ (W.e : Int) = 65535 := by omega
  have hneb : ((W.e : Int) == 65535) = false := by simpa using hne
  have hmf : ∀ (fn : Fn) (first cap : Array Value) (w : World), (Instr.makeFunc fn first cap).run Try.prog w = .ok (.func fn first cap) w := fun _ _ _ _ => rfl
  have hwe : IntKind.i64.wrap ((W.e : Int) + 1) = (E : Int) := by rw [wrap_small _ (by omega) (by omega)]; omega
  have hwo : IntKind.i64.wrap (1 - (W.half : Int)) = (o : Int) := by rw [wrap_small _ (by omega) (by omega)]; omega
  have HV : Hid ((((w.alloc (.cells #[.pointer (some ⟨x, 0, none⟩)] 57)).alloc (.cells #[.slice a n c] 33)).drew) = V) := hV
  have HV4 : Hid ((V.setCell ⟨x, 2, none⟩ (.int .i64 (E : Int))).alloc (.cells #[.int .i64 (o : Int)] 3) = V4) := hV4
  have HSZ : Hid (V.heap.size = w.heap.size + 2) := hsz2
  have HC : Hid (∀ w5, Kept ((w.heap.size + 2) :: (w.heap.size + 1) :: w.heap.size :: G) V4 w5 → Blk w5 w.heap.size [.pointer (some ⟨x, 0, none⟩)] 57 ∧ Blk w5 (w.heap.size + 1) [.slice a n c] 33 ∧ Blk w5 (w.heap.size + 2) [.int .i64 (o : Int)] 3) := fun w5 K5 => ⟨f0.block (K5 _ (by simp)), f1.block (K5 _ (by simp)), d2.block (K5 _ (by simp))⟩
  have hn3 : ¬ w.heap.size = x := by omega
  have hn4 : ¬ w.heap.size + 1 = x := by omega
  have hn5 : ¬ w.heap.size + 2 = x := by omega
  have v0 := c0.cell 0
  have v1 := c1.cell 0
  have v2 := A2.wal.cell 2
  have v3 := A2.wal.frozen 2
  have u0 := d0.cell 0
  have u1 := d1.cell 0
  have u2 := A3.wal.cell 1
  have u4 := f0.cell 0
  rw [← hV4] at u4
  simp only [wlC, List.getElem?_cons_zero, List.getElem?_cons_succ] at v0 v1 v2 u0 u1 u2 u4
  rw [show w.heap.size + 2 = V.heap.size from hsz2.symm] at k76 HFIN HC hn5
  clear c0 c1 d0 d1 d2 f0 f1 A2 A3 A4 K3 B3 kd hlv2 hlv3 hlv4 hbr hcut hoff hw hS hR hh he hl0 hl hag hfit hnl hxl hbz hV hV4 hsz2 hsz3 ho hE K34 B34
  generalize np l = m at *
  go_enter Try.func41, Try.ntmps41
  go_wp2_with (go_at_call 78; (refine (k78 _ (bmore (al _ _) (al _ _))).mono ?_; rintro e w1 ⟨rfl, rfl⟩))
  go_region_held3 (fun W2 => W2.cell? ⟨w.heap.size, 0, none⟩ = some (.pointer (some ⟨x, 0, none⟩)) ∧ W2.cell? ⟨w.heap.size + 1, 0, none⟩ = some (.slice a n c)) (exact ⟨e0, e1⟩) (first
    | (go_at_call 79; (refine (k79 _).mono ?_; rintro e w1 ⟨rfl, rfl⟩))
    | (go_at_call 80; (refine k80.mono ?_; rintro e w1 ⟨rfl, rfl⟩)))
  rw [HV.out]
  go_wp2_with (go_at_call 76; (rw [HV4.out]; refine k76.mono ?_; rintro e w5 ⟨rfl, A5, K5, B5⟩; obtain ⟨p0, p1, p2⟩ := HC.out w5 K5; have x1 := A5.wal.frozen 1; have x3 := A5.wal.frozen 3; have x4 := A5.wal.frozen 4; have z1 := A5.wal.cell 1; have z3 := A5.wal.cell 3; have z4 := A5.wal.cell 4; have t0 := p0.cell 0; have t1 := p1.cell 0; have t2 := p2.cell 0; simp only [wlC, List.getElem?_cons_zero, List.getElem?_cons_succ] at z1 z3 z4 t0 t1 t2))
  have HF := HFIN.out w5 A5 K5 B5 _ rfl
  have hs0 : w5.drew.cell? ⟨w.heap.size, 0, none⟩ = some (.pointer (some ⟨x, 0, none⟩)) ∧ w5.drew.cell? ⟨w.heap.size + 1, 0, none⟩ = some (.slice a n c) ∧ w5.drew.cell? ⟨V.heap.size, 0, none⟩ = some (.int .i64 (o : Int)) := ⟨t0, t1, t2⟩
  have HS1 : Hid (∀ v, (w5.drew.setCell ⟨x, 1, none⟩ v).cell? ⟨w.heap.size, 0, none⟩ = some (.pointer (some ⟨x, 0, none⟩)) ∧ (w5.drew.setCell ⟨x, 1, none⟩ v).cell? ⟨w.heap.size + 1, 0, none⟩ = some (.slice a n c) ∧ (w5.drew.setCell ⟨x, 1, none⟩ v).cell? ⟨V.heap.size, 0, none⟩ = some (.int .i64 (o : Int))) := fun v => ⟨(p0.other (p := ⟨x, 1, none⟩) (by simpa using hn3) v).cell 0, (p1.other (p := ⟨x, 1, none⟩) (by simpa using hn4) v).cell 0, (p2.other (p := ⟨x, 1, none⟩) (by simpa using hn5) v).cell 0⟩
  have HS2 : Hid (∀ v u, ((w5.drew.setCell ⟨x, 1, none⟩ v).setCell ⟨x, 3, none⟩ u).cell? ⟨w.heap.size, 0, none⟩ = some (.pointer (some ⟨x, 0, none⟩)) ∧ ((w5.drew.setCell ⟨x, 1, none⟩ v).setCell ⟨x, 3, none⟩ u).cell? ⟨w.heap.size + 1, 0, none⟩ = some (.slice a n c) ∧ ((w5.drew.setCell ⟨x, 1, none⟩ v).setCell ⟨x, 3, none⟩ u).cell? ⟨V.heap.size, 0, none⟩ = some (.int .i64 (o : Int))) := fun v u => ⟨((p0.other (p := ⟨x, 1, none⟩) (by simpa using hn3) v).other (p := ⟨x, 3, none⟩) (by simpa using hn3) u).cell 0, ((p1.other (p := ⟨x, 1, none⟩) (by simpa using hn4) v).other (p := ⟨x, 3, none⟩) (by simpa using hn4) u).cell 0, ((p2.other (p := ⟨x, 1, none⟩) (by simpa using hn5) v).other (p := ⟨x, 3, none⟩) (by simpa using hn5) u).cell 0⟩
  have HS3 : Hid (∀ v u r, (((w5.drew.setCell ⟨x, 1, none⟩ v).setCell ⟨x, 3, none⟩ u).setCell ⟨x, 4, none⟩ r).cell? ⟨w.heap.size, 0, none⟩ = some (.pointer (some ⟨x, 0, none⟩)) ∧ (((w5.drew.setCell ⟨x, 1, none⟩ v).setCell ⟨x, 3, none⟩ u).setCell ⟨x, 4, none⟩ r).cell? ⟨w.heap.size + 1, 0, none⟩ = some (.slice a n c) ∧ (((w5.drew.setCell ⟨x, 1, none⟩ v).setCell ⟨x, 3, none⟩ u).setCell ⟨x, 4, none⟩ r).cell? ⟨V.heap.size, 0, none⟩ = some (.int .i64 (o : Int))) := fun v u r => ⟨(((p0.other (p := ⟨x, 1, none⟩) (by simpa using hn3) v).other (p := ⟨x, 3, none⟩) (by simpa using hn3) u).other (p := ⟨x, 4, none⟩) (by simpa using hn3) r).cell 0, (((p1.other (p := ⟨x, 1, none⟩) (by simpa using hn4) v).other (p := ⟨x, 3, none⟩) (by simpa using hn4) u).other (p := ⟨x, 4, none⟩) (by simpa using hn4) r).cell 0, (((p2.other (p := ⟨x, 1, none⟩) (by simpa using hn5) v).other (p := ⟨x, 3, none⟩) (by simpa using hn5) u).other (p := ⟨x, 4, none⟩) (by simpa using hn5) r).cell 0⟩
  clear A5 K5 B5 p0 p1 p2 t0 t1 t2
  refine wp_region_held_drew (S := fun W2 => W2.cell? ⟨w.heap.size, 0, none⟩ = some (.pointer (some ⟨x, 0, none⟩)) ∧ W2.cell? ⟨w.heap.size + 1, 0, none⟩ = some (.slice a n c) ∧ W2.cell? ⟨V.heap.size, 0, none⟩ = some (.int .i64 (o : Int))) (by kernel_rfl) hs0 (fun hS => ?_)
  refine wpAnyH_take' 0 (some 42) (.pointer (some ⟨x, 0, none⟩)) rfl rfl (by kernel_rfl) (by kernel_rfl) (by kernel_rfl) (fun _ _ _ h => h) (Or.inl ⟨by rfl, fun w' hS => by obtain ⟨s0, s1, s2⟩ := hS; go_simp⟩) hS ?_
  simp only [Act.put, List.setIfInBounds_toArray, List.set_cons_zero, List.set_cons_succ]
  refine wpAnyH_take' 1 (some 43) (.pointer (some ⟨x, 0, none⟩)) rfl rfl (by kernel_rfl) (by kernel_rfl) (by kernel_rfl) (fun _ _ _ h => h) (Or.inl ⟨by rfl, fun w' hS => by obtain ⟨s0, s1, s2⟩ := hS; go_simp⟩) hS ?_
  simp only [Act.put, List.setIfInBounds_toArray, List.set_cons_zero, List.set_cons_succ]
  refine wpAnyH_take' 2 (some 44) (.pointer (some ⟨x, 0, none⟩)) rfl rfl (by kernel_rfl) (by kernel_rfl) (by kernel_rfl) (fun _ _ _ h => h) (Or.inl ⟨by rfl, fun w' hS => by obtain ⟨s0, s1, s2⟩ := hS; go_simp⟩) hS ?_
  simp only [Act.put, List.setIfInBounds_toArray, List.set_cons_zero, List.set_cons_succ]
  refine wpAnyH_take' 3 (some 45) (.int .i64 (o : Int)) rfl rfl (by kernel_rfl) (by kernel_rfl) (by kernel_rfl) (fun _ _ _ h => h) (Or.inl ⟨by rfl, fun w' hS => by obtain ⟨s0, s1, s2⟩ := hS; go_simp⟩) hS ?_
  simp only [Act.put, List.setIfInBounds_toArray, List.set_cons_zero, List.set_cons_succ]
  refine wpAnyH_take' 4 (some 46) (.slice a n c) rfl rfl (by kernel_rfl) (by kernel_rfl) (by kernel_rfl) (fun _ _ _ h => h) (Or.inl ⟨by rfl, fun w' hS => by obtain ⟨s0, s1, s2⟩ := hS; go_simp⟩) hS ?_
  simp only [Act.put, List.setIfInBounds_toArray, List.set_cons_zero, List.set_cons_succ]
  refine wpAnyH_ready (rs := [5]) (by kernel_rfl) (by simp) (AllReadyH.cons rfl (fun K2 hK2 => ?_) AllReadyH.nil)
  go_simp
  refine (k79 _).mono ?_
  rintro e' w6 ⟨rfl, rfl⟩
  refine hK2.out _ _ hS (fun hS => ?_)
  clear hK2 K2
  try simp only [Act.put, List.setIfInBounds_toArray, List.set_cons_zero, List.set_cons_succ]
  refine wpAnyH_take' 6 (some 48) (.pointer (some ⟨x, 0, none⟩)) rfl rfl (by kernel_rfl) (by kernel_rfl) (by kernel_rfl) (fun _ _ _ h => h) (Or.inl ⟨by rfl, fun w' hS => by obtain ⟨s0, s1, s2⟩ := hS; go_simp⟩) hS ?_
  simp only [Act.put, List.setIfInBounds_toArray, List.set_cons_zero, List.set_cons_succ]
  refine wpAnyH_take' 7 (some 49) (.pointer (some ⟨x, 1, none⟩)) rfl rfl (by kernel_rfl) (by kernel_rfl) (by kernel_rfl) (fun _ _ _ h => h) (Or.inl ⟨by rfl, fun w' hS => by obtain ⟨s0, s1, s2⟩ := hS; go_simp⟩) hS ?_
  simp only [Act.put, List.setIfInBounds_toArray, List.set_cons_zero, List.set_cons_succ]
  refine wpAnyH_ready (rs := [8]) (by kernel_rfl) (by simp) (AllReadyH.cons rfl (fun K2 hK2 => ?_) AllReadyH.nil)
  go_simp
  refine hK2.out _ _ (HS1.out _) (fun hS => ?_)
  clear hK2 K2
  try simp only [Act.put, List.setIfInBounds_toArray, List.set_cons_zero, List.set_cons_succ]
  refine wpAnyH_take' 9 (some 50) (.pointer (some ⟨x, 0, none⟩)) rfl rfl (by kernel_rfl) (by kernel_rfl) (by kernel_rfl) (fun _ _ _ h => h) (Or.inl ⟨by rfl, fun w' hS => by obtain ⟨s0, s1, s2⟩ := hS; go_simp⟩) hS ?_
  simp only [Act.put, List.setIfInBounds_toArray, List.set_cons_zero, List.set_cons_succ]
  refine wpAnyH_take' 10 (some 51) (.pointer (some ⟨x, 3, none⟩)) rfl rfl (by kernel_rfl) (by kernel_rfl) (by kernel_rfl) (fun _ _ _ h => h) (Or.inl ⟨by rfl, fun w' hS => by obtain ⟨s0, s1, s2⟩ := hS; go_simp⟩) hS ?_
  simp only [Act.put, List.setIfInBounds_toArray, List.set_cons_zero, List.set_cons_succ]
  refine wpAnyH_ready (rs := [11]) (by kernel_rfl) (by simp) (AllReadyH.cons rfl (fun K2 hK2 => ?_) AllReadyH.nil)
  go_simp
  refine hK2.out _ _ (HS2.out _ _) (fun hS => ?_)
  clear hK2 K2
  try simp only [Act.put, List.setIfInBounds_toArray, List.set_cons_zero, List.set_cons_succ]
  refine wpAnyH_take' 12 (some 52) (.pointer (some ⟨x, 0, none⟩)) rfl rfl (by kernel_rfl) (by kernel_rfl) (by kernel_rfl) (fun _ _ _ h => h) (Or.inl ⟨by rfl, fun w' hS => by obtain ⟨s0, s1, s2⟩ := hS; go_simp⟩) hS ?_
  simp only [Act.put, List.setIfInBounds_toArray, List.set_cons_zero, List.set_cons_succ]
  refine wpAnyH_take' 13 (some 53) (.pointer (some ⟨x, 4, none⟩)) rfl rfl (by kernel_rfl) (by kernel_rfl) (by kernel_rfl) (fun _ _ _ h => h) (Or.inl ⟨by rfl, fun w' hS => by obtain ⟨s0, s1, s2⟩ := hS; go_simp⟩) hS ?_
  simp only [Act.put, List.setIfInBounds_toArray, List.set_cons_zero, List.set_cons_succ]
  refine wpAnyH_ready (rs := [14]) (by kernel_rfl) (by simp) (AllReadyH.cons rfl (fun K2 hK2 => ?_) AllReadyH.nil)
  go_simp
  refine hK2.out _ _ (HS3.out _ _ _) (fun hS => ?_)
  clear hK2 K2
  try simp only [Act.put, List.setIfInBounds_toArray, List.set_cons_zero, List.set_cons_succ]
  refine wpAnyH_done (by kernel_rfl) ?_ _
  go_wp2
  go_ret
  exact ⟨rfl, HF.1.below (Below.refl _ _).drew, fun g hg => HF.2.1 g hg, HF.2.2.trans (Below.refl _ _).drew⟩
end Go.Proofs.Ytnganmekiloigaa
