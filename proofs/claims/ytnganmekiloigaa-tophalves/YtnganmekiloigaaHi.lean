/- Append, on a calm disk. -/
import Derived.Test.YtnganmekiloigaaHh
namespace Go.Proofs.Ytnganmekiloigaa
open Go.RowKit
set_option maxRecDepth 100000
variable {w w' : World} {B d s x : Nat} {D : Dk} {W : Wl} {G : List Nat}
/-- change of what is done by a closure that turns the disk. -/
theorem change_lit {f : Nat} {caps : Array Value} {D' : Dk} (hf : ∀ W, Sem.run Try.prog (callFunc f caps) W = .ok (.enter f caps) W) (hA : LG B w d s D x W G) (hbr : W.br = false)
    (hc : ∀ r, r = w.heap.size → Calls Try.prog f caps (w.alloc (.cells #[.int .i64 0] 34)) fun e w' => e = .returned (.tuple #[]) ∧ LG B w' d s D' x W (r :: G) ∧ Kept (r :: G) (w.alloc (.cells #[.int .i64 0] 34)) w' ∧ Below B (w.alloc (.cells #[.int .i64 0] 34)) w') :
    Calls Try.prog 76 #[.pointer (some ⟨x, 0, none⟩), .func (.func f) #[] caps] w fun e w' => e = .returned (.int .i64 0) ∧ LG B w' d s D' x W G ∧ Kept G w w' ∧ Below B w w' := by
  have hsz := hA.size
  have hgl := hA.glt
  have hxl := hA.wal.lt
  have k67 := attempt_ok (w := w) (Q := fun w2 => LG B w2 d s D' x W (w.heap.size :: G) ∧ Kept G w w2 ∧ Below B w w2) hf ((hc _ rfl).mono (by
    rintro e w1 ⟨rfl, A1, K1, B1⟩
    exact ⟨rfl, (blk_new w [.int .i64 0] 34).block (K1 _ List.mem_cons_self), A1, fun g hg => (K1 g (List.mem_cons_of_mem _ hg)).trans (Below.heap_alloc _ _ _ (hgl g hg)), ((al w _).mono hsz).trans B1⟩))
  have k67' : Calls Try.prog 67 #[.func (.func f) #[] caps] w fun e w' => e = .returned (.int .i64 0) ∧ (LG B w' d s D' x W G ∧ Kept G w w' ∧ Below B w w') ∧ Blk w' x (wlC d W) 111 := k67.mono (by
    rintro e w1 ⟨rfl, w2, ⟨A2, K2, B2⟩, k⟩
    have hnG : w.heap.size ∉ G := fun hm => Nat.lt_irrefl _ (hgl _ hm)
    rcases A2.keepBlk k hsz with ⟨A3, K3⟩ | hm
    · exact ⟨rfl, ⟨A3, fun g hg => (K3 g hg).trans (K2 g hg), B2.trans (k.below (Nat.le_trans hsz B2.size) (fun i e => by omega))⟩, A3.wal⟩
    · exact absurd hm hnG)
  refine (change76 k67' ⟨_, _, _, rfl⟩).mono ?_
  rintro e w1 ⟨rfl, w2, ⟨A2, K2, B2⟩, hb, rfl⟩
  obtain ⟨A3, K3, B3⟩ := A2.turn (o := 5) (v := .bool false) (W2 := W) (by simp [wlC, hbr])
  exact ⟨rfl, A3, fun g hg => (K3 g hg).trans (K2 g hg), B2.trans B3⟩
theorem cf83 (caps : Array Value) : ∀ W, Sem.run Try.prog (callFunc 83 caps) W = .ok (.enter 83 caps) W := fun W => enters_of Try.func83 (by kernel_rfl) rfl caps W
theorem cf81 (caps : Array Value) : ∀ W, Sem.run Try.prog (callFunc 81 caps) W = .ok (.enter 81 caps) W := fun W => enters_of Try.func81 (by kernel_rfl) rfl caps W
theorem append42_range {n c : Nat} {a : Option Addr} (hx : Blk w x (wlC d W) 111) (hbr : W.br = false) (hn : n < 1 ∨ 3648 < n) :
    Calls Try.prog 42 #[.pointer (some ⟨x, 0, none⟩), .slice a n c] w fun e w' => e = .returned (.tuple #[.int .i64 0, .int .i64 2]) ∧ Below w.heap.size w w' := by
  have k78 : ∀ W2, Below w.heap.size w W2 → Calls Try.prog 78 #[.pointer (some ⟨x, 0, none⟩), .slice a n c] W2 fun e w' => e = .returned (.int .i64 2) ∧ w' = W2 := fun W2 k => by
    have := takes78 (hx.below k) a n c
    unfold takesP at this
    rw [hbr, if_neg (by simp), if_pos hn] at this
    exact this
  clear hx
  go_enter Try.func42, Try.ntmps42
  go_wp2_with (go_at_call 78; (refine (k78 _ (bmore (al _ _) (al _ _))).mono ?_; rintro e w1 ⟨rfl, rfl⟩))
  refine bodyPost_ret (v := .tuple #[.int .i64 0, .int .i64 2]) (by simp [results, Try.results42]) rfl ⟨rfl, bmore (al _ _) (al _ _)⟩
theorem append42_full {R n c : Nat} {a : Option Addr} (hA : LG B w d s D x W G) (hbr : W.br = false) (hS : D.secs.length = 2 * R) (hR : R ≤ 64) (hen : W.en ≤ R) (hn : 1 ≤ n ∧ n ≤ 3648) (hf : R - W.en < (n + 56) / 57) :
    Calls Try.prog 42 #[.pointer (some ⟨x, 0, none⟩), .slice a n c] w fun e w' => e = .returned (.tuple #[.int .i64 0, .int .i64 15]) ∧ Below w.heap.size w w' := by
  have k78 : ∀ W2, Below w.heap.size w W2 → Calls Try.prog 78 #[.pointer (some ⟨x, 0, none⟩), .slice a n c] W2 fun e w' => e = .returned (.int .i64 0) ∧ w' = W2 := fun W2 k => by
    have := takes78 (hA.wal.below k) a n c
    unfold takesP at this
    rw [hbr, if_neg (by simp), if_neg (by omega)] at this
    exact this
  have k79 := pieces79 a n c (by omega)
  have b0 := blk_new w [.pointer (some ⟨x, 0, none⟩)] 57
  have b1 := blk_new (w.alloc (.cells #[.pointer (some ⟨x, 0, none⟩)] 57)) [.slice a n c] 33
  have kd : Below w.heap.size w ((w.alloc (.cells #[.pointer (some ⟨x, 0, none⟩)] 57)).alloc (.cells #[.slice a n c] 33)).drew := bmore (bmore (al _ _) (al _ _)) (Below.refl _ _).drew
  have e0 := ((b0.below (al _ (.cells #[.slice a n c] 33))).below (Below.refl _ _).drew).cell 0
  have e1 := (b1.below (Below.refl _ _).drew).cell 0
  simp only [World.size_alloc, List.getElem?_cons_zero] at e0 e1
  have k47 := left47 (hA.below kd).disk (hA.wal.below kd) hS hR hen
  have hlt : ((R - W.en : Nat) : Int) < (((n + 56) / 57 : Nat) : Int) := by omega
  have hlt2 : R - W.en < (n + 56) / 57 := by omega
  clear b0 b1 kd hA hS hf
  generalize (n + 56) / 57 = np at *
  generalize R - W.en = lf at *
  go_enter Try.func42, Try.ntmps42
  go_wp2_with (go_at_call 78; (refine (k78 _ (bmore (al _ _) (al _ _))).mono ?_; rintro e w1 ⟨rfl, rfl⟩))
  go_region_held3 (fun W2 => W2.cell? ⟨w.heap.size, 0, none⟩ = some (.pointer (some ⟨x, 0, none⟩)) ∧ W2.cell? ⟨w.heap.size + 1, 0, none⟩ = some (.slice a n c)) (exact ⟨e0, e1⟩) (first
    | (go_at_call 79; (refine (k79 _).mono ?_; rintro e w1 ⟨rfl, rfl⟩))
    | (go_at_call 47; (refine k47.mono ?_; rintro e w1 ⟨rfl, rfl⟩)))
  go_wp2
  refine bodyPost_ret (v := .tuple #[.int .i64 0, .int .i64 15]) (by simp [results, Try.results42]) rfl ⟨rfl, bmore (bmore (al _ _) (al _ _)) (Below.refl _ _).drew.drew⟩
set_option maxHeartbeats 1000000 in
theorem append42_ok {R n c : Nat} {a : Option Addr} {l : Bs} (hA : LG B w d s D x W G) (hbr : W.br = false) (hcut : D.cut = false) (hoff : D.off = false) (hw : D.wait.length ≤ 50000) (hS : D.secs.length = 2 * R) (hR : R ≤ 64) (hh : W.half = 0 ∨ W.half = 1) (he : W.e < 65536) (hcn : W.cnt < 100000) (hlv : LV EB w (.slice a n c) l) (hl0 : 0 < l.length) (hl : l.length ≤ 3648) (hag : ∀ g o, a = some ⟨g, o, none⟩ → g ∈ G) (hfit : W.en + np l ≤ R) :
    Calls Try.prog 42 #[.pointer (some ⟨x, 0, none⟩), .slice a n c] w fun e w' => e = .returned (.tuple #[.int .i64 (W.cnt : Int), .int .i64 0]) ∧ LG B w' d s (D.more (W.half * R + W.en) (layP W.e W.en l)) x ⟨W.half, W.e, W.cnt + 1, W.en + np l, false⟩ G ∧ Kept G w w' ∧ Below B w w' := by
  obtain ⟨_, _, hv0⟩ := hlv.form
  have hnl : n = l.length := by simp only [Value.slice.injEq] at hv0; exact hv0.2.1
  clear hv0
  have hnp : (n + 56) / 57 = np l := by rw [hnl]; rfl
  have k78 : ∀ W2, Below w.heap.size w W2 → Calls Try.prog 78 #[.pointer (some ⟨x, 0, none⟩), .slice a n c] W2 fun e w' => e = .returned (.int .i64 0) ∧ w' = W2 := fun W2 k => by
    have := takes78 (hA.wal.below k) a n c
    unfold takesP at this
    rw [hbr, if_neg (by simp), if_neg (by omega)] at this
    exact this
  have k79 := pieces79 a n c (by omega)
  rw [hnp] at k79
  have b0 := blk_new w [.pointer (some ⟨x, 0, none⟩)] 57
  have b1 := blk_new (w.alloc (.cells #[.pointer (some ⟨x, 0, none⟩)] 57)) [.slice a n c] 33
  have A2 := ((hA.new (.cells #[.pointer (some ⟨x, 0, none⟩)] 57)).new (.cells #[.slice a n c] 33)).below (Below.refl _ _).drew.drew
  have kd : Below w.heap.size w ((w.alloc (.cells #[.pointer (some ⟨x, 0, none⟩)] 57)).alloc (.cells #[.slice a n c] 33)).drew.drew := bmore (bmore (al _ _) (al _ _)) (Below.refl _ _).drew.drew
  have kd1 : Below w.heap.size w ((w.alloc (.cells #[.pointer (some ⟨x, 0, none⟩)] 57)).alloc (.cells #[.slice a n c] 33)).drew := bmore (bmore (al _ _) (al _ _)) (Below.refl _ _).drew
  have c0 := (b0.below (al _ (.cells #[.slice a n c] 33))).below (Below.refl _ _).drew.drew
  have c1 := b1.below (Below.refl _ _).drew.drew
  have e0 := c0.cell 0
  have e1 := c1.cell 0
  simp only [World.size_alloc, List.getElem?_cons_zero] at e0 e1 c1 A2
  have k47 := left47 (hA.below kd1).disk (hA.wal.below kd1) hS hR (by omega)
  have hlv2 := hlv.below kd
  have hbz := hA.size
  have HKG : Hid (∀ g ∈ G, g < w.heap.size) := hA.glt
  have hxl := hA.wal.lt
  clear b0 b1 hA hlv hnp
  obtain ⟨V, hV⟩ : ∃ V, ((w.alloc (.cells #[.pointer (some ⟨x, 0, none⟩)] 57)).alloc (.cells #[.slice a n c] 33)).drew.drew = V := ⟨_, rfl⟩
  have k76 := change_lit (f := 83) (caps := #[.pointer (some ⟨w.heap.size, 0, none⟩), .pointer (some ⟨w.heap.size + 1, 0, none⟩)]) (D' := D.more (W.half * R + W.en) (layP W.e W.en l)) (cf83 _) A2 hbr (fun r hr => by
    subst hr
    exact append83 (R := R) (A2.new _) (c0.below (al _ _)) (c1.below (al _ _)) (by simp) (by simp) hcut hoff hw hS hR hh he (hlv2.below (al _ _)) hl0 hl (fun g o hg => by simp [hag g o hg]) hfit)
  have hle : ¬ ((R - W.en : Nat) : Int) < ((np l : Nat) : Int) := by omega
  have hle2 : ¬ R - W.en < np l := by omega
  have hmf : ∀ (fn : Fn) (first cap : Array Value) (w : World), (Instr.makeFunc fn first cap).run Try.prog w = .ok (.func fn first cap) w := fun _ _ _ _ => rfl
  have HFIN : Hid (∀ w3, LG B w3 d s (D.more (W.half * R + W.en) (layP W.e W.en l)) x W ((w.heap.size + 1) :: w.heap.size :: G) → Kept ((w.heap.size + 1) :: w.heap.size :: G) V w3 → Below B V w3 → ∀ i j : Int, i = ((W.cnt + 1 : Nat) : Int) → j = ((W.en + np l : Nat) : Int) →
      LG B ((w3.setCell ⟨x, 3, none⟩ (.int .i64 i)).setCell ⟨x, 4, none⟩ (.int .i64 j)) d s (D.more (W.half * R + W.en) (layP W.e W.en l)) x ⟨W.half, W.e, W.cnt + 1, W.en + np l, false⟩ G ∧ Kept G w ((w3.setCell ⟨x, 3, none⟩ (.int .i64 i)).setCell ⟨x, 4, none⟩ (.int .i64 j)) ∧ Below B w ((w3.setCell ⟨x, 3, none⟩ (.int .i64 i)).setCell ⟨x, 4, none⟩ (.int .i64 j))) := by
    rintro w3 A3 K3 B3 i j rfl rfl
    obtain ⟨A4, K4, B4⟩ := A3.turn (o := 3) (v := .int .i64 ((W.cnt + 1 : Nat) : Int)) (W2 := ⟨W.half, W.e, W.cnt + 1, W.en, false⟩) (by simp [wlC, hbr])
    obtain ⟨A5, K5, B5⟩ := A4.turn (o := 4) (v := .int .i64 ((W.en + np l : Nat) : Int)) (W2 := ⟨W.half, W.e, W.cnt + 1, W.en + np l, false⟩) (by simp [wlC])
    refine ⟨A5.less (fun g hg => by simp [hg]), fun g hg => ?_, ?_⟩
    · have h1 : g ∈ (w.heap.size + 1) :: w.heap.size :: G := by simp [hg]
      exact (((K5 g h1).trans (K4 g h1)).trans (K3 g h1)).trans (by rw [← hV]; exact kd.block g (HKG.out g hg))
    · exact (((kd.mono hbz).trans (by rw [hV]; exact B3)).trans B4).trans B5
  have hwc : IntKind.i64.wrap ((W.cnt : Int) + 1) = ((W.cnt + 1 : Nat) : Int) := by rw [wrap_small _ (by omega) (by omega)]; omega
  have hnp64 : np l ≤ 64 := by unfold np; omega
  have hwe : IntKind.i64.wrap ((W.en : Int) + ((np l : Nat) : Int)) = ((W.en + np l : Nat) : Int) := by
    rw [wrap_small _ (by omega) (by omega)]; omega
  clear hnp64
  have hwd : IntKind.i64.wrap (((W.cnt + 1 : Nat) : Int) - 1) = (W.cnt : Int) := by rw [wrap_small _ (by omega) (by omega)]; omega
  have HC : Hid (∀ w3, Kept ((w.heap.size + 1) :: w.heap.size :: G) V w3 → Blk w3 w.heap.size [.pointer (some ⟨x, 0, none⟩)] 57 ∧ Blk w3 (w.heap.size + 1) [.slice a n c] 33) := fun w3 K3 => by
    rw [hV] at c0 c1
    exact ⟨c0.block (K3 _ (by simp)), c1.block (K3 _ (by simp))⟩
  have hn1 : ¬ x = w.heap.size := by omega
  have hn2 : ¬ x = w.heap.size + 1 := by omega
  have hn3 : ¬ w.heap.size = x := by omega
  have hn4 : ¬ w.heap.size + 1 = x := by omega
  have HV : Hid ((((w.alloc (.cells #[.pointer (some ⟨x, 0, none⟩)] 57)).alloc (.cells #[.slice a n c] 33)).drew.drew) = V) := hV
  have HW0 : Hid (wrap64 (W.cnt : Int) = (W.cnt : Int)) := by show _ = _; unfold wrap64; omega
  clear c0 c1 A2 kd kd1 hlv2 hn1 hn2 hV hbr hcut hoff hw hS hR hh he hcn hl0 hl hag hfit hnl hxl hbz
  generalize np l = m at *
  generalize R - W.en = lf at *
  go_enter Try.func42, Try.ntmps42
  go_wp2_with (go_at_call 78; (refine (k78 _ (bmore (al _ _) (al _ _))).mono ?_; rintro e w1 ⟨rfl, rfl⟩))
  go_region_held3 (fun W2 => W2.cell? ⟨w.heap.size, 0, none⟩ = some (.pointer (some ⟨x, 0, none⟩)) ∧ W2.cell? ⟨w.heap.size + 1, 0, none⟩ = some (.slice a n c)) (exact ⟨e0, e1⟩) (first
    | (go_at_call 79; (refine (k79 _).mono ?_; rintro e w1 ⟨rfl, rfl⟩))
    | (go_at_call 47; (refine k47.mono ?_; rintro e w1 ⟨rfl, rfl⟩)))
  go_wp2_with (go_at_call 76; (refine k76.mono ?_; rintro e w3 ⟨rfl, A3, K3, B3⟩; obtain ⟨d0, d1⟩ := HC.out w3 (by rw [← HV.out]; exact K3); have f0 := d0.cell 0; have f1 := d1.cell 0; have x3 := A3.wal.cell 3; have x4 := A3.wal.cell 4; have z3 := A3.wal.frozen 3; have z4 := A3.wal.frozen 4; simp only [wlC, List.getElem?_cons_zero, List.getElem?_cons_succ] at f0 f1 x3 x4))
  have HF := HFIN.out w3 A3 (by rw [← HV.out]; exact K3) (by rw [← HV.out]; exact B3) ((W.cnt : Int) + 1) ((W.en : Int) + (m : Int)) (by omega) (by omega)
  have g0 := (d0.other (p := ⟨x, 3, none⟩) (by simpa using hn3) (.int .i64 ((W.cnt : Int) + 1))).cell 0
  have g1 := (d1.other (p := ⟨x, 3, none⟩) (by simpa using hn4) (.int .i64 ((W.cnt : Int) + 1))).cell 0
  have g3 := (A3.wal.set (o := 3) (.int .i64 ((W.cnt : Int) + 1)))
  have g4 := g3.cell 4
  have g5 := g3.frozen 4
  have g6 := (g3.set (o := 4) (.int .i64 ((W.en : Int) + (m : Int)))).cell 3
  have g7 := ((d0.other (p := ⟨x, 3, none⟩) (by simpa using hn3) (.int .i64 ((W.cnt : Int) + 1))).other (p := ⟨x, 4, none⟩) (by simpa using hn3) (.int .i64 ((W.en : Int) + (m : Int)))).cell 0
  simp only [wlC, List.set_cons_succ, List.set_cons_zero, List.getElem?_cons_zero, List.getElem?_cons_succ] at g0 g1 g4 g6 g7
  clear g3 d0 d1 A3 K3 B3 f0 f1 x3 x4 z3 z4
  generalize w3.setCell ⟨x, 3, none⟩ (.int .i64 ((W.cnt : Int) + 1)) = w4 at *
  go_region_law (first
    | (go_simp; (with_reducible refine Calls.mono (k79 _) ?_); rintro e w5 ⟨rfl, rfl⟩))
  all_goals go_wp2
  all_goals exact bodyPost_ret (v := .tuple #[.int .i64 (W.cnt : Int), .int .i64 0]) (by simp [results, Try.results42]; try exact HW0.out) rfl ⟨rfl, HF.1.below (Below.refl _ _).drew, fun g hg => HF.2.1 g hg, HF.2.2.trans (Below.refl _ _).drew⟩
end Go.Proofs.Ytnganmekiloigaa
