/- Append, on a calm disk. · Append, on a calm disk. · Switch, on a calm disk. · Switch that is done, on a calm disk. -/
import Derived.Test.YtnganmekiloigaaHg
/-! ### Append, on a calm disk. -/
namespace Go.Proofs.Ytnganmekiloigaa
open Go.RowKit
set_option maxRecDepth 100000
variable {w w' : World} {B d s x : Nat} {D : Dk} {W : Wl} {G : List Nat}
theorem LG.below (h : LG B w d s D x W G) (k : Below w.heap.size w w') : LG B w' d s D x W G := ⟨h.disk.below k, h.wal.below k, h.nx, h.bx⟩
theorem LG.new (h : LG B w d s D x W G) (o : Obj) : LG B (w.alloc o) d s D x W (w.heap.size :: G) := by
  refine ⟨(h.disk.new o).less (fun g hg => ?_), h.wal.below (al w o), fun hm => ?_, h.bx⟩
  · simp only [List.mem_cons] at hg ⊢
    rcases hg with rfl | rfl | hg
    · exact .inr (.inl rfl)
    · exact .inl rfl
    · exact .inr (.inr hg)
  · rcases List.mem_cons.1 hm with e | hm
    · have := h.wal.lt; omega
    · exact h.nx hm
theorem LG.less {G' : List Nat} (h : LG B w d s D x W G) (hG : ∀ g ∈ G', g ∈ G) : LG B w d s D x W G' := ⟨h.disk.less (fun g hg => by rcases List.mem_cons.1 hg with rfl | hg; exact List.mem_cons_self; exact List.mem_cons_of_mem _ (hG g hg)), h.wal, fun hm => h.nx (hG x hm), h.bx⟩
theorem LG.glt (h : LG B w d s D x W G) : ∀ g ∈ G, g < w.heap.size := fun g hg => by obtain ⟨_, _, h2, _⟩ := h.disk; exact (h2 g (List.mem_cons_of_mem _ hg)).2
theorem LG.size (h : LG B w d s D x W G) : B ≤ w.heap.size := by obtain ⟨_, _, _, _, h2⟩ := h.disk; exact h2
theorem LG.alone (h : LG B w d s D x W G) : Alone B w d s D G := h.disk.less (fun _ hg => List.mem_cons_of_mem _ hg)
/-- Cells of the log are turned. -/
theorem LG.turn (h : LG B w d s D x W G) {o : Nat} {v : Value} {W2 : Wl} (e : (wlC d W).set o v = wlC d W2) : LG B (w.setCell ⟨x, o, none⟩ v) d s D x W2 G ∧ Kept G w (w.setCell ⟨x, o, none⟩ v) ∧ Below B w (w.setCell ⟨x, o, none⟩ v) := by
  have kk : Keep (fun b => b = x) w (w.setCell ⟨x, o, none⟩ v) := (Keep.refl (fun b => b = x) w).set (.inr rfl) _
  refine ⟨⟨h.disk.keepOne kk, ?_, h.nx, h.bx⟩, fun g hg => Below.heap_setCell _ _ _ _ (fun e => h.nx (by rw [← show g = x from e]; exact hg)), bset (Below.refl _ _) h.bx _⟩
  have := h.wal.set (o := o) v
  rw [e] at this
  exact this
/-- A block that is neither the log's nor the disk's. -/
theorem LG.keepBlk {g : Nat} (h : LG B w d s D x W (g :: G)) (k : Keep (fun b => b = g) w w') (hB : B ≤ g) : LG B w' d s D x W G ∧ Kept G w w' ∨ g ∈ G := by
  by_cases hg : g ∈ G
  · exact .inr hg
  have hxg : x ≠ g := fun e => h.nx (by rw [e]; exact List.mem_cons_self)
  refine .inl ⟨⟨(Alone.keepOne (g := g) (G := x :: G) (h.disk.less (fun g' hg' => ?_)) k).less (fun g' hg' => List.mem_cons_of_mem _ hg'), h.wal.block (k.block x h.wal.lt hxg), fun hm => h.nx (List.mem_cons_of_mem _ hm), h.bx⟩, fun g' hg' => k.block g' (h.glt g' (List.mem_cons_of_mem _ hg')) (fun e => hg (e ▸ hg'))⟩
  simp only [List.mem_cons] at hg' ⊢
  rcases hg' with rfl | rfl | hg'
  · exact .inr (.inl rfl)
  · exact .inl rfl
  · exact .inr (.inr hg')
theorem left47 {R : Nat} (h : Alone B w d s D G) (hx : Blk w x (wlC d W) 111) (hR : D.secs.length = 2 * R) (hR2 : R ≤ 64) (hen : W.en ≤ R) : Calls Try.prog 47 #[.pointer (some ⟨x, 0, none⟩)] w fun e w' => e = .returned (.int .i64 ((R - W.en : Nat) : Int)) ∧ w' = w.drew := by
  have k80 := room80 (h.below (Below.refl _ w).drew) (hx.below (Below.refl _ w).drew) hR hR2
  have y4 : w.cell? ⟨x, 4, none⟩ = some (.int .i64 (W.en : Int)) := hx.cell 4
  have e1 : (R : Int) - (W.en : Int) = ((R - W.en : Nat) : Int) := by omega
  clear h hx hR
  have H : Hid ((R - W.en : Nat) < 1000) := by show _ < _; omega
  generalize (R - W.en : Nat) = m at *
  generalize W.en = n at *
  clear hen
  have hw : IntKind.i64.wrap ((R : Int) - (n : Int)) = (m : Int) := by rw [e1]; exact wrap_small _ (by omega) (by have := H.out; omega)
  clear e1
  go_enter Try.func47, Try.ntmps47
  go_wp2_with fail
  go_region_held3 (fun W' => W'.cell? ⟨x, 4, none⟩ = some (.int .i64 (n : Int))) (exact y4) ((go_at_call 80; refine k80.mono ?_; rintro e w1 ⟨rfl, rfl⟩))
  go_wp2
  go_ret
  exact ⟨rfl, rfl⟩
theorem broken49 (hx : Blk w x (wlC d W) 111) : Calls Try.prog 49 #[.pointer (some ⟨x, 0, none⟩)] w fun e w' => e = .returned (.bool W.br) ∧ w' = w := by
  have y : w.cell? ⟨x, 5, none⟩ = some (.bool W.br) := hx.cell 5
  clear hx
  go_enter Try.func49, Try.ntmps49
  go_wp2
  go_ret
  exact ⟨rfl, rfl⟩
theorem append83 {R n c q0 q1 : Nat} {a : Option Addr} {l : Bs} (hA : LG B w d s D x W G) (hq0 : Blk w q0 [.pointer (some ⟨x, 0, none⟩)] 57) (hq1 : Blk w q1 [.slice a n c] 33) (h0 : q0 ∈ G) (h1 : q1 ∈ G) (hcut : D.cut = false) (hoff : D.off = false) (hw : D.wait.length ≤ 50000) (hS : D.secs.length = 2 * R) (hR : R ≤ 64) (hh : W.half = 0 ∨ W.half = 1) (he : W.e < 65536) (hlv : LV EB w (.slice a n c) l) (hl0 : 0 < l.length) (hl : l.length ≤ 3648) (hag : ∀ g o, a = some ⟨g, o, none⟩ → g ∈ G) (hfit : W.en + np l ≤ R) :
    Calls Try.prog 83 #[.pointer (some ⟨q0, 0, none⟩), .pointer (some ⟨q1, 0, none⟩)] w fun e w' => e = .returned (.tuple #[]) ∧ LG B w' d s (D.more (W.half * R + W.en) (layP W.e W.en l)) x W G ∧ Kept G w w' ∧ Below B w w' := by
  have kd := (Below.refl w.heap.size w).drew
  have k82 := write82 (hA.below kd) hcut hoff hw hS hR hh he (hlv.below kd) hl0 hl hag (fun g hg => by simpa using hA.glt g hg) hfit
  have HK : Hid (∀ W2, Kept G w.drew W2 → Blk W2 x (wlC d W) 111 → W2.cell? ⟨q0, 0, none⟩ = some (.pointer (some ⟨x, 0, none⟩)) ∧ W2.cell? ⟨q1, 0, none⟩ = some (.slice a n c) ∧ W2.cell? ⟨x, 1, none⟩ = some (.int .i64 (W.half : Int)) ∧ W2.cell? ⟨x, 4, none⟩ = some (.int .i64 (W.en : Int))) := fun W2 k hb => ⟨((hq0.below kd).block (k q0 h0)).cell 0, ((hq1.below kd).block (k q1 h1)).cell 0, hb.cell 1, hb.cell 4⟩
  have hs0 := HK.out w.drew (fun _ _ => rfl) (hA.wal.below kd)
  clear hq0 hq1 hlv hA hh
  go_enter Try.func83, Try.ntmps83
  go_region_held3 (fun W2 => W2.cell? ⟨q0, 0, none⟩ = some (.pointer (some ⟨x, 0, none⟩)) ∧ W2.cell? ⟨q1, 0, none⟩ = some (.slice a n c) ∧ W2.cell? ⟨x, 1, none⟩ = some (.int .i64 (W.half : Int)) ∧ W2.cell? ⟨x, 4, none⟩ = some (.int .i64 (W.en : Int))) (first | exact hs0 | exact hs1) ((go_at_call 82; refine k82.mono ?_; rintro e w1 ⟨rfl, A1, K1, B1⟩; have hs1 := HK.out w1 K1 A1.wal))
  go_end0
  exact ⟨rfl, A1, K1, ((Below.refl B w).drew).trans B1⟩
end Go.Proofs.Ytnganmekiloigaa
/-! ### Append, on a calm disk. -/
namespace Go.Proofs.Ytnganmekiloigaa
open Go.RowKit
set_option maxRecDepth 100000
variable {w w' : World} {B d s x : Nat} {D : Dk} {W : Wl} {G : List Nat}
/-- change of what is done by a closure that turns the disk. -/
theorem change_lit {f : Nat} {caps : Array Value} {D' : Dk} (hf : ∀ W, Sem.run Try.prog (callFunc f caps) W = .ok (.enter f caps) W) (hA : LG B w d s D x W G) (hbr : W.br = false)
    (hc : ∀ r, r = w.heap.size → Calls Try.prog f caps (w.alloc (.cells #[.int .i64 0] 34)) fun e w' => e = .returned (.tuple #[]) ∧ LG B w' d s D' x W (r :: G) ∧ Kept (r :: G) (w.alloc (.cells #[.int .i64 0] 34)) w' ∧ Below B (w.alloc (.cells #[.int .i64 0] 34)) w') :
    Calls Try.prog 76 #[.pointer (some ⟨x, 0, none⟩), .func (.func f) #[] caps] w fun e w' => e = .returned (.int .i64 0) ∧ LG B w' d s D' x W G ∧ Kept G w w' ∧ Below B w w' := by
  have hsz := hA.size
  have hgl := hA.glt
  have hxl := hA.wal.lt
  have k67 := attempt_ok (w := w) (Q := fun w2 => LG B w2 d s D' x W (w.heap.size :: G) ∧ Kept G w w2 ∧ Below B w w2) hf ((hc _ rfl).mono (by
    rintro e w1 ⟨rfl, A1, K1, B1⟩
    exact ⟨rfl, (blk_new w [.int .i64 0] 34).block (K1 _ List.mem_cons_self), A1, fun g hg => (K1 g (List.mem_cons_of_mem _ hg)).trans (Below.heap_alloc _ _ _ (hgl g hg)), ((al w _).mono hsz).trans B1⟩))
  have k67' : Calls Try.prog 67 #[.func (.func f) #[] caps] w fun e w' => e = .returned (.int .i64 0) ∧ (LG B w' d s D' x W G ∧ Kept G w w' ∧ Below B w w') ∧ Blk w' x (wlC d W) 111 := k67.mono (by
    rintro e w1 ⟨rfl, w2, ⟨A2, K2, B2⟩, k⟩
    have hnG : w.heap.size ∉ G := fun hm => Nat.lt_irrefl _ (hgl _ hm)
    rcases A2.keepBlk k hsz with ⟨A3, K3⟩ | hm
    · exact ⟨rfl, ⟨A3, fun g hg => (K3 g hg).trans (K2 g hg), B2.trans (k.below (Nat.le_trans hsz B2.size) (fun i e => by omega))⟩, A3.wal⟩
    · exact absurd hm hnG)
  refine (change76 k67' ⟨_, _, _, rfl⟩).mono ?_
  rintro e w1 ⟨rfl, w2, ⟨A2, K2, B2⟩, hb, rfl⟩
  obtain ⟨A3, K3, B3⟩ := A2.turn (o := 5) (v := .bool false) (W2 := W) (by simp [wlC, hbr])
  exact ⟨rfl, A3, fun g hg => (K3 g hg).trans (K2 g hg), B2.trans B3⟩
theorem cf83 (caps : Array Value) : ∀ W, Sem.run Try.prog (callFunc 83 caps) W = .ok (.enter 83 caps) W := fun W => enters_of Try.func83 (by kernel_rfl) rfl caps W
theorem cf81 (caps : Array Value) : ∀ W, Sem.run Try.prog (callFunc 81 caps) W = .ok (.enter 81 caps) W := fun W => enters_of Try.func81 (by kernel_rfl) rfl caps W
theorem append42_range {n c : Nat} {a : Option Addr} (hx : Blk w x (wlC d W) 111) (hbr : W.br = false) (hn : n < 1 ∨ 3648 < n) :
    Calls Try.prog 42 #[.pointer (some ⟨x, 0, none⟩), .slice a n c] w fun e w' => e = .returned (.tuple #[.int .i64 0, .int .i64 2]) ∧ Below w.heap.size w w' := by
  have k78 : ∀ W2, Below w.heap.size w W2 → Calls Try.prog 78 #[.pointer (some ⟨x, 0, none⟩), .slice a n c] W2 fun e w' => e = .returned (.int .i64 2) ∧ w' = W2 := fun W2 k => by
    have := takes78 (hx.below k) a n c
    unfold takesP at this
    rw [hbr, if_neg (by simp), if_pos hn] at this
    exact this
  clear hx
  go_enter Try.func42, Try.ntmps42
  go_wp2_with (go_at_call 78; (refine (k78 _ (bmore (al _ _) (al _ _))).mono ?_; rintro e w1 ⟨rfl, rfl⟩))
  refine bodyPost_ret (v := .tuple #[.int .i64 0, .int .i64 2]) (by simp [results, Try.results42]) rfl ⟨rfl, bmore (al _ _) (al _ _)⟩
theorem append42_full {R n c : Nat} {a : Option Addr} (hA : LG B w d s D x W G) (hbr : W.br = false) (hS : D.secs.length = 2 * R) (hR : R ≤ 64) (hen : W.en ≤ R) (hn : 1 ≤ n ∧ n ≤ 3648) (hf : R - W.en < (n + 56) / 57) :
    Calls Try.prog 42 #[.pointer (some ⟨x, 0, none⟩), .slice a n c] w fun e w' => e = .returned (.tuple #[.int .i64 0, .int .i64 15]) ∧ Below w.heap.size w w' := by
  have k78 : ∀ W2, Below w.heap.size w W2 → Calls Try.prog 78 #[.pointer (some ⟨x, 0, none⟩), .slice a n c] W2 fun e w' => e = .returned (.int .i64 0) ∧ w' = W2 := fun W2 k => by
    have := takes78 (hA.wal.below k) a n c
    unfold takesP at this
    rw [hbr, if_neg (by simp), if_neg (by omega)] at this
    exact this
  have k79 := pieces79 a n c (by omega)
  have b0 := blk_new w [.pointer (some ⟨x, 0, none⟩)] 57
  have b1 := blk_new (w.alloc (.cells #[.pointer (some ⟨x, 0, none⟩)] 57)) [.slice a n c] 33
  have kd : Below w.heap.size w ((w.alloc (.cells #[.pointer (some ⟨x, 0, none⟩)] 57)).alloc (.cells #[.slice a n c] 33)).drew := bmore (bmore (al _ _) (al _ _)) (Below.refl _ _).drew
  have e0 := ((b0.below (al _ (.cells #[.slice a n c] 33))).below (Below.refl _ _).drew).cell 0
  have e1 := (b1.below (Below.refl _ _).drew).cell 0
  simp only [World.size_alloc, List.getElem?_cons_zero] at e0 e1
  have k47 := left47 (hA.below kd).disk (hA.wal.below kd) hS hR hen
  have hlt : ((R - W.en : Nat) : Int) < (((n + 56) / 57 : Nat) : Int) := by omega
  have hlt2 : R - W.en < (n + 56) / 57 := by omega
  clear b0 b1 kd hA hS hf
  generalize (n + 56) / 57 = np at *
  generalize R - W.en = lf at *
  go_enter Try.func42, Try.ntmps42
  go_wp2_with (go_at_call 78; (refine (k78 _ (bmore (al _ _) (al _ _))).mono ?_; rintro e w1 ⟨rfl, rfl⟩))
  go_region_held3 (fun W2 => W2.cell? ⟨w.heap.size, 0, none⟩ = some (.pointer (some ⟨x, 0, none⟩)) ∧ W2.cell? ⟨w.heap.size + 1, 0, none⟩ = some (.slice a n c)) (exact ⟨e0, e1⟩) (first
    | (go_at_call 79; (refine (k79 _).mono ?_; rintro e w1 ⟨rfl, rfl⟩))
    | (go_at_call 47; (refine k47.mono ?_; rintro e w1 ⟨rfl, rfl⟩)))
  go_wp2
  refine bodyPost_ret (v := .tuple #[.int .i64 0, .int .i64 15]) (by simp [results, Try.results42]) rfl ⟨rfl, bmore (bmore (al _ _) (al _ _)) (Below.refl _ _).drew.drew⟩
set_option maxHeartbeats 1000000 in
theorem append42_ok {R n c : Nat} {a : Option Addr} {l : Bs} (hA : LG B w d s D x W G) (hbr : W.br = false) (hcut : D.cut = false) (hoff : D.off = false) (hw : D.wait.length ≤ 50000) (hS : D.secs.length = 2 * R) (hR : R ≤ 64) (hh : W.half = 0 ∨ W.half = 1) (he : W.e < 65536) (hcn : W.cnt < 100000) (hlv : LV EB w (.slice a n c) l) (hl0 : 0 < l.length) (hl : l.length ≤ 3648) (hag : ∀ g o, a = some ⟨g, o, none⟩ → g ∈ G) (hfit : W.en + np l ≤ R) :
    Calls Try.prog 42 #[.pointer (some ⟨x, 0, none⟩), .slice a n c] w fun e w' => e = .returned (.tuple #[.int .i64 (W.cnt : Int), .int .i64 0]) ∧ LG B w' d s (D.more (W.half * R + W.en) (layP W.e W.en l)) x ⟨W.half, W.e, W.cnt + 1, W.en + np l, false⟩ G ∧ Kept G w w' ∧ Below B w w' := by
  obtain ⟨_, _, hv0⟩ := hlv.form
  have hnl : n = l.length := by simp only [Value.slice.injEq] at hv0; exact hv0.2.1
  clear hv0
  have hnp : (n + 56) / 57 = np l := by rw [hnl]; rfl
  have k78 : ∀ W2, Below w.heap.size w W2 → Calls Try.prog 78 #[.pointer (some ⟨x, 0, none⟩), .slice a n c] W2 fun e w' => e = .returned (.int .i64 0) ∧ w' = W2 := fun W2 k => by
    have := takes78 (hA.wal.below k) a n c
    unfold takesP at this
    rw [hbr, if_neg (by simp), if_neg (by omega)] at this
    exact this
  have k79 := pieces79 a n c (by omega)
  rw [hnp] at k79
  have b0 := blk_new w [.pointer (some ⟨x, 0, none⟩)] 57
  have b1 := blk_new (w.alloc (.cells #[.pointer (some ⟨x, 0, none⟩)] 57)) [.slice a n c] 33
  have A2 := ((hA.new (.cells #[.pointer (some ⟨x, 0, none⟩)] 57)).new (.cells #[.slice a n c] 33)).below (Below.refl _ _).drew.drew
  have kd : Below w.heap.size w ((w.alloc (.cells #[.pointer (some ⟨x, 0, none⟩)] 57)).alloc (.cells #[.slice a n c] 33)).drew.drew := bmore (bmore (al _ _) (al _ _)) (Below.refl _ _).drew.drew
  have kd1 : Below w.heap.size w ((w.alloc (.cells #[.pointer (some ⟨x, 0, none⟩)] 57)).alloc (.cells #[.slice a n c] 33)).drew := bmore (bmore (al _ _) (al _ _)) (Below.refl _ _).drew
  have c0 := (b0.below (al _ (.cells #[.slice a n c] 33))).below (Below.refl _ _).drew.drew
  have c1 := b1.below (Below.refl _ _).drew.drew
  have e0 := c0.cell 0
  have e1 := c1.cell 0
  simp only [World.size_alloc, List.getElem?_cons_zero] at e0 e1 c1 A2
  have k47 := left47 (hA.below kd1).disk (hA.wal.below kd1) hS hR (by omega)
  have hlv2 := hlv.below kd
  have hbz := hA.size
  have HKG : Hid (∀ g ∈ G, g < w.heap.size) := hA.glt
  have hxl := hA.wal.lt
  clear b0 b1 hA hlv hnp
  obtain ⟨V, hV⟩ : ∃ V, ((w.alloc (.cells #[.pointer (some ⟨x, 0, none⟩)] 57)).alloc (.cells #[.slice a n c] 33)).drew.drew = V := ⟨_, rfl⟩
  have k76 := change_lit (f := 83) (caps := #[.pointer (some ⟨w.heap.size, 0, none⟩), .pointer (some ⟨w.heap.size + 1, 0, none⟩)]) (D' := D.more (W.half * R + W.en) (layP W.e W.en l)) (cf83 _) A2 hbr (fun r hr => by
    subst hr
    exact append83 (R := R) (A2.new _) (c0.below (al _ _)) (c1.below (al _ _)) (by simp) (by simp) hcut hoff hw hS hR hh he (hlv2.below (al _ _)) hl0 hl (fun g o hg => by simp [hag g o hg]) hfit)
  have hle : ¬ ((R - W.en : Nat) : Int) < ((np l : Nat) : Int) := by omega
  have hle2 : ¬ R - W.en < np l := by omega
  have hmf : ∀ (fn : Fn) (first cap : Array Value) (w : World), (Instr.makeFunc fn first cap).run Try.prog w = .ok (.func fn first cap) w := fun _ _ _ _ => rfl
  have HFIN : Hid (∀ w3, LG B w3 d s (D.more (W.half * R + W.en) (layP W.e W.en l)) x W ((w.heap.size + 1) :: w.heap.size :: G) → Kept ((w.heap.size + 1) :: w.heap.size :: G) V w3 → Below B V w3 → ∀ i j : Int, i = ((W.cnt + 1 : Nat) : Int) → j = ((W.en + np l : Nat) : Int) →
      LG B ((w3.setCell ⟨x, 3, none⟩ (.int .i64 i)).setCell ⟨x, 4, none⟩ (.int .i64 j)) d s (D.more (W.half * R + W.en) (layP W.e W.en l)) x ⟨W.half, W.e, W.cnt + 1, W.en + np l, false⟩ G ∧ Kept G w ((w3.setCell ⟨x, 3, none⟩ (.int .i64 i)).setCell ⟨x, 4, none⟩ (.int .i64 j)) ∧ Below B w ((w3.setCell ⟨x, 3, none⟩ (.int .i64 i)).setCell ⟨x, 4, none⟩ (.int .i64 j))) := by
    rintro w3 A3 K3 B3 i j rfl rfl
    obtain ⟨A4, K4, B4⟩ := A3.turn (o := 3) (v := .int .i64 ((W.cnt + 1 : Nat) : Int)) (W2 := ⟨W.half, W.e, W.cnt + 1, W.en, false⟩) (by simp [wlC, hbr])
    obtain ⟨A5, K5, B5⟩ := A4.turn (o := 4) (v := .int .i64 ((W.en + np l : Nat) : Int)) (W2 := ⟨W.half, W.e, W.cnt + 1, W.en + np l, false⟩) (by simp [wlC])
    refine ⟨A5.less (fun g hg => by simp [hg]), fun g hg => ?_, ?_⟩
    · have h1 : g ∈ (w.heap.size + 1) :: w.heap.size :: G := by simp [hg]
      exact (((K5 g h1).trans (K4 g h1)).trans (K3 g h1)).trans (by rw [← hV]; exact kd.block g (HKG.out g hg))
    · exact (((kd.mono hbz).trans (by rw [hV]; exact B3)).trans B4).trans B5
  have hwc : IntKind.i64.wrap ((W.cnt : Int) + 1) = ((W.cnt + 1 : Nat) : Int) := by rw [wrap_small _ (by omega) (by omega)]; omega
  have hnp64 : np l ≤ 64 := by unfold np; omega
  have hwe : IntKind.i64.wrap ((W.en : Int) + ((np l : Nat) : Int)) = ((W.en + np l : Nat) : Int) := by
    rw [wrap_small _ (by omega) (by omega)]; omega
  clear hnp64
  have hwd : IntKind.i64.wrap (((W.cnt + 1 : Nat) : Int) - 1) = (W.cnt : Int) := by rw [wrap_small _ (by omega) (by omega)]; omega
  have HC : Hid (∀ w3, Kept ((w.heap.size + 1) :: w.heap.size :: G) V w3 → Blk w3 w.heap.size [.pointer (some ⟨x, 0, none⟩)] 57 ∧ Blk w3 (w.heap.size + 1) [.slice a n c] 33) := fun w3 K3 => by
    rw [hV] at c0 c1
    exact ⟨c0.block (K3 _ (by simp)), c1.block (K3 _ (by simp))⟩
  have hn1 : ¬ x = w.heap.size := by omega
  have hn2 : ¬ x = w.heap.size + 1 := by omega
  have hn3 : ¬ w.heap.size = x := by omega
  have hn4 : ¬ w.heap.size + 1 = x := by omega
  have HV : Hid ((((w.alloc (.cells #[.pointer (some ⟨x, 0, none⟩)] 57)).alloc (.cells #[.slice a n c] 33)).drew.drew) = V) := hV
  have HW0 : Hid (wrap64 (W.cnt : Int) = (W.cnt : Int)) := by show _ = _; unfold wrap64; omega
  clear c0 c1 A2 kd kd1 hlv2 hn1 hn2 hV hbr hcut hoff hw hS hR hh he hcn hl0 hl hag hfit hnl hxl hbz
  generalize np l = m at *
  generalize R - W.en = lf at *
  go_enter Try.func42, Try.ntmps42
  go_wp2_with (go_at_call 78; (refine (k78 _ (bmore (al _ _) (al _ _))).mono ?_; rintro e w1 ⟨rfl, rfl⟩))
  go_region_held3 (fun W2 => W2.cell? ⟨w.heap.size, 0, none⟩ = some (.pointer (some ⟨x, 0, none⟩)) ∧ W2.cell? ⟨w.heap.size + 1, 0, none⟩ = some (.slice a n c)) (exact ⟨e0, e1⟩) (first
    | (go_at_call 79; (refine (k79 _).mono ?_; rintro e w1 ⟨rfl, rfl⟩))
    | (go_at_call 47; (refine k47.mono ?_; rintro e w1 ⟨rfl, rfl⟩)))
  go_wp2_with (go_at_call 76; (refine k76.mono ?_; rintro e w3 ⟨rfl, A3, K3, B3⟩; obtain ⟨d0, d1⟩ := HC.out w3 (by rw [← HV.out]; exact K3); have f0 := d0.cell 0; have f1 := d1.cell 0; have x3 := A3.wal.cell 3; have x4 := A3.wal.cell 4; have z3 := A3.wal.frozen 3; have z4 := A3.wal.frozen 4; simp only [wlC, List.getElem?_cons_zero, List.getElem?_cons_succ] at f0 f1 x3 x4))
  have HF := HFIN.out w3 A3 (by rw [← HV.out]; exact K3) (by rw [← HV.out]; exact B3) ((W.cnt : Int) + 1) ((W.en : Int) + (m : Int)) (by omega) (by omega)
  have g0 := (d0.other (p := ⟨x, 3, none⟩) (by simpa using hn3) (.int .i64 ((W.cnt : Int) + 1))).cell 0
  have g1 := (d1.other (p := ⟨x, 3, none⟩) (by simpa using hn4) (.int .i64 ((W.cnt : Int) + 1))).cell 0
  have g3 := (A3.wal.set (o := 3) (.int .i64 ((W.cnt : Int) + 1)))
  have g4 := g3.cell 4
  have g5 := g3.frozen 4
  have g6 := (g3.set (o := 4) (.int .i64 ((W.en : Int) + (m : Int)))).cell 3
  have g7 := ((d0.other (p := ⟨x, 3, none⟩) (by simpa using hn3) (.int .i64 ((W.cnt : Int) + 1))).other (p := ⟨x, 4, none⟩) (by simpa using hn3) (.int .i64 ((W.en : Int) + (m : Int)))).cell 0
  simp only [wlC, List.set_cons_succ, List.set_cons_zero, List.getElem?_cons_zero, List.getElem?_cons_succ] at g0 g1 g4 g6 g7
  clear g3 d0 d1 A3 K3 B3 f0 f1 x3 x4 z3 z4
  generalize w3.setCell ⟨x, 3, none⟩ (.int .i64 ((W.cnt : Int) + 1)) = w4 at *
  go_region_law (first
    | (go_simp; (with_reducible refine Calls.mono (k79 _) ?_); rintro e w5 ⟨rfl, rfl⟩))
  all_goals go_wp2
  all_goals exact bodyPost_ret (v := .tuple #[.int .i64 (W.cnt : Int), .int .i64 0]) (by simp [results, Try.results42]; try exact HW0.out) rfl ⟨rfl, HF.1.below (Below.refl _ _).drew, fun g hg => HF.2.1 g hg, HF.2.2.trans (Below.refl _ _).drew⟩
end Go.Proofs.Ytnganmekiloigaa
/-! ### Switch, on a calm disk. -/
namespace Go.Proofs.Ytnganmekiloigaa
open Go.RowKit
set_option maxRecDepth 100000
variable {w w' : World} {B d s x : Nat} {D : Dk} {W : Wl} {G : List Nat}
theorem flush_calm (hcut : D.cut = false) (hoff : D.off = false) : D.flush = (0, { D with secs := land (fun _ => true) 0 D.wait D.secs, wait := [] }) := by
  have hsp : D.spend = (true, D) := by unfold Dk.spend; rw [if_neg (by rw [hcut]; simp)]
  unfold Dk.flush
  rw [if_neg (by rw [hoff]; simp), hsp]
  simp
/-- The disk behind a Switch. -/
def Dk.switched (D : Dk) (b : Nat) (X : List Bs) : Dk := (D.more b X).flush.2
theorem switch81 {R n c q0 q1 q2 o : Nat} {a : Option Addr} {l : Bs} (hA : LG B w d s D x W G) (hq0 : Blk w q0 [.pointer (some ⟨x, 0, none⟩)] 57) (hq1 : Blk w q1 [.int .i64 (o : Int)] 3) (hq2 : Blk w q2 [.slice a n c] 33) (h0 : q0 ∈ G) (hcut : D.cut = false) (hoff : D.off = false) (hw : D.wait.length ≤ 50000) (hS : D.secs.length = 2 * R) (hR : R ≤ 64) (ho : o = 0 ∨ o = 1) (he : W.e < 65536) (hlv : LV EB w (.slice a n c) l) (hl0 : 0 < l.length) (hl : l.length ≤ 3648) (hag : ∀ g o, a = some ⟨g, o, none⟩ → g ∈ G) (hfit : np l ≤ R) :
    Calls Try.prog 81 #[.pointer (some ⟨q0, 0, none⟩), .pointer (some ⟨q1, 0, none⟩), .pointer (some ⟨q2, 0, none⟩)] w fun e w' => e = .returned (.tuple #[]) ∧ LG B w' d s (D.switched (o * R + 0) (layP W.e 0 l)) x W G ∧ Kept G w w' ∧ Below B w w' := by
  have k82 := write82 (p := 0) hA hcut hoff hw hS hR ho he hlv hl0 hl hag hA.glt (by omega)
  have y0 := hq0.cell 0
  have y1 := hq1.cell 0
  have y2 := hq2.cell 0
  simp only [List.getElem?_cons_zero] at y0 y1 y2
  have HF : Hid (∀ w1, LG B w1 d s (D.more (o * R + 0) (layP W.e 0 l)) x W G → Kept G w w1 → Below B w w1 → w1.cell? ⟨q0, 0, none⟩ = some (.pointer (some ⟨x, 0, none⟩)) ∧ Calls Try.prog 77 #[.pointer (some ⟨x, 0, none⟩)] w1 fun e w' => e = .returned (.tuple #[]) ∧ LG B w' d s (D.switched (o * R + 0) (layP W.e 0 l)) x W G ∧ Kept G w w' ∧ Below B w w') := fun w1 A1 K1 B1 => by
    refine ⟨(hq0.block (K1 q0 h0)).cell 0, (settle77 A1.disk A1.wal ?_ ?_).mono ?_⟩
    · rw [flush_calm (D := D.more _ _) hcut hoff]
    · show (D.wait ++ waitOf _ _).length ≤ _
      rw [List.length_append, waitOf_length, lay_length]
      omega
    · rintro e w2 ⟨rfl, A2, K2, B2⟩
      exact ⟨rfl, ⟨A2, A1.wal.block (K2 x (by simp)), A1.nx, A1.bx⟩, fun g hg => (K2 g (List.mem_cons_of_mem _ hg)).trans (K1 g hg), B1.trans B2⟩
  clear hq0 hq1 hq2 hA hlv
  go_enter Try.func81, Try.ntmps81
  go_wp2_with (first
    | (go_at_call 82; (refine k82.mono ?_; rintro e w1 ⟨rfl, A1, K1, B1⟩; obtain ⟨y3, k77⟩ := HF.out w1 A1 K1 B1; clear A1 K1 B1))
    | (go_at_call 77; (refine k77.mono ?_; rintro e w2 ⟨rfl, A2, K2, B2⟩)))
  go_end0
  exact ⟨rfl, A2, K2, B2⟩
theorem switch41_range {n c : Nat} {a : Option Addr} (hx : Blk w x (wlC d W) 111) (hbr : W.br = false) (hn : n < 1 ∨ 3648 < n) :
    Calls Try.prog 41 #[.pointer (some ⟨x, 0, none⟩), .slice a n c] w fun e w' => e = .returned (.int .i64 2) ∧ Below w.heap.size w w' := by
  have k78 : ∀ W2, Below w.heap.size w W2 → Calls Try.prog 78 #[.pointer (some ⟨x, 0, none⟩), .slice a n c] W2 fun e w' => e = .returned (.int .i64 2) ∧ w' = W2 := fun W2 k => by
    have := takes78 (hx.below k) a n c
    unfold takesP at this
    rw [hbr, if_neg (by simp), if_pos hn] at this
    exact this
  clear hx
  go_enter Try.func41, Try.ntmps41
  go_wp2_with (go_at_call 78; (refine (k78 _ (bmore (al _ _) (al _ _))).mono ?_; rintro e w1 ⟨rfl, rfl⟩))
  go_ret
  exact ⟨rfl, bmore (al _ _) (al _ _)⟩
theorem switch41_full {R n c : Nat} {a : Option Addr} (hA : LG B w d s D x W G) (hbr : W.br = false) (hS : D.secs.length = 2 * R) (hR : R ≤ 64) (hn : 1 ≤ n ∧ n ≤ 3648) (hf : R < (n + 56) / 57) :
    Calls Try.prog 41 #[.pointer (some ⟨x, 0, none⟩), .slice a n c] w fun e w' => e = .returned (.int .i64 15) ∧ Below w.heap.size w w' := by
  have k78 : ∀ W2, Below w.heap.size w W2 → Calls Try.prog 78 #[.pointer (some ⟨x, 0, none⟩), .slice a n c] W2 fun e w' => e = .returned (.int .i64 0) ∧ w' = W2 := fun W2 k => by
    have := takes78 (hA.wal.below k) a n c
    unfold takesP at this
    rw [hbr, if_neg (by simp), if_neg (by omega)] at this
    exact this
  have k79 := pieces79 a n c (by omega)
  have b0 := blk_new w [.pointer (some ⟨x, 0, none⟩)] 57
  have b1 := blk_new (w.alloc (.cells #[.pointer (some ⟨x, 0, none⟩)] 57)) [.slice a n c] 33
  have kd : Below w.heap.size w ((w.alloc (.cells #[.pointer (some ⟨x, 0, none⟩)] 57)).alloc (.cells #[.slice a n c] 33)).drew := bmore (bmore (al _ _) (al _ _)) (Below.refl _ _).drew
  have e0 := ((b0.below (al _ (.cells #[.slice a n c] 33))).below (Below.refl _ _).drew).cell 0
  have e1 := (b1.below (Below.refl _ _).drew).cell 0
  simp only [World.size_alloc, List.getElem?_cons_zero] at e0 e1
  have k80 := room80 (hA.below kd).disk (hA.wal.below kd) hS hR
  have hlt : (R : Int) < (((n + 56) / 57 : Nat) : Int) := by omega
  have hlt2 : R < (n + 56) / 57 := by omega
  clear b0 b1 kd hA hS hf
  generalize (n + 56) / 57 = np at *
  go_enter Try.func41, Try.ntmps41
  go_wp2_with (go_at_call 78; (refine (k78 _ (bmore (al _ _) (al _ _))).mono ?_; rintro e w1 ⟨rfl, rfl⟩))
  go_region_held3 (fun W2 => W2.cell? ⟨w.heap.size, 0, none⟩ = some (.pointer (some ⟨x, 0, none⟩)) ∧ W2.cell? ⟨w.heap.size + 1, 0, none⟩ = some (.slice a n c)) (exact ⟨e0, e1⟩) (first
    | (go_at_call 79; (refine (k79 _).mono ?_; rintro e w1 ⟨rfl, rfl⟩))
    | (go_at_call 80; (refine k80.mono ?_; rintro e w1 ⟨rfl, rfl⟩)))
  go_wp2
  go_ret
  exact ⟨rfl, bmore (bmore (al _ _) (al _ _)) (Below.refl _ _).drew⟩
end Go.Proofs.Ytnganmekiloigaa
/-! ### Switch that is done, on a calm disk. -/
namespace Go.Proofs.Ytnganmekiloigaa
open Go.RowKit
set_option maxRecDepth 100000
variable {w w' : World} {B d s x : Nat} {D : Dk} {W : Wl} {G : List Nat}
set_option maxHeartbeats 1000000 in
theorem switch41_ok {R n c : Nat} {a : Option Addr} {l : Bs} (hA : LG B w d s D x W G) (hbr : W.br = false) (hcut : D.cut = false) (hoff : D.off = false) (hw : D.wait.length ≤ 50000) (hS : D.secs.length = 2 * R) (hR : R ≤ 64) (hh : W.half = 0 ∨ W.half = 1) (he : W.e < 65535) (hlv : LV EB w (.slice a n c) l) (hl0 : 0 < l.length) (hl : l.length ≤ 3648) (hag : ∀ g o, a = some ⟨g, o, none⟩ → g ∈ G) (hfit : np l ≤ R) :
    Calls Try.prog 41 #[.pointer (some ⟨x, 0, none⟩), .slice a n c] w fun e w' => e = .returned (.int .i64 0) ∧ LG B w' d s (D.switched ((1 - W.half) * R + 0) (layP (W.e + 1) 0 l)) x ⟨1 - W.half, W.e + 1, 1, np l, false⟩ G ∧ Kept G w w' ∧ Below B w w' := by
  obtain ⟨o, ho⟩ : ∃ o, 1 - W.half = o := ⟨_, rfl⟩
  obtain ⟨E, hE⟩ : ∃ E, W.e + 1 = E := ⟨_, rfl⟩
  rw [ho, hE]
  obtain ⟨_, _, hv0⟩ := hlv.form
  have hnl : n = l.length := by simp only [Value.slice.injEq] at hv0; exact hv0.2.1
  clear hv0
  have hnp : (n + 56) / 57 = np l := by rw [hnl]; rfl
  have k78 : ∀ W2, Below w.heap.size w W2 → Calls Try.prog 78 #[.pointer (some ⟨x, 0, none⟩), .slice a n c] W2 fun e w' => e = .returned (.int .i64 0) ∧ w' = W2 := fun W2 k => by
    have := takes78 (hA.wal.below k) a n c
    unfold takesP at this
    rw [hbr, if_neg (by simp), if_neg (by omega)] at this
    exact this
  have k79 := pieces79 a n c (by omega)
  rw [hnp] at k79
  have b0 := blk_new w [.pointer (some ⟨x, 0, none⟩)] 57
  have b1 := blk_new (w.alloc (.cells #[.pointer (some ⟨x, 0, none⟩)] 57)) [.slice a n c] 33
  have A2 := ((hA.new (.cells #[.pointer (some ⟨x, 0, none⟩)] 57)).new (.cells #[.slice a n c] 33)).below (Below.refl _ _).drew
  have kd : Below w.heap.size w ((w.alloc (.cells #[.pointer (some ⟨x, 0, none⟩)] 57)).alloc (.cells #[.slice a n c] 33)).drew := bmore (bmore (al _ _) (al _ _)) (Below.refl _ _).drew
  have c0 := (b0.below (al _ (.cells #[.slice a n c] 33))).below (Below.refl _ _).drew
  have c1 := b1.below (Below.refl _ _).drew
  have e0 := c0.cell 0
  have e1 := c1.cell 0
  simp only [World.size_alloc, List.getElem?_cons_zero] at e0 e1 c1 A2
  have k80 := room80 A2.disk A2.wal hS hR
  have hlv2 := hlv.below kd
  have hbz := hA.size
  have HKG : Hid (∀ g ∈ G, g < w.heap.size) := hA.glt
  have hxl := hA.wal.lt
  have hsz2 : (((w.alloc (.cells #[.pointer (some ⟨x, 0, none⟩)] 57)).alloc (.cells #[.slice a n c] 33)).drew).heap.size = w.heap.size + 2 := by simp
  clear b0 b1 hA hlv hnp
  obtain ⟨V, hV⟩ : ∃ V, ((w.alloc (.cells #[.pointer (some ⟨x, 0, none⟩)] 57)).alloc (.cells #[.slice a n c] 33)).drew = V := ⟨_, rfl⟩
  rw [hV] at hsz2 A2 c0 c1 hlv2 kd
  -- the epoch goes up
  obtain ⟨A3, K3, B3⟩ := A2.turn (o := 2) (v := .int .i64 (E : Int)) (W2 := ⟨W.half, E, W.cnt, W.en, false⟩) (by simp [wlC, hbr])
  have d0 := c0.block (K3 _ (by simp))
  have d1 := c1.block (K3 _ (by simp))
  have hlv3 : LV EB (V.setCell ⟨x, 2, none⟩ (.int .i64 (E : Int))) (.slice a n c) l := lv_keepAt hlv2 fun g o hg => K3 g (by simp [hag g o hg])
  have hsz3 : (V.setCell ⟨x, 2, none⟩ (.int .i64 (E : Int))).heap.size = w.heap.size + 2 := by rw [← hsz2]; simp [World.setCell]
  have A4 := A3.new (.cells #[.int .i64 (o : Int)] 3)
  have d2 := blk_new (V.setCell ⟨x, 2, none⟩ (.int .i64 (E : Int))) [.int .i64 (o : Int)] 3
  have f0 := d0.below (al _ (.cells #[.int .i64 (o : Int)] 3))
  have f1 := d1.below (al _ (.cells #[.int .i64 (o : Int)] 3))
  have hlv4 := hlv3.below (al _ (.cells #[.int .i64 (o : Int)] 3))
  rw [hsz3] at A4 d2
  obtain ⟨V4, hV4⟩ : ∃ V4, (V.setCell ⟨x, 2, none⟩ (.int .i64 (E : Int))).alloc (.cells #[.int .i64 (o : Int)] 3) = V4 := ⟨_, rfl⟩
  rw [hV4] at A4 d2 f0 f1 hlv4
  have k76 := change_lit (f := 81) (caps := #[.pointer (some ⟨w.heap.size, 0, none⟩), .pointer (some ⟨w.heap.size + 2, 0, none⟩), .pointer (some ⟨w.heap.size + 1, 0, none⟩)]) (D' := D.switched (o * R + 0) (layP E 0 l)) (cf81 _) A4 rfl (fun r hr => by
    subst hr
    exact switch81 (R := R) (A4.new _) (f0.below (al _ _)) (d2.below (al _ _)) (f1.below (al _ _)) (by simp) hcut hoff hw hS hR (by omega) (by show E < 65536; omega) (hlv4.below (al _ _)) hl0 hl (fun g o hg => by simp [hag g o hg]) hfit)
  have K34 : Kept G w V4 := fun g hg => by rw [← hV4]; exact ((Below.heap_alloc _ _ _ (by rw [hsz3]; have := HKG.out g hg; omega)).trans (K3 g (by simp [hg]))).trans (kd.block g (HKG.out g hg))
  have B34 : Below B w V4 := by rw [← hV4]; exact ((kd.mono hbz).trans B3).trans ((al _ _).mono (by rw [hsz3]; omega))
  have HFIN : Hid (∀ w5, LG B w5 d s (D.switched (o * R + 0) (layP E 0 l)) x ⟨W.half, E, W.cnt, W.en, false⟩ ((w.heap.size + 2) :: (w.heap.size + 1) :: w.heap.size :: G) → Kept ((w.heap.size + 2) :: (w.heap.size + 1) :: w.heap.size :: G) V4 w5 → Below B V4 w5 → ∀ w6, w6 = ((w5.setCell ⟨x, 1, none⟩ (.int .i64 (o : Int))).setCell ⟨x, 3, none⟩ (.int .i64 1)).setCell ⟨x, 4, none⟩ (.int .i64 ((np l : Nat) : Int)) →
      LG B w6 d s (D.switched (o * R + 0) (layP E 0 l)) x ⟨o, E, 1, np l, false⟩ G ∧ Kept G w w6 ∧ Below B w w6) := by
    rintro w5 A5 K5 B5 w6 rfl
    obtain ⟨A6, K6, B6⟩ := A5.turn (o := 1) (v := .int .i64 (o : Int)) (W2 := ⟨o, E, W.cnt, W.en, false⟩) (by simp [wlC])
    obtain ⟨A7, K7, B7⟩ := A6.turn (o := 3) (v := .int .i64 1) (W2 := ⟨o, E, 1, W.en, false⟩) (by simp [wlC])
    obtain ⟨A8, K8, B8⟩ := A7.turn (o := 4) (v := .int .i64 ((np l : Nat) : Int)) (W2 := ⟨o, E, 1, np l, false⟩) (by simp [wlC])
    refine ⟨A8.less (fun g hg => by simp [hg]), fun g hg => ?_, (((B34.trans B5).trans B6).trans B7).trans B8⟩
    have h1 : g ∈ (w.heap.size + 2) :: (w.heap.size + 1) :: w.heap.size :: G := by simp [hg]
    exact ((((K8 g h1).trans (K7 g h1)).trans (K6 g h1)).trans (K5 g h1)).trans (K34 g hg)
  have hle : ¬ (R : Int) < ((np l : Nat) : Int) := by omega
  have hle2 : ¬ R < np l := by omega
  have hne : ¬ (W.e : Int) = 65535 := by omega
  have hneb : ((W.e : Int) == 65535) = false := by simpa using hne
  have hmf : ∀ (fn : Fn) (first cap : Array Value) (w : World), (Instr.makeFunc fn first cap).run Try.prog w = .ok (.func fn first cap) w := fun _ _ _ _ => rfl
  have hwe : IntKind.i64.wrap ((W.e : Int) + 1) = (E : Int) := by rw [wrap_small _ (by omega) (by omega)]; omega
  have hwo : IntKind.i64.wrap (1 - (W.half : Int)) = (o : Int) := by rw [wrap_small _ (by omega) (by omega)]; omega
  have HV : Hid ((((w.alloc (.cells #[.pointer (some ⟨x, 0, none⟩)] 57)).alloc (.cells #[.slice a n c] 33)).drew) = V) := hV
  have HV4 : Hid ((V.setCell ⟨x, 2, none⟩ (.int .i64 (E : Int))).alloc (.cells #[.int .i64 (o : Int)] 3) = V4) := hV4
  have HSZ : Hid (V.heap.size = w.heap.size + 2) := hsz2
  have HC : Hid (∀ w5, Kept ((w.heap.size + 2) :: (w.heap.size + 1) :: w.heap.size :: G) V4 w5 → Blk w5 w.heap.size [.pointer (some ⟨x, 0, none⟩)] 57 ∧ Blk w5 (w.heap.size + 1) [.slice a n c] 33 ∧ Blk w5 (w.heap.size + 2) [.int .i64 (o : Int)] 3) := fun w5 K5 => ⟨f0.block (K5 _ (by simp)), f1.block (K5 _ (by simp)), d2.block (K5 _ (by simp))⟩
  have hn3 : ¬ w.heap.size = x := by omega
  have hn4 : ¬ w.heap.size + 1 = x := by omega
  have hn5 : ¬ w.heap.size + 2 = x := by omega
  have v0 := c0.cell 0
  have v1 := c1.cell 0
  have v2 := A2.wal.cell 2
  have v3 := A2.wal.frozen 2
  have u0 := d0.cell 0
  have u1 := d1.cell 0
  have u2 := A3.wal.cell 1
  have u4 := f0.cell 0
  rw [← hV4] at u4
  simp only [wlC, List.getElem?_cons_zero, List.getElem?_cons_succ] at v0 v1 v2 u0 u1 u2 u4
  rw [show w.heap.size + 2 = V.heap.size from hsz2.symm] at k76 HFIN HC hn5
  clear c0 c1 d0 d1 d2 f0 f1 A2 A3 A4 K3 B3 kd hlv2 hlv3 hlv4 hbr hcut hoff hw hS hR hh he hl0 hl hag hfit hnl hxl hbz hV hV4 hsz2 hsz3 ho hE K34 B34
  generalize np l = m at *
  go_enter Try.func41, Try.ntmps41
  go_wp2_with (go_at_call 78; (refine (k78 _ (bmore (al _ _) (al _ _))).mono ?_; rintro e w1 ⟨rfl, rfl⟩))
  go_region_held3 (fun W2 => W2.cell? ⟨w.heap.size, 0, none⟩ = some (.pointer (some ⟨x, 0, none⟩)) ∧ W2.cell? ⟨w.heap.size + 1, 0, none⟩ = some (.slice a n c)) (exact ⟨e0, e1⟩) (first
    | (go_at_call 79; (refine (k79 _).mono ?_; rintro e w1 ⟨rfl, rfl⟩))
    | (go_at_call 80; (refine k80.mono ?_; rintro e w1 ⟨rfl, rfl⟩)))
  rw [HV.out]
  go_wp2_with (go_at_call 76; (rw [HV4.out]; refine k76.mono ?_; rintro e w5 ⟨rfl, A5, K5, B5⟩; obtain ⟨p0, p1, p2⟩ := HC.out w5 K5; have x1 := A5.wal.frozen 1; have x3 := A5.wal.frozen 3; have x4 := A5.wal.frozen 4; have z1 := A5.wal.cell 1; have z3 := A5.wal.cell 3; have z4 := A5.wal.cell 4; have t0 := p0.cell 0; have t1 := p1.cell 0; have t2 := p2.cell 0; simp only [wlC, List.getElem?_cons_zero, List.getElem?_cons_succ] at z1 z3 z4 t0 t1 t2))
  have HF := HFIN.out w5 A5 K5 B5 _ rfl
  have hs0 : w5.drew.cell? ⟨w.heap.size, 0, none⟩ = some (.pointer (some ⟨x, 0, none⟩)) ∧ w5.drew.cell? ⟨w.heap.size + 1, 0, none⟩ = some (.slice a n c) ∧ w5.drew.cell? ⟨V.heap.size, 0, none⟩ = some (.int .i64 (o : Int)) := ⟨t0, t1, t2⟩
  have HS1 : Hid (∀ v, (w5.drew.setCell ⟨x, 1, none⟩ v).cell? ⟨w.heap.size, 0, none⟩ = some (.pointer (some ⟨x, 0, none⟩)) ∧ (w5.drew.setCell ⟨x, 1, none⟩ v).cell? ⟨w.heap.size + 1, 0, none⟩ = some (.slice a n c) ∧ (w5.drew.setCell ⟨x, 1, none⟩ v).cell? ⟨V.heap.size, 0, none⟩ = some (.int .i64 (o : Int))) := fun v => ⟨(p0.other (p := ⟨x, 1, none⟩) (by simpa using hn3) v).cell 0, (p1.other (p := ⟨x, 1, none⟩) (by simpa using hn4) v).cell 0, (p2.other (p := ⟨x, 1, none⟩) (by simpa using hn5) v).cell 0⟩
  have HS2 : Hid (∀ v u, ((w5.drew.setCell ⟨x, 1, none⟩ v).setCell ⟨x, 3, none⟩ u).cell? ⟨w.heap.size, 0, none⟩ = some (.pointer (some ⟨x, 0, none⟩)) ∧ ((w5.drew.setCell ⟨x, 1, none⟩ v).setCell ⟨x, 3, none⟩ u).cell? ⟨w.heap.size + 1, 0, none⟩ = some (.slice a n c) ∧ ((w5.drew.setCell ⟨x, 1, none⟩ v).setCell ⟨x, 3, none⟩ u).cell? ⟨V.heap.size, 0, none⟩ = some (.int .i64 (o : Int))) := fun v u => ⟨((p0.other (p := ⟨x, 1, none⟩) (by simpa using hn3) v).other (p := ⟨x, 3, none⟩) (by simpa using hn3) u).cell 0, ((p1.other (p := ⟨x, 1, none⟩) (by simpa using hn4) v).other (p := ⟨x, 3, none⟩) (by simpa using hn4) u).cell 0, ((p2.other (p := ⟨x, 1, none⟩) (by simpa using hn5) v).other (p := ⟨x, 3, none⟩) (by simpa using hn5) u).cell 0⟩
  have HS3 : Hid (∀ v u r, (((w5.drew.setCell ⟨x, 1, none⟩ v).setCell ⟨x, 3, none⟩ u).setCell ⟨x, 4, none⟩ r).cell? ⟨w.heap.size, 0, none⟩ = some (.pointer (some ⟨x, 0, none⟩)) ∧ (((w5.drew.setCell ⟨x, 1, none⟩ v).setCell ⟨x, 3, none⟩ u).setCell ⟨x, 4, none⟩ r).cell? ⟨w.heap.size + 1, 0, none⟩ = some (.slice a n c) ∧ (((w5.drew.setCell ⟨x, 1, none⟩ v).setCell ⟨x, 3, none⟩ u).setCell ⟨x, 4, none⟩ r).cell? ⟨V.heap.size, 0, none⟩ = some (.int .i64 (o : Int))) := fun v u r => ⟨(((p0.other (p := ⟨x, 1, none⟩) (by simpa using hn3) v).other (p := ⟨x, 3, none⟩) (by simpa using hn3) u).other (p := ⟨x, 4, none⟩) (by simpa using hn3) r).cell 0, (((p1.other (p := ⟨x, 1, none⟩) (by simpa using hn4) v).other (p := ⟨x, 3, none⟩) (by simpa using hn4) u).other (p := ⟨x, 4, none⟩) (by simpa using hn4) r).cell 0, (((p2.other (p := ⟨x, 1, none⟩) (by simpa using hn5) v).other (p := ⟨x, 3, none⟩) (by simpa using hn5) u).other (p := ⟨x, 4, none⟩) (by simpa using hn5) r).cell 0⟩
  clear A5 K5 B5 p0 p1 p2 t0 t1 t2
  refine wp_region_held_drew (S := fun W2 => W2.cell? ⟨w.heap.size, 0, none⟩ = some (.pointer (some ⟨x, 0, none⟩)) ∧ W2.cell? ⟨w.heap.size + 1, 0, none⟩ = some (.slice a n c) ∧ W2.cell? ⟨V.heap.size, 0, none⟩ = some (.int .i64 (o : Int))) (by kernel_rfl) hs0 (fun hS => ?_)
  refine wpAnyH_take' 0 (some 42) (.pointer (some ⟨x, 0, none⟩)) rfl rfl (by kernel_rfl) (by kernel_rfl) (by kernel_rfl) (fun _ _ _ h => h) (Or.inl ⟨by rfl, fun w' hS => by obtain ⟨s0, s1, s2⟩ := hS; go_simp⟩) hS ?_
  simp only [Act.put, List.setIfInBounds_toArray, List.set_cons_zero, List.set_cons_succ]
  refine wpAnyH_take' 1 (some 43) (.pointer (some ⟨x, 0, none⟩)) rfl rfl (by kernel_rfl) (by kernel_rfl) (by kernel_rfl) (fun _ _ _ h => h) (Or.inl ⟨by rfl, fun w' hS => by obtain ⟨s0, s1, s2⟩ := hS; go_simp⟩) hS ?_
  simp only [Act.put, List.setIfInBounds_toArray, List.set_cons_zero, List.set_cons_succ]
  refine wpAnyH_take' 2 (some 44) (.pointer (some ⟨x, 0, none⟩)) rfl rfl (by kernel_rfl) (by kernel_rfl) (by kernel_rfl) (fun _ _ _ h => h) (Or.inl ⟨by rfl, fun w' hS => by obtain ⟨s0, s1, s2⟩ := hS; go_simp⟩) hS ?_
  simp only [Act.put, List.setIfInBounds_toArray, List.set_cons_zero, List.set_cons_succ]
  refine wpAnyH_take' 3 (some 45) (.int .i64 (o : Int)) rfl rfl (by kernel_rfl) (by kernel_rfl) (by kernel_rfl) (fun _ _ _ h => h) (Or.inl ⟨by rfl, fun w' hS => by obtain ⟨s0, s1, s2⟩ := hS; go_simp⟩) hS ?_
  simp only [Act.put, List.setIfInBounds_toArray, List.set_cons_zero, List.set_cons_succ]
  refine wpAnyH_take' 4 (some 46) (.slice a n c) rfl rfl (by kernel_rfl) (by kernel_rfl) (by kernel_rfl) (fun _ _ _ h => h) (Or.inl ⟨by rfl, fun w' hS => by obtain ⟨s0, s1, s2⟩ := hS; go_simp⟩) hS ?_
  simp only [Act.put, List.setIfInBounds_toArray, List.set_cons_zero, List.set_cons_succ]
  refine wpAnyH_ready (rs := [5]) (by kernel_rfl) (by simp) (AllReadyH.cons rfl (fun K2 hK2 => ?_) AllReadyH.nil)
  go_simp
  refine (k79 _).mono ?_
  rintro e' w6 ⟨rfl, rfl⟩
  refine hK2.out _ _ hS (fun hS => ?_)
  clear hK2 K2
  try simp only [Act.put, List.setIfInBounds_toArray, List.set_cons_zero, List.set_cons_succ]
  refine wpAnyH_take' 6 (some 48) (.pointer (some ⟨x, 0, none⟩)) rfl rfl (by kernel_rfl) (by kernel_rfl) (by kernel_rfl) (fun _ _ _ h => h) (Or.inl ⟨by rfl, fun w' hS => by obtain ⟨s0, s1, s2⟩ := hS; go_simp⟩) hS ?_
  simp only [Act.put, List.setIfInBounds_toArray, List.set_cons_zero, List.set_cons_succ]
  refine wpAnyH_take' 7 (some 49) (.pointer (some ⟨x, 1, none⟩)) rfl rfl (by kernel_rfl) (by kernel_rfl) (by kernel_rfl) (fun _ _ _ h => h) (Or.inl ⟨by rfl, fun w' hS => by obtain ⟨s0, s1, s2⟩ := hS; go_simp⟩) hS ?_
  simp only [Act.put, List.setIfInBounds_toArray, List.set_cons_zero, List.set_cons_succ]
  refine wpAnyH_ready (rs := [8]) (by kernel_rfl) (by simp) (AllReadyH.cons rfl (fun K2 hK2 => ?_) AllReadyH.nil)
  go_simp
  refine hK2.out _ _ (HS1.out _) (fun hS => ?_)
  clear hK2 K2
  try simp only [Act.put, List.setIfInBounds_toArray, List.set_cons_zero, List.set_cons_succ]
  refine wpAnyH_take' 9 (some 50) (.pointer (some ⟨x, 0, none⟩)) rfl rfl (by kernel_rfl) (by kernel_rfl) (by kernel_rfl) (fun _ _ _ h => h) (Or.inl ⟨by rfl, fun w' hS => by obtain ⟨s0, s1, s2⟩ := hS; go_simp⟩) hS ?_
  simp only [Act.put, List.setIfInBounds_toArray, List.set_cons_zero, List.set_cons_succ]
  refine wpAnyH_take' 10 (some 51) (.pointer (some ⟨x, 3, none⟩)) rfl rfl (by kernel_rfl) (by kernel_rfl) (by kernel_rfl) (fun _ _ _ h => h) (Or.inl ⟨by rfl, fun w' hS => by obtain ⟨s0, s1, s2⟩ := hS; go_simp⟩) hS ?_
  simp only [Act.put, List.setIfInBounds_toArray, List.set_cons_zero, List.set_cons_succ]
  refine wpAnyH_ready (rs := [11]) (by kernel_rfl) (by simp) (AllReadyH.cons rfl (fun K2 hK2 => ?_) AllReadyH.nil)
  go_simp
  refine hK2.out _ _ (HS2.out _ _) (fun hS => ?_)
  clear hK2 K2
  try simp only [Act.put, List.setIfInBounds_toArray, List.set_cons_zero, List.set_cons_succ]
  refine wpAnyH_take' 12 (some 52) (.pointer (some ⟨x, 0, none⟩)) rfl rfl (by kernel_rfl) (by kernel_rfl) (by kernel_rfl) (fun _ _ _ h => h) (Or.inl ⟨by rfl, fun w' hS => by obtain ⟨s0, s1, s2⟩ := hS; go_simp⟩) hS ?_
  simp only [Act.put, List.setIfInBounds_toArray, List.set_cons_zero, List.set_cons_succ]
  refine wpAnyH_take' 13 (some 53) (.pointer (some ⟨x, 4, none⟩)) rfl rfl (by kernel_rfl) (by kernel_rfl) (by kernel_rfl) (fun _ _ _ h => h) (Or.inl ⟨by rfl, fun w' hS => by obtain ⟨s0, s1, s2⟩ := hS; go_simp⟩) hS ?_
  simp only [Act.put, List.setIfInBounds_toArray, List.set_cons_zero, List.set_cons_succ]
  refine wpAnyH_ready (rs := [14]) (by kernel_rfl) (by simp) (AllReadyH.cons rfl (fun K2 hK2 => ?_) AllReadyH.nil)
  go_simp
  refine hK2.out _ _ (HS3.out _ _ _) (fun hS => ?_)
  clear hK2 K2
  try simp only [Act.put, List.setIfInBounds_toArray, List.set_cons_zero, List.set_cons_succ]
  refine wpAnyH_done (by kernel_rfl) ?_ _
  go_wp2
  go_ret
  exact ⟨rfl, HF.1.below (Below.refl _ _).drew, fun g hg => HF.2.1 g hg, HF.2.2.trans (Below.refl _ _).drew⟩
end Go.Proofs.Ytnganmekiloigaa
