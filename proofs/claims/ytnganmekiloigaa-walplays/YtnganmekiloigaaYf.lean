/- The document's Len, Left, Half, Epoch, Broken, Flush, Append. · The document's Switch. · What the document's log reads off a disk is what the program's does, if no piece of an epoch is without bytes. · The pair: the program's log and the document's, on disks that say the same. · What stays of the pair's disk, whatever is done. · A deed on both logs: both answer the same, and both disks say the same. · Switch on both logs. -/
import Derived.Test.YtnganmekiloigaaZe
import Derived.Test.YtnganmekiloigaaYd
/-! ### The document's Len, Left, Half, Epoch, Broken, Flush, Append. -/
namespace Go.Proofs.Ytnganmekiloigaa
open Go.RowKit
set_option maxRecDepth 100000
variable {w w' : World} {r x : Nat} {lv xv : Value} {D D' : Dk} {W W1 W2 : Wl} {w1 w2 : World}
theorem RgLeft.below (h : RgLeft w r lv xv x D' W1 w1) (k : Below w1.heap.size w1 w2) : RgLeft w r lv xv x D' W1 w2 := by
  obtain ⟨lv1, xv1, h1, h2, h3, h4⟩ := h
  exact ⟨lv1, xv1, h1.below k, h2.below k, h3.trans (Keep.of (F := fun k => k = r ∨ k = x) k) (fun _ _ h => h), h4⟩
theorem RgLeft.pre {w0 : World} (k : Below w.heap.size w w0) (h : RgLeft w0 r lv xv x D' W1 w1) : RgLeft w r lv xv x D' W1 w1 := by
  obtain ⟨lv1, xv1, h1, h2, h3, h4⟩ := h
  refine ⟨lv1, xv1, h1, h2, (Keep.of (F := fun k => k = r ∨ k = x) k).trans h3 (fun _ _ h => h), fun q hq => (h4 q hq).imp id (fun h5 => Nat.le_trans k.size h5)⟩
theorem RgLeft.set (h : RgLeft w r lv xv x D' W1 w1) (hxf : ¬ rfoot r lv xv x) (hxl : x < w.heap.size) {o : Nat} {v : Value} (hc : (rwC r W1).set o v = rwC r W2) : RgLeft w r lv xv x D' W2 (w1.setCell ⟨x, o, none⟩ v) := by
  obtain ⟨lv1, xv1, h1, h2, h3, h4⟩ := h
  refine ⟨lv1, xv1, h1.keep (F := fun k => k = x) (Keep.set (F := fun k => k = x) (p := ⟨x, o, none⟩) (Keep.refl _ _) (.inr rfl) v) (fun k hk e => ?_), ?_, Keep.set (F := fun k => k = r ∨ k = x) (p := ⟨x, o, none⟩) h3 (.inr (.inr rfl)) v, h4⟩
  · subst e
    rcases h4 _ hk with h5 | h5
    · exact hxf h5
    · omega
  · rw [← hc]
    exact h2.set (o := o) v
theorem RgLeft.blk (h : RgLeft w r lv xv x D' W1 w1) : Blk w1 x (rwC r W1) 126 := by
  obtain ⟨_, _, _, h2, _⟩ := h
  exact h2
theorem RgLeft.none (hA : RD w r lv xv D) (hx : Blk w x (rwC r W) 126) : RgLeft w r lv xv x D W w := ⟨lv, xv, hA, hx, Keep.refl _ _, fun _ h => .inl h⟩
theorem len92 (hx : Blk w x (rwC r W) 126) : Calls Try.prog 92 #[.pointer (some ⟨x, 0, none⟩)] w fun e w' => e = .returned (.int .i64 (W.cnt : Int)) ∧ w' = w := by
  have y3 : w.cell? ⟨x, 3, none⟩ = some (.int .i64 (W.cnt : Int)) := hx.cell 3
  clear hx
  go_enter Try.func92, Try.ntmps92
  go_wp2
  go_ret
  exact ⟨rfl, rfl⟩
theorem half94 (hx : Blk w x (rwC r W) 126) : Calls Try.prog 94 #[.pointer (some ⟨x, 0, none⟩)] w fun e w' => e = .returned (.int .i64 (W.half : Int)) ∧ w' = w := by
  have y3 : w.cell? ⟨x, 1, none⟩ = some (.int .i64 (W.half : Int)) := hx.cell 1
  clear hx
  go_enter Try.func94, Try.ntmps94
  go_wp2
  go_ret
  exact ⟨rfl, rfl⟩
theorem epoch95 (hx : Blk w x (rwC r W) 126) : Calls Try.prog 95 #[.pointer (some ⟨x, 0, none⟩)] w fun e w' => e = .returned (.int .i64 (W.e : Int)) ∧ w' = w := by
  have y3 : w.cell? ⟨x, 4, none⟩ = some (.int .i64 (W.e : Int)) := hx.cell 4
  clear hx
  go_enter Try.func95, Try.ntmps95
  go_wp2
  go_ret
  exact ⟨rfl, rfl⟩
theorem broken96 (hx : Blk w x (rwC r W) 126) : Calls Try.prog 96 #[.pointer (some ⟨x, 0, none⟩)] w fun e w' => e = .returned (.bool W.br) ∧ w' = w := by
  have y3 : w.cell? ⟨x, 5, none⟩ = some (.bool W.br) := hx.cell 5
  clear hx
  go_enter Try.func96, Try.ntmps96
  go_wp2
  go_ret
  exact ⟨rfl, rfl⟩
theorem most34r : Calls Try.prog 34 #[] w fun e w' => e = .returned (.int .i64 3648) ∧ w' = w := by
  go_enter Try.func34, Try.ntmps34
  go_wp2
  go_ret
  exact ⟨rfl, rfl⟩
theorem left93 {R : Nat} (hA : RD w r lv xv D) (hx : Blk w x (rwC r W) 126) (hS : D.secs.length = 2 * R) (hR : R ≤ 64) (hen : W.en ≤ R) : Calls Try.prog 93 #[.pointer (some ⟨x, 0, none⟩)] w fun e w' => e = .returned (.int .i64 ((R - W.en : Nat) : Int)) ∧ w' = w.drew := by
  have y0 : w.drew.cell? ⟨x, 0, none⟩ = some (.pointer (some ⟨r, 0, none⟩)) := (hx.below (Below.refl _ w).drew).cell 0
  have y2 : w.drew.cell? ⟨x, 2, none⟩ = some (.int .i64 (W.en : Int)) := (hx.below (Below.refl _ w).drew).cell 2
  have k50 := rsize50 (hA.below (Below.refl _ w).drew)
  rw [hS] at k50
  obtain ⟨N, hN⟩ : ∃ N, 2 * R = N := ⟨_, rfl⟩
  rw [hN] at k50
  have e1 : (N : Int).tdiv 2 = (R : Int) := half_int hN.symm
  obtain ⟨n, hn⟩ : ∃ n, W.en = n := ⟨_, rfl⟩
  rw [hn] at y2 hen ⊢
  obtain ⟨m, hm⟩ : ∃ m, R - n = m := ⟨_, rfl⟩
  rw [hm]
  have e2 : (R : Int) - (n : Int) = (m : Int) := by omega
  have e3 : IntKind.i64.wrap ((R : Int) - (n : Int)) = (m : Int) := by rw [e2]; exact wrap_small _ (by omega) (by omega)
  have e4 : IntKind.i64.wrap (R : Int) = (R : Int) := wrap_small _ (by omega) (by omega)
  have e5 : IntKind.i64.wrap (m : Int) = (m : Int) := wrap_small _ (by omega) (by omega)
  have e6 : IntKind.i64.wrap (N : Int) = (N : Int) := wrap_small _ (by omega) (by omega)
  have hS0 := And.intro y0 y2
  clear hA hx hS hN hn hm hen y0 y2
  go_enter Try.func93, Try.ntmps93
  go_wp2_with fail
  go_region_held3 (fun W' => W'.cell? ⟨x, 0, none⟩ = some (.pointer (some ⟨r, 0, none⟩)) ∧ W'.cell? ⟨x, 2, none⟩ = some (.int .i64 (n : Int))) (exact hS0) ((go_at_call 50; refine k50.mono ?_; rintro e w1 ⟨rfl, hz5⟩; replace hz5 := hz5.symm; subst hz5))
  go_wp2
  go_ret
  exact ⟨rfl, rfl⟩
theorem flush90_br (hx : Blk w x (rwC r W) 126) (hbr : W.br = true) : Calls Try.prog 90 #[.pointer (some ⟨x, 0, none⟩)] w fun e w' => e = .returned (.int .i64 7) ∧ w' = w := by
  have y3 : w.cell? ⟨x, 5, none⟩ = some (.bool W.br) := hx.cell 5
  rw [hbr] at y3
  clear hx
  go_enter Try.func90, Try.ntmps90
  go_wp2
  go_ret
  exact ⟨rfl, rfl⟩
theorem flush90 (hA : RD w r lv xv D) (hx : Blk w x (rwC r W) 126) (hxf : ¬ rfoot r lv xv x) (hbr : W.br = false) (hpos : 0 < D.secs.length) (hsl : D.secs.length ≤ 128) (hw : D.wait.length ≤ 1000) :
    Calls Try.prog 90 #[.pointer (some ⟨x, 0, none⟩)] w fun e w' => e = .returned (.int .i64 D.flush.1) ∧ RgLeft w r lv xv x D.flush.2 ⟨W.half, W.e, W.cnt, W.en, decide (D.flush.1 ≠ 0)⟩ w' := by
  have y5 : w.cell? ⟨x, 5, none⟩ = some (.bool W.br) := hx.cell 5
  have y0 : w.cell? ⟨x, 0, none⟩ = some (.pointer (some ⟨r, 0, none⟩)) := hx.cell 0
  rw [hbr] at y5
  have hxr : x ≠ r := fun e => hxf (.inl e)
  have k61 := rflush61 hA hpos hsl hw
  have HX : Hid (Blk w x (rwC r W) 126 ∧ ¬ rfoot r lv xv x ∧ x < w.heap.size ∧ x ≠ r) := ⟨hx, hxf, hx.lt, hxr⟩
  have HP : Hid (∀ w1, RLeft w r lv xv D.flush.2 w1 → RgLeft w r lv xv x D.flush.2 W w1) := by
    rintro w1 ⟨lv1, xv1, h1, h2, h3⟩
    exact ⟨lv1, xv1, h1, hx.keep h2 hxr, h2.mono (fun _ _ h => .inl h), h3⟩
  obtain ⟨f1, hf1⟩ : ∃ f1, D.flush.1 = f1 := ⟨_, rfl⟩
  rw [hf1] at k61 ⊢
  obtain ⟨D2, hD2⟩ : ∃ D2, D.flush.2 = D2 := ⟨_, rfl⟩
  rw [hD2] at k61 HP ⊢
  have hdec : (f1 != 0) = !decide (f1 = 0) := by
    by_cases h : f1 = 0 <;> simp [h]
  clear hx hxf hxr hbr hA hf1 hD2
  go_enter Try.func90, Try.ntmps90
  go_wp2_with (go_at_call 61; (refine k61.mono ?_); rintro e w1 ⟨rfl, hl⟩; have hq := HP.out w1 hl; have z5 := hq.blk.cell 5; have g5 := hq.blk.frozen 5; have HQ : Hid (RgLeft w r lv xv x D2 W w1) := hq; clear hq hl)
  go_ret
  refine ⟨rfl, ?_⟩
  have := HQ.out.set HX.out.2.1 HX.out.2.2.1 (o := 5) (v := .bool (decide (f1 ≠ 0))) (W2 := ⟨W.half, W.e, W.cnt, W.en, decide (f1 ≠ 0)⟩) rfl
  simpa [hdec] using this
theorem lay107_yes {R h p n c : Nat} {a : Option Addr} {l : Bs} (hA : RD w r lv xv D) (hx : Blk w x (rwC r W) 126) (hxf : ¬ rfoot r lv xv x) (hleft : D.cut = true → 0 ≤ D.left) (hoff : D.off = false) (hw : D.wait.length ≤ 900) (hS : D.secs.length = 2 * R) (hR : R ≤ 64) (hh : h = 0 ∨ h = 1) (he : W.e < 65536) (hlv : LV EB w (.slice a n c) l) (hl0 : 0 < l.length) (hl : l.length ≤ 3648) (hag : ∀ g o, a = some ⟨g, o, none⟩ → g ≠ r ∧ g ≠ x ∧ g < w.heap.size) (hfit : p + np l ≤ R) (hcan : D.can (np l)) :
    Calls Try.prog 107 #[.pointer (some ⟨x, 0, none⟩), .int .i64 (h : Int), .int .i64 (p : Int), .slice a n c] w fun e w' => e = .returned (.int .i64 0) ∧ RgLeft w r lv xv x (D.put (h * R + p) (layP W.e p l)) W w' :=
  (lay107 hA hx hxf hleft hoff hw hS hR hh he hlv hl0 hl hag hfit).mono (by
    rintro e w1 (⟨rfl, -, h1⟩ | ⟨k, h1, h2, h3, -⟩)
    · exact ⟨rfl, h1⟩
    · rcases hcan with h5 | h5
      · rw [h2] at h5; cases h5
      · omega)
theorem lay107_no {R h p n c : Nat} {a : Option Addr} {l : Bs} (hA : RD w r lv xv D) (hx : Blk w x (rwC r W) 126) (hxf : ¬ rfoot r lv xv x) (hleft : D.cut = true → 0 ≤ D.left) (hoff : D.off = false) (hw : D.wait.length ≤ 900) (hS : D.secs.length = 2 * R) (hR : R ≤ 64) (hh : h = 0 ∨ h = 1) (he : W.e < 65536) (hlv : LV EB w (.slice a n c) l) (hl0 : 0 < l.length) (hl : l.length ≤ 3648) (hag : ∀ g o, a = some ⟨g, o, none⟩ → g ≠ r ∧ g ≠ x ∧ g < w.heap.size) (hfit : p + np l ≤ R) (hcan : ¬ D.can (np l)) :
    Calls Try.prog 107 #[.pointer (some ⟨x, 0, none⟩), .int .i64 (h : Int), .int .i64 (p : Int), .slice a n c] w fun e w' => e = .returned (.int .i64 7) ∧ RgLeft w r lv xv x (D.stuck (h * R + p) (layP W.e p l)) ⟨W.half, W.e, W.cnt, W.en, true⟩ w' :=
  (lay107 hA hx hxf hleft hoff hw hS hR hh he hlv hl0 hl hag hfit).mono (by
    rintro e w1 (⟨rfl, h1, -⟩ | ⟨k, h1, h2, h3, rfl, h4⟩)
    · exact absurd h1 hcan
    · refine ⟨rfl, ?_⟩
      unfold Dk.stuck
      rw [h3]
      exact h4)
theorem append89_br {a : Option Addr} {n c : Nat} (hx : Blk w x (rwC r W) 126) (hbr : W.br = true) : Calls Try.prog 89 #[.pointer (some ⟨x, 0, none⟩), .slice a n c] w fun e w' => e = .returned (.tuple #[.int .i64 0, .int .i64 7]) ∧ w' = w := by
  have y5 : w.cell? ⟨x, 5, none⟩ = some (.bool W.br) := hx.cell 5
  rw [hbr] at y5
  clear hx
  go_enter Try.func89, Try.ntmps89
  go_wp2
  refine bodyPost_ret (v := .tuple #[.int .i64 0, .int .i64 7]) (by simp [results, Try.results89]) rfl ⟨rfl, rfl⟩
theorem append89_range {a : Option Addr} {n c : Nat} (hx : Blk w x (rwC r W) 126) (hbr : W.br = false) (hn : n < 1 ∨ 3648 < n) : Calls Try.prog 89 #[.pointer (some ⟨x, 0, none⟩), .slice a n c] w fun e w' => e = .returned (.tuple #[.int .i64 0, .int .i64 2]) ∧ w' = w := by
  have y5 : w.cell? ⟨x, 5, none⟩ = some (.bool W.br) := hx.cell 5
  rw [hbr] at y5
  clear hx
  have k34 : ∀ w, Calls Try.prog 34 #[] w fun e w' => e = .returned (.int .i64 3648) ∧ w' = w := fun w => most34r
  rcases hn with h1 | h1
  · have h2 : (n : Int) < 1 := by omega
    go_enter Try.func89, Try.ntmps89
    go_wp2_with (go_at_call 34; (refine (k34 _).mono ?_; rintro e wz ⟨rfl, hz9⟩; replace hz9 := hz9.symm; subst hz9))
    refine bodyPost_ret (v := .tuple #[.int .i64 0, .int .i64 2]) (by simp [results, Try.results89]) rfl ⟨rfl, rfl⟩
  · have h2 : ¬ (n : Int) < 1 := by omega
    have h3 : (3648 : Int) < (n : Int) := by omega
    go_enter Try.func89, Try.ntmps89
    go_wp2_with (go_at_call 34; (refine (k34 _).mono ?_; rintro e wz ⟨rfl, hz9⟩; replace hz9 := hz9.symm; subst hz9))
    refine bodyPost_ret (v := .tuple #[.int .i64 0, .int .i64 2]) (by simp [results, Try.results89]) rfl ⟨rfl, rfl⟩
theorem append89_full {R n c : Nat} {a : Option Addr} (hA : RD w r lv xv D) (hx : Blk w x (rwC r W) 126) (hbr : W.br = false) (hS : D.secs.length = 2 * R) (hR : R ≤ 64) (hen : W.en ≤ R) (hn : 1 ≤ n ∧ n ≤ 3648) (hf : R - W.en < (n + 56) / 57) :
    Calls Try.prog 89 #[.pointer (some ⟨x, 0, none⟩), .slice a n c] w fun e w' => e = .returned (.tuple #[.int .i64 0, .int .i64 15]) ∧ w' = w.drew := by
  have y5 : w.cell? ⟨x, 5, none⟩ = some (.bool W.br) := hx.cell 5
  rw [hbr] at y5
  have k34 : ∀ w, Calls Try.prog 34 #[] w fun e w' => e = .returned (.int .i64 3648) ∧ w' = w := fun w => most34r
  have k106 : ∀ w, Calls Try.prog 106 #[.slice a n c] w fun e w' => e = .returned (.int .i64 (((n + 56) / 57 : Nat) : Int)) ∧ w' = w := fun w => pieces106 (by omega)
  have k93 := left93 hA hx hS hR hen
  have hlt : ((R - W.en : Nat) : Int) < (((n + 56) / 57 : Nat) : Int) := by omega
  have h2 : ¬ (n : Int) < 1 := by omega
  have h3 : ¬ (3648 : Int) < (n : Int) := by omega
  clear hA hx hS hR hen hn hf
  generalize (n + 56) / 57 = M at *
  generalize R - W.en = lf at *
  go_enter Try.func89, Try.ntmps89
  go_wp2_with (first
    | (go_at_call 34; (refine (k34 _).mono ?_; rintro e wz ⟨rfl, hz9⟩; replace hz9 := hz9.symm; subst hz9))
    | (go_at_call 106; (refine (k106 _).mono ?_; rintro e wz ⟨rfl, hz9⟩; replace hz9 := hz9.symm; subst hz9))
    | (go_at_call 93; (refine k93.mono ?_; rintro e wz ⟨rfl, rfl⟩)))
  refine bodyPost_ret (v := .tuple #[.int .i64 0, .int .i64 15]) (by simp [results, Try.results89]) rfl ⟨rfl, rfl⟩
set_option maxHeartbeats 4000000 in
theorem append89_yes {R n c : Nat} {a : Option Addr} {l : Bs} (hA : RD w r lv xv D) (hx : Blk w x (rwC r W) 126) (hxf : ¬ rfoot r lv xv x) (hleft : D.cut = true → 0 ≤ D.left) (hoff : D.off = false) (hw : D.wait.length ≤ 900) (hS : D.secs.length = 2 * R) (hR : R ≤ 64) (hh : W.half = 0 ∨ W.half = 1) (he : W.e < 65536) (hlv : LV EB w (.slice a n c) l) (hl0 : 0 < l.length) (hl : l.length ≤ 3648) (hag : ∀ g o, a = some ⟨g, o, none⟩ → g ≠ r ∧ g ≠ x ∧ g < w.heap.size) (hfit : W.en + np l ≤ R) (hbr : W.br = false) (hcn : W.cnt < 100000) (hcan : D.can (np l)) :
    Calls Try.prog 89 #[.pointer (some ⟨x, 0, none⟩), .slice a n c] w fun e w' => e = .returned (.tuple #[.int .i64 (W.cnt : Int), .int .i64 0]) ∧ RgLeft w r lv xv x (D.put (W.half * R + W.en) (layP W.e W.en l)) ⟨W.half, W.e, W.cnt + 1, W.en + np l, false⟩ w' := by
  have y5 : w.cell? ⟨x, 5, none⟩ = some (.bool W.br) := hx.cell 5
  rw [hbr] at y5
  have hnl : n = l.length := by obtain ⟨_, _, h0⟩ := hlv.form; simp only [Value.slice.injEq] at h0; exact h0.2.1
  have hnp : np l = (n + 56) / 57 := by rw [hnl]; rfl
  have k34 : ∀ w, Calls Try.prog 34 #[] w fun e w' => e = .returned (.int .i64 3648) ∧ w' = w := fun w => most34r
  have k106 : ∀ w, Calls Try.prog 106 #[.slice a n c] w fun e w' => e = .returned (.int .i64 ((np l : Nat) : Int)) ∧ w' = w := fun w => by rw [hnp]; exact pieces106 (by omega)
  have k93 := left93 hA hx hS hR (by omega)
  have KD : Below w.heap.size w w.drew.drew := bmore (Below.refl _ w).drew (Below.refl _ w.drew).drew
  have k107 := lay107_yes (h := W.half) (p := W.en) (hA.below KD) (hx.below KD) hxf hleft hoff hw hS hR hh he (hlv.below KD) hl0 hl (fun g o e => by obtain ⟨h1, h2, h3⟩ := hag g o e; exact ⟨h1, h2, h3⟩) hfit hcan
  have hS0 : w.drew.drew.cell? ⟨x, 1, none⟩ = some (.int .i64 (W.half : Int)) ∧ w.drew.drew.cell? ⟨x, 2, none⟩ = some (.int .i64 (W.en : Int)) := ⟨(hx.below KD).cell 1, (hx.below KD).cell 2⟩
  have hlt : ¬ ((R - W.en : Nat) : Int) < ((np l : Nat) : Int) := by omega
  have h2 : ¬ (n : Int) < 1 := by omega
  have h3 : ¬ (3648 : Int) < (n : Int) := by omega
  have HX : Hid (¬ rfoot r lv xv x ∧ x < w.heap.size ∧ Below w.heap.size w w.drew.drew) := ⟨hxf, hx.lt, KD⟩
  have hw1 : IntKind.i64.wrap ((W.en : Int) + (np l : Int)) = ((W.en + np l : Nat) : Int) := by rw [wrap_small _ (by omega) (by omega)]; omega
  have hw1' : (W.en : Int) + (np l : Int) = ((W.en + np l : Nat) : Int) := by omega
  have hw2 : IntKind.i64.wrap ((W.cnt : Int) + 1) = ((W.cnt + 1 : Nat) : Int) := by rw [wrap_small _ (by omega) (by omega)]; omega
  have hw2' : (W.cnt : Int) + 1 = ((W.cnt + 1 : Nat) : Int) := by omega
  have hw3 : IntKind.i64.wrap (((W.cnt + 1 : Nat) : Int) - 1) = (W.cnt : Int) := by rw [wrap_small _ (by omega) (by omega)]; omega
  have hw3' : ((W.cnt + 1 : Nat) : Int) - 1 = (W.cnt : Int) := by omega
  have HBR : Hid (W.br = false) := hbr
  obtain ⟨DD, hDD⟩ : ∃ DD, D.put (W.half * R + W.en) (layP W.e W.en l) = DD := ⟨_, rfl⟩
  rw [hDD] at k107 ⊢
  have HBD : Hid (W.en + np l ≤ 64 ∧ W.cnt < 100000) := ⟨by omega, hcn⟩
  obtain ⟨hf1, hhf⟩ : ∃ hf1, W.half = hf1 := ⟨_, rfl⟩
  obtain ⟨en, hen⟩ : ∃ en, W.en = en := ⟨_, rfl⟩
  obtain ⟨cn, hcn1⟩ : ∃ cn, W.cnt = cn := ⟨_, rfl⟩
  obtain ⟨M, hM⟩ : ∃ M, np l = M := ⟨_, rfl⟩
  obtain ⟨lf, hlf⟩ : ∃ lf, R - W.en = lf := ⟨_, rfl⟩
  rw [hlf] at k93 hlt
  rw [hhf, hen] at k107 hS0
  rw [hM, hen] at hw1 hw1'
  rw [hM] at k106 hlt
  rw [hcn1] at hw2 hw2' hw3 hw3'
  obtain ⟨en2, hen2⟩ : ∃ en2, en + M = en2 := ⟨_, rfl⟩
  rw [hen2] at hw1 hw1'
  obtain ⟨cn2, hcn2⟩ : ∃ cn2, cn + 1 = cn2 := ⟨_, rfl⟩
  rw [hcn2] at hw2 hw2' hw3 hw3'
  have HV : Hid (W.half = hf1 ∧ W.en = en ∧ W.cnt = cn ∧ np l = M ∧ en + M = en2 ∧ cn + 1 = cn2) := ⟨hhf, hen, hcn1, hM, hen2, hcn2⟩
  clear hnl hnp hA hx hxf hleft hoff hw hS hR hh he hlv hl0 hl hag hfit hbr hcn hcan KD hhf hen hcn1 hM hlf hDD hen2 hcn2
  go_enter Try.func89, Try.ntmps89
  go_wp2_with (first
    | (go_at_call 34; (refine (k34 _).mono ?_; rintro e wz ⟨rfl, hz9⟩; replace hz9 := hz9.symm; subst hz9))
    | (go_at_call 106; (refine (k106 _).mono ?_; rintro e wz ⟨rfl, hz9⟩; replace hz9 := hz9.symm; subst hz9))
    | (go_at_call 93; (refine k93.mono ?_; rintro e wz ⟨rfl, rfl⟩)))
  go_region_held3 (fun W' => W'.cell? ⟨x, 1, none⟩ = some (.int .i64 (hf1 : Int)) ∧ W'.cell? ⟨x, 2, none⟩ = some (.int .i64 (en : Int))) (first | exact hS0 | exact hS6) ((go_at_call 107; (with_reducible refine k107.mono ?_); rintro e w1 ⟨rfl, hl6⟩; have HL : Hid (RgLeft w r lv xv x DD W w1) := RgLeft.pre HX.out.2.2 hl6; have hS6 : w1.cell? ⟨x, 1, none⟩ = some (.int .i64 (hf1 : Int)) ∧ w1.cell? ⟨x, 2, none⟩ = some (.int .i64 (en : Int)) := (by rw [← HV.out.1, ← HV.out.2.1]; exact ⟨HL.out.blk.cell 1, HL.out.blk.cell 2⟩); clear hl6))
  have hb7 := HL.out.blk.below (Below.refl _ w1).drew
  have y2 : w1.drew.cell? ⟨x, 2, none⟩ = some (.int .i64 (en : Int)) := by rw [← HV.out.2.1]; exact hb7.cell 2
  have f2 := hb7.frozen 2
  have y3 : w1.drew.cell? ⟨x, 3, none⟩ = some (.int .i64 (cn : Int)) := by rw [← HV.out.2.2.1]; exact hb7.cell 3
  have f3 := hb7.frozen 3
  have hb8 := (HL.out.blk.set (o := 2) (.int .i64 (en2 : Int))).below (Below.refl _ _).drew
  have y3' : (w1.setCell ⟨x, 2, none⟩ (.int .i64 (en2 : Int))).drew.cell? ⟨x, 3, none⟩ = some (.int .i64 (cn : Int)) := by rw [← HV.out.2.2.1]; exact hb8.cell 3
  have f3' := hb8.frozen 3
  have hen2b : (en2 : Int) ≤ 64 := by have := HBD.out; have := HV.out; omega
  have hcn2b : (cn2 : Int) ≤ 100000 := by have := HBD.out; have := HV.out; omega
  have hcnb : (cn : Int) ≤ 100000 := by have := HBD.out; have := HV.out; omega
  have hb9 := ((HL.out.blk.set (o := 2) (.int .i64 (en2 : Int))).set (o := 3) (.int .i64 (cn2 : Int))).below (Below.refl _ _).drew
  have y9 : ((w1.setCell ⟨x, 2, none⟩ (.int .i64 (en2 : Int))).setCell ⟨x, 3, none⟩ (.int .i64 (cn2 : Int))).drew.cell? ⟨x, 3, none⟩ = some (.int .i64 (cn2 : Int)) := hb9.cell 3
  clear hb7 hb8 hb9
  go_wp2
  have k106w := k106 w1.drew
  go_region_law (go_simp; (with_reducible refine Calls.mono k106w ?_); rintro e wz ⟨rfl, hz9⟩; replace hz9 := hz9.symm; subst hz9)
  all_goals go_wp2
  all_goals refine bodyPost_ret (v := .tuple #[.int .i64 (cn : Int), .int .i64 0]) (by simp [results, Try.results89]) rfl ⟨by rw [HV.out.2.2.1], ?_⟩
  all_goals (rw [HV.out.1, HV.out.2.1, HV.out.2.2.1, HV.out.2.2.2.1, HV.out.2.2.2.2.1, HV.out.2.2.2.2.2])
  all_goals exact ((HL.out.set (o := 2) (v := .int .i64 (en2 : Int)) (W2 := ⟨hf1, W.e, cn, en2, W.br⟩) HX.out.1 HX.out.2.1 (by rw [← HV.out.1, ← HV.out.2.2.1]; rfl)).set (o := 3) (v := .int .i64 (cn2 : Int)) (W2 := ⟨hf1, W.e, cn2, en2, false⟩) HX.out.1 HX.out.2.1 (by rw [HBR.out]; rfl)).below (Below.refl _ _).drew
set_option maxHeartbeats 4000000 in
theorem append89_no {R n c : Nat} {a : Option Addr} {l : Bs} (hA : RD w r lv xv D) (hx : Blk w x (rwC r W) 126) (hxf : ¬ rfoot r lv xv x) (hleft : D.cut = true → 0 ≤ D.left) (hoff : D.off = false) (hw : D.wait.length ≤ 900) (hS : D.secs.length = 2 * R) (hR : R ≤ 64) (hh : W.half = 0 ∨ W.half = 1) (he : W.e < 65536) (hlv : LV EB w (.slice a n c) l) (hl0 : 0 < l.length) (hl : l.length ≤ 3648) (hag : ∀ g o, a = some ⟨g, o, none⟩ → g ≠ r ∧ g ≠ x ∧ g < w.heap.size) (hfit : W.en + np l ≤ R) (hbr : W.br = false) (hcn : W.cnt < 100000) (hcan : ¬ D.can (np l)) :
    Calls Try.prog 89 #[.pointer (some ⟨x, 0, none⟩), .slice a n c] w fun e w' => e = .returned (.tuple #[.int .i64 0, .int .i64 7]) ∧ RgLeft w r lv xv x (D.stuck (W.half * R + W.en) (layP W.e W.en l)) ⟨W.half, W.e, W.cnt, W.en, true⟩ w' := by
  have y5 : w.cell? ⟨x, 5, none⟩ = some (.bool W.br) := hx.cell 5
  rw [hbr] at y5
  have hnl : n = l.length := by obtain ⟨_, _, h0⟩ := hlv.form; simp only [Value.slice.injEq] at h0; exact h0.2.1
  have hnp : np l = (n + 56) / 57 := by rw [hnl]; rfl
  have k34 : ∀ w, Calls Try.prog 34 #[] w fun e w' => e = .returned (.int .i64 3648) ∧ w' = w := fun w => most34r
  have k106 : ∀ w, Calls Try.prog 106 #[.slice a n c] w fun e w' => e = .returned (.int .i64 ((np l : Nat) : Int)) ∧ w' = w := fun w => by rw [hnp]; exact pieces106 (by omega)
  have k93 := left93 hA hx hS hR (by omega)
  have KD : Below w.heap.size w w.drew.drew := bmore (Below.refl _ w).drew (Below.refl _ w.drew).drew
  have k107 := lay107_no (h := W.half) (p := W.en) (hA.below KD) (hx.below KD) hxf hleft hoff hw hS hR hh he (hlv.below KD) hl0 hl (fun g o e => by obtain ⟨h1, h2, h3⟩ := hag g o e; exact ⟨h1, h2, h3⟩) hfit hcan
  have hS0 : w.drew.drew.cell? ⟨x, 1, none⟩ = some (.int .i64 (W.half : Int)) ∧ w.drew.drew.cell? ⟨x, 2, none⟩ = some (.int .i64 (W.en : Int)) := ⟨(hx.below KD).cell 1, (hx.below KD).cell 2⟩
  have hlt : ¬ ((R - W.en : Nat) : Int) < ((np l : Nat) : Int) := by omega
  have h2 : ¬ (n : Int) < 1 := by omega
  have h3 : ¬ (3648 : Int) < (n : Int) := by omega
  have HX : Hid (¬ rfoot r lv xv x ∧ x < w.heap.size ∧ Below w.heap.size w w.drew.drew) := ⟨hxf, hx.lt, KD⟩
  have hw1 : IntKind.i64.wrap ((W.en : Int) + (np l : Int)) = ((W.en + np l : Nat) : Int) := by rw [wrap_small _ (by omega) (by omega)]; omega
  have hw1' : (W.en : Int) + (np l : Int) = ((W.en + np l : Nat) : Int) := by omega
  have hw2 : IntKind.i64.wrap ((W.cnt : Int) + 1) = ((W.cnt + 1 : Nat) : Int) := by rw [wrap_small _ (by omega) (by omega)]; omega
  have hw2' : (W.cnt : Int) + 1 = ((W.cnt + 1 : Nat) : Int) := by omega
  have hw3 : IntKind.i64.wrap (((W.cnt + 1 : Nat) : Int) - 1) = (W.cnt : Int) := by rw [wrap_small _ (by omega) (by omega)]; omega
  have hw3' : ((W.cnt + 1 : Nat) : Int) - 1 = (W.cnt : Int) := by omega
  have HBR : Hid (W.br = false) := hbr
  obtain ⟨DD, hDD⟩ : ∃ DD, D.stuck (W.half * R + W.en) (layP W.e W.en l) = DD := ⟨_, rfl⟩
  rw [hDD] at k107 ⊢
  obtain ⟨V6, hV6⟩ : ∃ V6 : Wl, (⟨W.half, W.e, W.cnt, W.en, true⟩ : Wl) = V6 := ⟨_, rfl⟩
  rw [hV6] at k107 ⊢
  have HV6 : Hid (V6.half = W.half ∧ V6.en = W.en) := by rw [← hV6]; exact ⟨rfl, rfl⟩
  obtain ⟨hf1, hhf⟩ : ∃ hf1, W.half = hf1 := ⟨_, rfl⟩
  obtain ⟨en, hen⟩ : ∃ en, W.en = en := ⟨_, rfl⟩
  obtain ⟨cn, hcn1⟩ : ∃ cn, W.cnt = cn := ⟨_, rfl⟩
  obtain ⟨M, hM⟩ : ∃ M, np l = M := ⟨_, rfl⟩
  obtain ⟨lf, hlf⟩ : ∃ lf, R - W.en = lf := ⟨_, rfl⟩
  rw [hlf] at k93 hlt
  rw [hhf, hen] at k107 hS0
  rw [hM, hen] at hw1 hw1'
  rw [hM] at k106 hlt
  rw [hcn1] at hw2 hw2' hw3 hw3'
  obtain ⟨en2, hen2⟩ : ∃ en2, en + M = en2 := ⟨_, rfl⟩
  rw [hen2] at hw1 hw1'
  obtain ⟨cn2, hcn2⟩ : ∃ cn2, cn + 1 = cn2 := ⟨_, rfl⟩
  rw [hcn2] at hw2 hw2' hw3 hw3'
  have HV : Hid (W.half = hf1 ∧ W.en = en ∧ W.cnt = cn ∧ np l = M ∧ en + M = en2 ∧ cn + 1 = cn2) := ⟨hhf, hen, hcn1, hM, hen2, hcn2⟩
  clear hnl hnp hA hx hxf hleft hoff hw hS hR hh he hlv hl0 hl hag hfit hbr hcn hcan KD hhf hen hcn1 hM hlf hDD hen2 hcn2 hV6
  go_enter Try.func89, Try.ntmps89
  go_wp2_with (first
    | (go_at_call 34; (refine (k34 _).mono ?_; rintro e wz ⟨rfl, hz9⟩; replace hz9 := hz9.symm; subst hz9))
    | (go_at_call 106; (refine (k106 _).mono ?_; rintro e wz ⟨rfl, hz9⟩; replace hz9 := hz9.symm; subst hz9))
    | (go_at_call 93; (refine k93.mono ?_; rintro e wz ⟨rfl, rfl⟩)))
  go_region_held3 (fun W' => W'.cell? ⟨x, 1, none⟩ = some (.int .i64 (hf1 : Int)) ∧ W'.cell? ⟨x, 2, none⟩ = some (.int .i64 (en : Int))) (first | exact hS0 | exact hS6) ((go_at_call 107; (with_reducible refine k107.mono ?_); rintro e w1 ⟨rfl, hl6⟩; have HL : Hid (RgLeft w r lv xv x DD V6 w1) := RgLeft.pre HX.out.2.2 hl6; have hS6 : w1.cell? ⟨x, 1, none⟩ = some (.int .i64 (hf1 : Int)) ∧ w1.cell? ⟨x, 2, none⟩ = some (.int .i64 (en : Int)) := (by rw [← HV.out.1, ← HV.out.2.1, ← HV6.out.1, ← HV6.out.2]; exact ⟨HL.out.blk.cell 1, HL.out.blk.cell 2⟩); clear hl6))
  go_wp2
  refine bodyPost_ret (v := .tuple #[.int .i64 0, .int .i64 7]) (by simp [results, Try.results89]) rfl ⟨rfl, HL.out⟩
end Go.Proofs.Ytnganmekiloigaa
/-! ### The document's Switch. -/
namespace Go.Proofs.Ytnganmekiloigaa
open Go.RowKit
set_option maxRecDepth 100000
variable {w w' : World} {r x : Nat} {lv xv : Value} {D D' : Dk} {W W1 W2 : Wl} {w1 w2 : World}
theorem RgLeft.preK {w0 : World} (k : Keep (fun k => k = r ∨ k = x) w w0) (h : RgLeft w0 r lv xv x D' W1 w1) : RgLeft w r lv xv x D' W1 w1 := by
  obtain ⟨lv1, xv1, h1, h2, h3, h4⟩ := h
  refine ⟨lv1, xv1, h1, h2, k.trans h3 (fun _ _ h => h), fun q hq => (h4 q hq).imp id (fun h5 => Nat.le_trans k.size h5)⟩
/-- One thing behind the other. -/
theorem RgLeft.and (hxf : ¬ rfoot r lv xv x) (hxl : x < w.heap.size) (h : RgLeft w r lv xv x D W1 w1) {Q : Ending → Prop} {f : Nat} {args : Array Value} (hn : ∀ lv1 xv1, RD w1 r lv1 xv1 D → Blk w1 x (rwC r W1) 126 → ¬ rfoot r lv1 xv1 x → Calls Try.prog f args w1 fun e w' => Q e ∧ RgLeft w1 r lv1 xv1 x D' W2 w') : Calls Try.prog f args w1 fun e w' => Q e ∧ RgLeft w r lv xv x D' W2 w' := by
  obtain ⟨lv1, xv1, h1, h2, h3, h4⟩ := h
  have hx1 : ¬ rfoot r lv1 xv1 x := fun hk => by
    rcases h4 x hk with h5 | h5
    · exact hxf h5
    · omega
  refine (hn lv1 xv1 h1 h2 hx1).mono ?_
  rintro e w' ⟨hq, lv2, xv2, g1, g2, g3, g4⟩
  refine ⟨hq, lv2, xv2, g1, g2, h3.trans g3 (fun _ _ h => h), fun k hk => ?_⟩
  rcases g4 k hk with h5 | h5
  · exact h4 k h5
  · exact .inr (Nat.le_trans h3.size h5)
theorem switch91_br {a : Option Addr} {n c : Nat} (hx : Blk w x (rwC r W) 126) (hbr : W.br = true) : Calls Try.prog 91 #[.pointer (some ⟨x, 0, none⟩), .slice a n c] w fun e w' => e = .returned (.int .i64 7) ∧ w' = w := by
  have y5 : w.cell? ⟨x, 5, none⟩ = some (.bool W.br) := hx.cell 5
  rw [hbr] at y5
  clear hx
  go_enter Try.func91, Try.ntmps91
  go_wp2
  go_ret
  exact ⟨rfl, rfl⟩
theorem switch91_range {a : Option Addr} {n c : Nat} (hx : Blk w x (rwC r W) 126) (hbr : W.br = false) (hn : n < 1 ∨ 3648 < n) : Calls Try.prog 91 #[.pointer (some ⟨x, 0, none⟩), .slice a n c] w fun e w' => e = .returned (.int .i64 2) ∧ w' = w := by
  have y5 : w.cell? ⟨x, 5, none⟩ = some (.bool W.br) := hx.cell 5
  rw [hbr] at y5
  clear hx
  have k34 : ∀ w, Calls Try.prog 34 #[] w fun e w' => e = .returned (.int .i64 3648) ∧ w' = w := fun w => most34r
  rcases hn with h1 | h1
  · have h2 : (n : Int) < 1 := by omega
    go_enter Try.func91, Try.ntmps91
    go_wp2_with (go_at_call 34; (refine (k34 _).mono ?_; rintro e wz ⟨rfl, hz9⟩; replace hz9 := hz9.symm; subst hz9))
    go_ret
    exact ⟨rfl, rfl⟩
  · have h2 : ¬ (n : Int) < 1 := by omega
    have h3 : (3648 : Int) < (n : Int) := by omega
    go_enter Try.func91, Try.ntmps91
    go_wp2_with (go_at_call 34; (refine (k34 _).mono ?_; rintro e wz ⟨rfl, hz9⟩; replace hz9 := hz9.symm; subst hz9))
    go_ret
    exact ⟨rfl, rfl⟩
set_option maxHeartbeats 1000000 in
theorem switch91_full {R n c : Nat} {a : Option Addr} (hA : RD w r lv xv D) (hx : Blk w x (rwC r W) 126) (hbr : W.br = false) (hS : D.secs.length = 2 * R) (hR : R ≤ 64) (hn : 1 ≤ n ∧ n ≤ 3648) (hf : R < (n + 56) / 57) :
    Calls Try.prog 91 #[.pointer (some ⟨x, 0, none⟩), .slice a n c] w fun e w' => e = .returned (.int .i64 15) ∧ w' = w.drew := by
  have y5 : w.cell? ⟨x, 5, none⟩ = some (.bool W.br) := hx.cell 5
  rw [hbr] at y5
  have k34 : ∀ w, Calls Try.prog 34 #[] w fun e w' => e = .returned (.int .i64 3648) ∧ w' = w := fun w => most34r
  have k106 : ∀ w, Calls Try.prog 106 #[.slice a n c] w fun e w' => e = .returned (.int .i64 (((n + 56) / 57 : Nat) : Int)) ∧ w' = w := fun w => pieces106 (by omega)
  have k50 := rsize50 (hA.below (Below.refl _ w).drew)
  have hS0 : w.drew.cell? ⟨x, 0, none⟩ = some (.pointer (some ⟨r, 0, none⟩)) := (hx.below (Below.refl _ w).drew).cell 0
  rw [hS] at k50
  obtain ⟨N, hN⟩ : ∃ N, 2 * R = N := ⟨_, rfl⟩
  rw [hN] at k50
  have e1 : (N : Int).tdiv 2 = (R : Int) := half_int hN.symm
  have e4 : IntKind.i64.wrap (R : Int) = (R : Int) := wrap_small _ (by omega) (by omega)
  have e6 : IntKind.i64.wrap (N : Int) = (N : Int) := wrap_small _ (by omega) (by omega)
  have hlt : (R : Int) < (((n + 56) / 57 : Nat) : Int) := by omega
  have h2 : ¬ (n : Int) < 1 := by omega
  have h3 : ¬ (3648 : Int) < (n : Int) := by omega
  clear hA hx hS hR hn hN
  generalize (n + 56) / 57 = M at *
  go_enter Try.func91, Try.ntmps91
  go_wp2_with (go_at_call 34; (refine (k34 _).mono ?_; rintro e wz ⟨rfl, hz9⟩; replace hz9 := hz9.symm; subst hz9))
  go_region_held3 (fun W' => W'.cell? ⟨x, 0, none⟩ = some (.pointer (some ⟨r, 0, none⟩))) (exact hS0) (first
    | (go_at_call 50; (with_reducible refine k50.mono ?_); rintro e w1 ⟨rfl, hz5⟩; replace hz5 := hz5.symm; subst hz5)
    | (go_at_call 106; (with_reducible refine (k106 _).mono ?_); rintro e w1 ⟨rfl, hz5⟩; replace hz5 := hz5.symm; subst hz5))
  go_wp2
  go_ret
  exact ⟨rfl, rfl⟩
set_option maxHeartbeats 4000000 in
theorem switch91_lay {R n c : Nat} {a : Option Addr} {l : Bs} (hA : RD w r lv xv D) (hx : Blk w x (rwC r W) 126) (hxf : ¬ rfoot r lv xv x) (hleft : D.cut = true → 0 ≤ D.left) (hoff : D.off = false) (hw : D.wait.length ≤ 900) (hS : D.secs.length = 2 * R) (hR : R ≤ 64) (hh : W.half = 0 ∨ W.half = 1) (he : W.e < 65535) (hlv : LV EB w (.slice a n c) l) (hl0 : 0 < l.length) (hl : l.length ≤ 3648) (hag : ∀ g o, a = some ⟨g, o, none⟩ → g ≠ r ∧ g ≠ x ∧ g < w.heap.size) (hfit : np l ≤ R) (hbr : W.br = false) (hcan : ¬ D.can (np l)) :
    Calls Try.prog 91 #[.pointer (some ⟨x, 0, none⟩), .slice a n c] w fun e w' => e = .returned (.int .i64 7) ∧ RgLeft w r lv xv x (D.stuck ((1 - W.half) * R + 0) (layP (W.e + 1) 0 l)) ⟨W.half, W.e + 1, W.cnt, W.en, true⟩ w' := by
  have y5 : w.cell? ⟨x, 5, none⟩ = some (.bool W.br) := hx.cell 5
  rw [hbr] at y5
  have hnl : n = l.length := by obtain ⟨_, _, h0⟩ := hlv.form; simp only [Value.slice.injEq] at h0; exact h0.2.1
  have hnp : np l = (n + 56) / 57 := by rw [hnl]; rfl
  have k34 : ∀ w, Calls Try.prog 34 #[] w fun e w' => e = .returned (.int .i64 3648) ∧ w' = w := fun w => most34r
  have k106 : ∀ w, Calls Try.prog 106 #[.slice a n c] w fun e w' => e = .returned (.int .i64 ((np l : Nat) : Int)) ∧ w' = w := fun w => by rw [hnp]; exact pieces106 (by omega)
  have KD : Below w.heap.size w w.drew := (Below.refl _ w).drew
  have k50 := rsize50 (hA.below KD)
  rw [hS] at k50
  have hS0 : w.drew.cell? ⟨x, 0, none⟩ = some (.pointer (some ⟨r, 0, none⟩)) := (hx.below KD).cell 0
  have y4 : w.drew.cell? ⟨x, 4, none⟩ = some (.int .i64 (W.e : Int)) := (hx.below KD).cell 4
  have f4 := (hx.below KD).frozen 4
  have hxl := hx.lt
  have KS : Keep (fun k => k = x) w (w.setCell ⟨x, 4, none⟩ (.int .i64 ((W.e + 1 : Nat) : Int))).drew := (Keep.set (F := fun k => k = x) (p := ⟨x, 4, none⟩) (Keep.refl _ _) (.inr rfl) _).drew
  have hx2 : Blk (w.setCell ⟨x, 4, none⟩ (.int .i64 ((W.e + 1 : Nat) : Int))).drew x (rwC r ⟨W.half, W.e + 1, W.cnt, W.en, false⟩) 126 := by
    have := (hx.set (o := 4) (.int .i64 ((W.e + 1 : Nat) : Int))).below (Below.refl _ _).drew
    rw [← hbr]
    exact this
  have hA2 : RD (w.setCell ⟨x, 4, none⟩ (.int .i64 ((W.e + 1 : Nat) : Int))).drew r lv xv D := hA.keep KS (fun k hk e => hxf (e ▸ hk))
  have hlv2 : LV EB (w.setCell ⟨x, 4, none⟩ (.int .i64 ((W.e + 1 : Nat) : Int))).drew (.slice a n c) l := lv_keepAt hlv fun g o e => by
    obtain ⟨h1, h2, h3⟩ := hag g o e
    exact KS.block g h3 h2
  have hag2 : ∀ g o, a = some ⟨g, o, none⟩ → g ≠ r ∧ g ≠ x ∧ g < (w.setCell ⟨x, 4, none⟩ (.int .i64 ((W.e + 1 : Nat) : Int))).drew.heap.size := fun g o e => by
    obtain ⟨h1, h2, h3⟩ := hag g o e
    exact ⟨h1, h2, Nat.lt_of_lt_of_le h3 KS.size⟩
  have k107 := lay107_no (W := ⟨W.half, W.e + 1, W.cnt, W.en, false⟩) (h := 1 - W.half) (p := 0) (l := l) hA2 hx2 hxf hleft hoff hw hS hR (by omega) (by show W.e + 1 < 65536; omega) hlv2 hl0 hl hag2 (by omega) hcan
  rw [show ((0 : Nat) : Int) = 0 from rfl] at k107
  have z1 : (w.setCell ⟨x, 4, none⟩ (.int .i64 ((W.e + 1 : Nat) : Int))).drew.cell? ⟨x, 1, none⟩ = some (.int .i64 (W.half : Int)) := hx2.cell 1
  have KS2 : Hid (Keep (fun k => k = r ∨ k = x) w (w.setCell ⟨x, 4, none⟩ (.int .i64 ((W.e + 1 : Nat) : Int))).drew) := KS.mono (fun _ _ h => .inr h)

  obtain ⟨N, hN⟩ : ∃ N, 2 * R = N := ⟨_, rfl⟩
  rw [hN] at k50
  have e1 : (N : Int).tdiv 2 = (R : Int) := half_int hN.symm
  have e4 : IntKind.i64.wrap (R : Int) = (R : Int) := wrap_small _ (by omega) (by omega)
  have e6 : IntKind.i64.wrap (N : Int) = (N : Int) := wrap_small _ (by omega) (by omega)
  have hlt : ¬ (R : Int) < ((np l : Nat) : Int) := by omega
  have h2 : ¬ (n : Int) < 1 := by omega
  have h3 : ¬ (3648 : Int) < (n : Int) := by omega
  have HX : Hid (¬ rfoot r lv xv x ∧ x < w.heap.size) := ⟨hxf, hxl⟩
  have hw1 : IntKind.i64.wrap ((W.e : Int) + 1) = ((W.e + 1 : Nat) : Int) := by rw [wrap_small _ (by omega) (by omega)]; omega
  have hw1' : (W.e : Int) + 1 = ((W.e + 1 : Nat) : Int) := by omega
  have hw4 : IntKind.i64.wrap ((W.e + 1 : Nat) : Int) = ((W.e + 1 : Nat) : Int) := wrap_small _ (by omega) (by omega)
  have hw2 : IntKind.i64.wrap (1 - (W.half : Int)) = ((1 - W.half : Nat) : Int) := by rw [wrap_small _ (by omega) (by omega)]; omega
  have hw2' : (1 : Int) - (W.half : Int) = ((1 - W.half : Nat) : Int) := by omega
  have hw5 : IntKind.i64.wrap ((1 - W.half : Nat) : Int) = ((1 - W.half : Nat) : Int) := wrap_small _ (by omega) (by omega)
  have he1 : ¬ (65535 : Int) ≤ (W.e : Int) := by omega
  have he2 : (W.e : Int) ≤ 65535 := by omega
  have hMb : ((np l : Nat) : Int) ≤ 64 := by omega
  obtain ⟨DD, hDD⟩ : ∃ DD, D.stuck ((1 - W.half) * R + 0) (layP (W.e + 1) 0 l) = DD := ⟨_, rfl⟩
  rw [hDD] at k107 ⊢
  obtain ⟨e2, hE2⟩ : ∃ e2, W.e + 1 = e2 := ⟨_, rfl⟩
  rw [hE2] at hw1 hw1' hw4 k107 z1 KS2 ⊢
  obtain ⟨hf2, hhf2⟩ : ∃ hf2, 1 - W.half = hf2 := ⟨_, rfl⟩
  rw [hhf2] at k107 hw2 hw2' hw5
  obtain ⟨M, hM⟩ : ∃ M, np l = M := ⟨_, rfl⟩
  rw [hM] at k106 hlt hMb 
  have HV : Hid (W.e + 1 = e2 ∧ 1 - W.half = hf2 ∧ np l = M ∧ W.br = false ∧ W.br = false) := ⟨hE2, hhf2, hM, hbr, hbr⟩
  obtain ⟨E, hE⟩ : ∃ E : Int, (W.e : Int) = E := ⟨_, rfl⟩
  rw [hE] at y4 hw1 hw1' he1 he2
  have hf2b : (hf2 : Int) ≤ 1 := by omega
  clear hnl hnp hA hx hxf hleft hoff hw hS hR hh he hlv hl0 hl hag hfit hbr hcan KD KS hx2 hA2 hlv2 hag2 hxl hN hDD hE2 hhf2 hM hE 
  go_enter Try.func91, Try.ntmps91
  go_wp2_with (go_at_call 34; (refine (k34 _).mono ?_; rintro e wz ⟨rfl, hz9⟩; replace hz9 := hz9.symm; subst hz9))
  go_region_held3 (fun W' => W'.cell? ⟨x, 0, none⟩ = some (.pointer (some ⟨r, 0, none⟩))) (exact hS0) (first
    | (go_at_call 50; (with_reducible refine k50.mono ?_); rintro e w1 ⟨rfl, hz5⟩; replace hz5 := hz5.symm; subst hz5)
    | (go_at_call 106; (with_reducible refine (k106 _).mono ?_); rintro e w1 ⟨rfl, hz5⟩; replace hz5 := hz5.symm; subst hz5))
  go_wp2_with (first
    | (go_at_call 107; (with_reducible refine k107.mono ?_); rintro e w3 ⟨rfl, hl6⟩; have HL : Hid (RgLeft w r lv xv x DD ⟨W.half, e2, W.cnt, W.en, true⟩ w3) := RgLeft.preK KS2.out hl6; clear hl6))
  go_ret
  exact ⟨rfl, HL.out⟩
set_option maxHeartbeats 4000000 in
theorem switch91_off {R n c : Nat} {a : Option Addr} {l : Bs} (hA : RD w r lv xv D) (hx : Blk w x (rwC r W) 126) (hxf : ¬ rfoot r lv xv x) (hleft : D.cut = true → 0 ≤ D.left) (hoff : D.off = false) (hw : D.wait.length ≤ 900) (hS : D.secs.length = 2 * R) (hR : R ≤ 64) (hh : W.half = 0 ∨ W.half = 1) (he : W.e < 65535) (hlv : LV EB w (.slice a n c) l) (hl0 : 0 < l.length) (hl : l.length ≤ 3648) (hag : ∀ g o, a = some ⟨g, o, none⟩ → g ≠ r ∧ g ≠ x ∧ g < w.heap.size) (hfit : np l ≤ R) (hbr : W.br = false) (hcan : D.can (np l)) (hfl : D.says ((1 - W.half) * R + 0) (layP (W.e + 1) 0 l) = 7) :
    Calls Try.prog 91 #[.pointer (some ⟨x, 0, none⟩), .slice a n c] w fun e w' => e = .returned (.int .i64 7) ∧ RgLeft w r lv xv x (D.sunk ((1 - W.half) * R + 0) (layP (W.e + 1) 0 l)) ⟨W.half, W.e + 1, W.cnt, W.en, true⟩ w' := by
  have y5 : w.cell? ⟨x, 5, none⟩ = some (.bool W.br) := hx.cell 5
  rw [hbr] at y5
  have hnl : n = l.length := by obtain ⟨_, _, h0⟩ := hlv.form; simp only [Value.slice.injEq] at h0; exact h0.2.1
  have hnp : np l = (n + 56) / 57 := by rw [hnl]; rfl
  have k34 : ∀ w, Calls Try.prog 34 #[] w fun e w' => e = .returned (.int .i64 3648) ∧ w' = w := fun w => most34r
  have k106 : ∀ w, Calls Try.prog 106 #[.slice a n c] w fun e w' => e = .returned (.int .i64 ((np l : Nat) : Int)) ∧ w' = w := fun w => by rw [hnp]; exact pieces106 (by omega)
  have KD : Below w.heap.size w w.drew := (Below.refl _ w).drew
  have k50 := rsize50 (hA.below KD)
  rw [hS] at k50
  have hS0 : w.drew.cell? ⟨x, 0, none⟩ = some (.pointer (some ⟨r, 0, none⟩)) := (hx.below KD).cell 0
  have y4 : w.drew.cell? ⟨x, 4, none⟩ = some (.int .i64 (W.e : Int)) := (hx.below KD).cell 4
  have f4 := (hx.below KD).frozen 4
  have hxl := hx.lt
  have KS : Keep (fun k => k = x) w (w.setCell ⟨x, 4, none⟩ (.int .i64 ((W.e + 1 : Nat) : Int))).drew := (Keep.set (F := fun k => k = x) (p := ⟨x, 4, none⟩) (Keep.refl _ _) (.inr rfl) _).drew
  have hx2 : Blk (w.setCell ⟨x, 4, none⟩ (.int .i64 ((W.e + 1 : Nat) : Int))).drew x (rwC r ⟨W.half, W.e + 1, W.cnt, W.en, false⟩) 126 := by
    have := (hx.set (o := 4) (.int .i64 ((W.e + 1 : Nat) : Int))).below (Below.refl _ _).drew
    rw [← hbr]
    exact this
  have hA2 : RD (w.setCell ⟨x, 4, none⟩ (.int .i64 ((W.e + 1 : Nat) : Int))).drew r lv xv D := hA.keep KS (fun k hk e => hxf (e ▸ hk))
  have hlv2 : LV EB (w.setCell ⟨x, 4, none⟩ (.int .i64 ((W.e + 1 : Nat) : Int))).drew (.slice a n c) l := lv_keepAt hlv fun g o e => by
    obtain ⟨h1, h2, h3⟩ := hag g o e
    exact KS.block g h3 h2
  have hag2 : ∀ g o, a = some ⟨g, o, none⟩ → g ≠ r ∧ g ≠ x ∧ g < (w.setCell ⟨x, 4, none⟩ (.int .i64 ((W.e + 1 : Nat) : Int))).drew.heap.size := fun g o e => by
    obtain ⟨h1, h2, h3⟩ := hag g o e
    exact ⟨h1, h2, Nat.lt_of_lt_of_le h3 KS.size⟩
  have k107 := lay107_yes (W := ⟨W.half, W.e + 1, W.cnt, W.en, false⟩) (h := 1 - W.half) (p := 0) (l := l) hA2 hx2 hxf hleft hoff hw hS hR (by omega) (by show W.e + 1 < 65536; omega) hlv2 hl0 hl hag2 (by omega) hcan
  rw [show ((0 : Nat) : Int) = 0 from rfl] at k107
  have z1 : (w.setCell ⟨x, 4, none⟩ (.int .i64 ((W.e + 1 : Nat) : Int))).drew.cell? ⟨x, 1, none⟩ = some (.int .i64 (W.half : Int)) := hx2.cell 1
  have KS2 : Hid (Keep (fun k => k = r ∨ k = x) w (w.setCell ⟨x, 4, none⟩ (.int .i64 ((W.e + 1 : Nat) : Int))).drew) := KS.mono (fun _ _ h => .inr h)
  have K90 : Hid (∀ w3, RgLeft w r lv xv x (D.put ((1 - W.half) * R + 0) (layP (W.e + 1) 0 l)) ⟨W.half, W.e + 1, W.cnt, W.en, false⟩ w3 → Calls Try.prog 90 #[.pointer (some ⟨x, 0, none⟩)] w3 fun e w' => e = .returned (.int .i64 7) ∧ RgLeft w r lv xv x (D.sunk ((1 - W.half) * R + 0) (layP (W.e + 1) 0 l)) ⟨W.half, W.e + 1, W.cnt, W.en, true⟩ w') := fun w3 hl => RgLeft.and (Q := fun e => e = .returned (.int .i64 7)) hxf hxl hl fun lv1 xv1 g1 g2 g3 => by
    have h90 := flush90 g1 g2 g3 rfl (by show 0 < D.secs.length; omega) (by show D.secs.length ≤ 128; omega) (by show (D.wait ++ waitOf _ _).length ≤ 1000; rw [List.length_append, waitOf_length, show (layP (W.e + 1) 0 l).length = np l by simp [layP]]; omega)
    have hsy : (D.put ((1 - W.half) * R + 0) (layP (W.e + 1) 0 l)).flush.1 = 7 := hfl
    rw [hsy] at h90
    exact h90
  obtain ⟨N, hN⟩ : ∃ N, 2 * R = N := ⟨_, rfl⟩
  rw [hN] at k50
  have e1 : (N : Int).tdiv 2 = (R : Int) := half_int hN.symm
  have e4 : IntKind.i64.wrap (R : Int) = (R : Int) := wrap_small _ (by omega) (by omega)
  have e6 : IntKind.i64.wrap (N : Int) = (N : Int) := wrap_small _ (by omega) (by omega)
  have hlt : ¬ (R : Int) < ((np l : Nat) : Int) := by omega
  have h2 : ¬ (n : Int) < 1 := by omega
  have h3 : ¬ (3648 : Int) < (n : Int) := by omega
  have HX : Hid (¬ rfoot r lv xv x ∧ x < w.heap.size) := ⟨hxf, hxl⟩
  have hw1 : IntKind.i64.wrap ((W.e : Int) + 1) = ((W.e + 1 : Nat) : Int) := by rw [wrap_small _ (by omega) (by omega)]; omega
  have hw1' : (W.e : Int) + 1 = ((W.e + 1 : Nat) : Int) := by omega
  have hw4 : IntKind.i64.wrap ((W.e + 1 : Nat) : Int) = ((W.e + 1 : Nat) : Int) := wrap_small _ (by omega) (by omega)
  have hw2 : IntKind.i64.wrap (1 - (W.half : Int)) = ((1 - W.half : Nat) : Int) := by rw [wrap_small _ (by omega) (by omega)]; omega
  have hw2' : (1 : Int) - (W.half : Int) = ((1 - W.half : Nat) : Int) := by omega
  have hw5 : IntKind.i64.wrap ((1 - W.half : Nat) : Int) = ((1 - W.half : Nat) : Int) := wrap_small _ (by omega) (by omega)
  have he1 : ¬ (65535 : Int) ≤ (W.e : Int) := by omega
  have he2 : (W.e : Int) ≤ 65535 := by omega
  have hMb : ((np l : Nat) : Int) ≤ 64 := by omega
  obtain ⟨DD, hDD⟩ : ∃ DD, D.sunk ((1 - W.half) * R + 0) (layP (W.e + 1) 0 l) = DD := ⟨_, rfl⟩
  rw [hDD] at K90 ⊢
  obtain ⟨e2, hE2⟩ : ∃ e2, W.e + 1 = e2 := ⟨_, rfl⟩
  rw [hE2] at hw1 hw1' hw4 k107 z1 KS2 K90 ⊢
  obtain ⟨hf2, hhf2⟩ : ∃ hf2, 1 - W.half = hf2 := ⟨_, rfl⟩
  rw [hhf2] at k107 hw2 hw2' hw5 K90 
  obtain ⟨M, hM⟩ : ∃ M, np l = M := ⟨_, rfl⟩
  rw [hM] at k106 hlt hMb 
  have HV : Hid (W.e + 1 = e2 ∧ 1 - W.half = hf2 ∧ np l = M ∧ W.br = false ∧ W.br = false) := ⟨hE2, hhf2, hM, hbr, hbr⟩
  obtain ⟨E, hE⟩ : ∃ E : Int, (W.e : Int) = E := ⟨_, rfl⟩
  rw [hE] at y4 hw1 hw1' he1 he2
  have hf2b : (hf2 : Int) ≤ 1 := by omega
  clear hnl hnp hA hx hxf hleft hoff hw hS hR hh he hlv hl0 hl hag hfit hbr hcan KD KS hx2 hA2 hlv2 hag2 hxl hN hDD hE2 hhf2 hM hE hfl
  go_enter Try.func91, Try.ntmps91
  go_wp2_with (go_at_call 34; (refine (k34 _).mono ?_; rintro e wz ⟨rfl, hz9⟩; replace hz9 := hz9.symm; subst hz9))
  go_region_held3 (fun W' => W'.cell? ⟨x, 0, none⟩ = some (.pointer (some ⟨r, 0, none⟩))) (exact hS0) (first
    | (go_at_call 50; (with_reducible refine k50.mono ?_); rintro e w1 ⟨rfl, hz5⟩; replace hz5 := hz5.symm; subst hz5)
    | (go_at_call 106; (with_reducible refine (k106 _).mono ?_); rintro e w1 ⟨rfl, hz5⟩; replace hz5 := hz5.symm; subst hz5))
  go_wp2_with (first
    | (go_at_call 107; (with_reducible refine k107.mono ?_); rintro e w3 ⟨rfl, hl6⟩; have k90 := K90.out w3 (RgLeft.preK KS2.out hl6); clear hl6)
    | (go_at_call 90; (with_reducible refine k90.mono ?_); rintro e w4 ⟨rfl, hl7⟩; have HL : Hid (RgLeft w r lv xv x DD ⟨W.half, e2, W.cnt, W.en, true⟩ w4) := hl7; clear hl7))
  go_ret
  exact ⟨rfl, HL.out⟩
set_option maxHeartbeats 4000000 in
theorem switch91_yes {R n c : Nat} {a : Option Addr} {l : Bs} (hA : RD w r lv xv D) (hx : Blk w x (rwC r W) 126) (hxf : ¬ rfoot r lv xv x) (hleft : D.cut = true → 0 ≤ D.left) (hoff : D.off = false) (hw : D.wait.length ≤ 900) (hS : D.secs.length = 2 * R) (hR : R ≤ 64) (hh : W.half = 0 ∨ W.half = 1) (he : W.e < 65535) (hlv : LV EB w (.slice a n c) l) (hl0 : 0 < l.length) (hl : l.length ≤ 3648) (hag : ∀ g o, a = some ⟨g, o, none⟩ → g ≠ r ∧ g ≠ x ∧ g < w.heap.size) (hfit : np l ≤ R) (hbr : W.br = false) (hcan : D.can (np l)) (hfl : D.says ((1 - W.half) * R + 0) (layP (W.e + 1) 0 l) = 0) :
    Calls Try.prog 91 #[.pointer (some ⟨x, 0, none⟩), .slice a n c] w fun e w' => e = .returned (.int .i64 0) ∧ RgLeft w r lv xv x (D.sunk ((1 - W.half) * R + 0) (layP (W.e + 1) 0 l)) ⟨1 - W.half, W.e + 1, 1, np l, false⟩ w' := by
  have y5 : w.cell? ⟨x, 5, none⟩ = some (.bool W.br) := hx.cell 5
  rw [hbr] at y5
  have hnl : n = l.length := by obtain ⟨_, _, h0⟩ := hlv.form; simp only [Value.slice.injEq] at h0; exact h0.2.1
  have hnp : np l = (n + 56) / 57 := by rw [hnl]; rfl
  have k34 : ∀ w, Calls Try.prog 34 #[] w fun e w' => e = .returned (.int .i64 3648) ∧ w' = w := fun w => most34r
  have k106 : ∀ w, Calls Try.prog 106 #[.slice a n c] w fun e w' => e = .returned (.int .i64 ((np l : Nat) : Int)) ∧ w' = w := fun w => by rw [hnp]; exact pieces106 (by omega)
  have KD : Below w.heap.size w w.drew := (Below.refl _ w).drew
  have k50 := rsize50 (hA.below KD)
  rw [hS] at k50
  have hS0 : w.drew.cell? ⟨x, 0, none⟩ = some (.pointer (some ⟨r, 0, none⟩)) := (hx.below KD).cell 0
  have y4 : w.drew.cell? ⟨x, 4, none⟩ = some (.int .i64 (W.e : Int)) := (hx.below KD).cell 4
  have f4 := (hx.below KD).frozen 4
  have hxl := hx.lt
  have KS : Keep (fun k => k = x) w (w.setCell ⟨x, 4, none⟩ (.int .i64 ((W.e + 1 : Nat) : Int))).drew := (Keep.set (F := fun k => k = x) (p := ⟨x, 4, none⟩) (Keep.refl _ _) (.inr rfl) _).drew
  have hx2 : Blk (w.setCell ⟨x, 4, none⟩ (.int .i64 ((W.e + 1 : Nat) : Int))).drew x (rwC r ⟨W.half, W.e + 1, W.cnt, W.en, false⟩) 126 := by
    have := (hx.set (o := 4) (.int .i64 ((W.e + 1 : Nat) : Int))).below (Below.refl _ _).drew
    rw [← hbr]
    exact this
  have hA2 : RD (w.setCell ⟨x, 4, none⟩ (.int .i64 ((W.e + 1 : Nat) : Int))).drew r lv xv D := hA.keep KS (fun k hk e => hxf (e ▸ hk))
  have hlv2 : LV EB (w.setCell ⟨x, 4, none⟩ (.int .i64 ((W.e + 1 : Nat) : Int))).drew (.slice a n c) l := lv_keepAt hlv fun g o e => by
    obtain ⟨h1, h2, h3⟩ := hag g o e
    exact KS.block g h3 h2
  have hag2 : ∀ g o, a = some ⟨g, o, none⟩ → g ≠ r ∧ g ≠ x ∧ g < (w.setCell ⟨x, 4, none⟩ (.int .i64 ((W.e + 1 : Nat) : Int))).drew.heap.size := fun g o e => by
    obtain ⟨h1, h2, h3⟩ := hag g o e
    exact ⟨h1, h2, Nat.lt_of_lt_of_le h3 KS.size⟩
  have k107 := lay107_yes (W := ⟨W.half, W.e + 1, W.cnt, W.en, false⟩) (h := 1 - W.half) (p := 0) (l := l) hA2 hx2 hxf hleft hoff hw hS hR (by omega) (by show W.e + 1 < 65536; omega) hlv2 hl0 hl hag2 (by omega) hcan
  rw [show ((0 : Nat) : Int) = 0 from rfl] at k107
  have z1 : (w.setCell ⟨x, 4, none⟩ (.int .i64 ((W.e + 1 : Nat) : Int))).drew.cell? ⟨x, 1, none⟩ = some (.int .i64 (W.half : Int)) := hx2.cell 1
  have KS2 : Hid (Keep (fun k => k = r ∨ k = x) w (w.setCell ⟨x, 4, none⟩ (.int .i64 ((W.e + 1 : Nat) : Int))).drew) := KS.mono (fun _ _ h => .inr h)
  have K90 : Hid (∀ w3, RgLeft w r lv xv x (D.put ((1 - W.half) * R + 0) (layP (W.e + 1) 0 l)) ⟨W.half, W.e + 1, W.cnt, W.en, false⟩ w3 → Calls Try.prog 90 #[.pointer (some ⟨x, 0, none⟩)] w3 fun e w' => e = .returned (.int .i64 0) ∧ RgLeft w r lv xv x (D.sunk ((1 - W.half) * R + 0) (layP (W.e + 1) 0 l)) ⟨W.half, W.e + 1, W.cnt, W.en, false⟩ w') := fun w3 hl => RgLeft.and (Q := fun e => e = .returned (.int .i64 0)) hxf hxl hl fun lv1 xv1 g1 g2 g3 => by
    have h90 := flush90 g1 g2 g3 rfl (by show 0 < D.secs.length; omega) (by show D.secs.length ≤ 128; omega) (by show (D.wait ++ waitOf _ _).length ≤ 1000; rw [List.length_append, waitOf_length, show (layP (W.e + 1) 0 l).length = np l by simp [layP]]; omega)
    have hsy : (D.put ((1 - W.half) * R + 0) (layP (W.e + 1) 0 l)).flush.1 = 0 := hfl
    rw [hsy] at h90
    exact h90
  obtain ⟨N, hN⟩ : ∃ N, 2 * R = N := ⟨_, rfl⟩
  rw [hN] at k50
  have e1 : (N : Int).tdiv 2 = (R : Int) := half_int hN.symm
  have e4 : IntKind.i64.wrap (R : Int) = (R : Int) := wrap_small _ (by omega) (by omega)
  have e6 : IntKind.i64.wrap (N : Int) = (N : Int) := wrap_small _ (by omega) (by omega)
  have hlt : ¬ (R : Int) < ((np l : Nat) : Int) := by omega
  have h2 : ¬ (n : Int) < 1 := by omega
  have h3 : ¬ (3648 : Int) < (n : Int) := by omega
  have HX : Hid (¬ rfoot r lv xv x ∧ x < w.heap.size) := ⟨hxf, hxl⟩
  have hw1 : IntKind.i64.wrap ((W.e : Int) + 1) = ((W.e + 1 : Nat) : Int) := by rw [wrap_small _ (by omega) (by omega)]; omega
  have hw1' : (W.e : Int) + 1 = ((W.e + 1 : Nat) : Int) := by omega
  have hw4 : IntKind.i64.wrap ((W.e + 1 : Nat) : Int) = ((W.e + 1 : Nat) : Int) := wrap_small _ (by omega) (by omega)
  have hw2 : IntKind.i64.wrap (1 - (W.half : Int)) = ((1 - W.half : Nat) : Int) := by rw [wrap_small _ (by omega) (by omega)]; omega
  have hw2' : (1 : Int) - (W.half : Int) = ((1 - W.half : Nat) : Int) := by omega
  have hw5 : IntKind.i64.wrap ((1 - W.half : Nat) : Int) = ((1 - W.half : Nat) : Int) := wrap_small _ (by omega) (by omega)
  have he1 : ¬ (65535 : Int) ≤ (W.e : Int) := by omega
  have he2 : (W.e : Int) ≤ 65535 := by omega
  have hMb : ((np l : Nat) : Int) ≤ 64 := by omega
  obtain ⟨DD, hDD⟩ : ∃ DD, D.sunk ((1 - W.half) * R + 0) (layP (W.e + 1) 0 l) = DD := ⟨_, rfl⟩
  rw [hDD] at K90 ⊢
  obtain ⟨e2, hE2⟩ : ∃ e2, W.e + 1 = e2 := ⟨_, rfl⟩
  rw [hE2] at hw1 hw1' hw4 k107 z1 KS2 K90 ⊢
  obtain ⟨hf2, hhf2⟩ : ∃ hf2, 1 - W.half = hf2 := ⟨_, rfl⟩
  rw [hhf2] at k107 hw2 hw2' hw5 K90 ⊢
  obtain ⟨M, hM⟩ : ∃ M, np l = M := ⟨_, rfl⟩
  rw [hM] at k106 hlt hMb ⊢
  have HV : Hid (W.e + 1 = e2 ∧ 1 - W.half = hf2 ∧ np l = M ∧ W.br = false ∧ W.br = false) := ⟨hE2, hhf2, hM, hbr, hbr⟩
  obtain ⟨E, hE⟩ : ∃ E : Int, (W.e : Int) = E := ⟨_, rfl⟩
  rw [hE] at y4 hw1 hw1' he1 he2
  have hf2b : (hf2 : Int) ≤ 1 := by omega
  clear hnl hnp hA hx hxf hleft hoff hw hS hR hh he hlv hl0 hl hag hfit hbr hcan KD KS hx2 hA2 hlv2 hag2 hxl hN hDD hE2 hhf2 hM hE hfl
  go_enter Try.func91, Try.ntmps91
  go_wp2_with (go_at_call 34; (refine (k34 _).mono ?_; rintro e wz ⟨rfl, hz9⟩; replace hz9 := hz9.symm; subst hz9))
  go_region_held3 (fun W' => W'.cell? ⟨x, 0, none⟩ = some (.pointer (some ⟨r, 0, none⟩))) (exact hS0) (first
    | (go_at_call 50; (with_reducible refine k50.mono ?_); rintro e w1 ⟨rfl, hz5⟩; replace hz5 := hz5.symm; subst hz5)
    | (go_at_call 106; (with_reducible refine (k106 _).mono ?_); rintro e w1 ⟨rfl, hz5⟩; replace hz5 := hz5.symm; subst hz5))
  go_wp2_with (first
    | (go_at_call 107; (with_reducible refine k107.mono ?_); rintro e w3 ⟨rfl, hl6⟩; have k90 := K90.out w3 (RgLeft.preK KS2.out hl6); clear hl6)
    | (go_at_call 90; (with_reducible refine k90.mono ?_); rintro e w4 ⟨rfl, hl7⟩; have HL : Hid (RgLeft w r lv xv x DD ⟨W.half, e2, W.cnt, W.en, false⟩ w4) := hl7; clear hl7))
  have hb7 := HL.out.blk.below (Below.refl _ w4).drew
  have u1 : w4.drew.cell? ⟨x, 1, none⟩ = some (.int .i64 (W.half : Int)) := hb7.cell 1
  have u2 : w4.drew.cell? ⟨x, 2, none⟩ = some (.int .i64 (W.en : Int)) := hb7.cell 2
  have u3 : w4.drew.cell? ⟨x, 3, none⟩ = some (.int .i64 (W.cnt : Int)) := hb7.cell 3
  have v2 : w4.cell? ⟨x, 2, none⟩ = some (.int .i64 (W.en : Int)) := HL.out.blk.cell 2
  have v3 : w4.cell? ⟨x, 3, none⟩ = some (.int .i64 (W.cnt : Int)) := HL.out.blk.cell 3
  have g1 := hb7.frozen 1
  have g2 := hb7.frozen 2
  have g3 := hb7.frozen 3
  have gA2 := ((HL.out.blk.set (o := 1) (.int .i64 (hf2 : Int))).below (Below.refl _ _).drew).frozen 2
  have gB3 := (((HL.out.blk.set (o := 1) (.int .i64 (hf2 : Int))).set (o := 2) (.int .i64 (M : Int))).below (Below.refl _ _).drew).frozen 3
  have k106w := k106 w4.drew
  clear hb7
  go_region_law (go_simp; (with_reducible refine Calls.mono k106w ?_); rintro e wz ⟨rfl, hz9⟩; replace hz9 := hz9.symm; subst hz9)
  all_goals go_wp2
  all_goals go_ret
  all_goals refine ⟨rfl, ?_⟩
  all_goals exact (((HL.out.set (o := 1) (v := .int .i64 (hf2 : Int)) (W2 := ⟨hf2, e2, W.cnt, W.en, false⟩) HX.out.1 HX.out.2 rfl).set (o := 2) (v := .int .i64 (M : Int)) (W2 := ⟨hf2, e2, W.cnt, M, false⟩) HX.out.1 HX.out.2 rfl).set (o := 3) (v := .int .i64 1) (W2 := ⟨hf2, e2, 1, M, false⟩) HX.out.1 HX.out.2 rfl).below (Below.refl _ _).drew
end Go.Proofs.Ytnganmekiloigaa
/-! ### What the document's log reads off a disk is what the program's does, if no piece of an epoch is without bytes. -/
namespace Go.Proofs.Ytnganmekiloigaa
open Go.RowKit
/-- No piece of an epoch is without bytes. -/
def Zn (h : List Pc) : Prop := ∀ x ∈ h, 0 < x.e → 1 ≤ x.z
theorem dueR_eq {h : List Pc} {p i : Nat} {f : Pc} (hg : Zn h) (hf : 0 < f.e) (hi : i < f.n) : dueR h p f i = due h p f i := by
  unfold dueR due
  cases hx : h[p + i]? with
  | none => rfl
  | some x =>
    have hm := hg x (List.mem_of_getElem? hx)
    simp only
    rw [Bool.eq_iff_iff]
    by_cases hl : i + 1 < f.n
    · rw [if_pos hl]
      simp only [Bool.and_eq_true, beq_iff_eq, decide_eq_true_eq, Bool.or_eq_true]
      constructor
      · rintro ⟨h1, h2, h3, h4, h5, h6, h7⟩
        exact ⟨⟨⟨⟨h1, h2⟩, h3⟩, h4⟩, by omega⟩
      · rintro ⟨⟨⟨⟨h1, h2⟩, h3⟩, h4⟩, h5⟩
        exact ⟨h1, h2, h3, h4, by omega, .inr h5, by omega⟩
    · rw [if_neg hl]
      simp only [Bool.and_eq_true, beq_iff_eq, decide_eq_true_eq, Bool.or_eq_true]
      constructor
      · rintro ⟨h1, h2, h3, h4, h5, h6, h7⟩
        exact ⟨⟨⟨⟨h1, h2⟩, h3⟩, h4⟩, by omega⟩
      · rintro ⟨⟨⟨⟨h1, h2⟩, h3⟩, h4⟩, h5⟩
        exact ⟨h1, h2, h3, h4, by omega, .inl (by omega), hm (by omega)⟩
theorem atR_eq {h : List Pc} {p : Nat} (hg : Zn h) : atR h p = standP h p := by
  unfold atR standP
  cases hf : h[p]? with
  | none => rfl
  | some f =>
    simp only
    by_cases hb : f.e = 0 ∨ f.n < 1 ∨ 64 < f.n ∨ h.length - p < f.n
    · rw [if_pos hb, if_pos (by omega)]
    · have hb2 : ¬ (f.e = 0 ∨ f.n < 1 ∨ min 64 (h.length - p) < f.n) := by omega
      rw [if_neg hb, if_neg hb2]
      have : (List.range f.n).all (dueR h p f) = (List.range f.n).all (due h p f) := by
        rw [Bool.eq_iff_iff, List.all_eq_true, List.all_eq_true]
        constructor
        · intro ha i hi
          rw [← dueR_eq hg (by omega) (List.mem_range.1 hi)]
          exact ha i hi
        · intro ha i hi
          rw [dueR_eq hg (by omega) (List.mem_range.1 hi)]
          exact ha i hi
      rw [this]
theorem chainR_eq {h : List Pc} (hg : Zn h) : ∀ (g p e : Nat), chainR h g p e = chainP h g p e
  | 0, _, _ => rfl
  | g + 1, p, e => by
    unfold chainR chainP
    rw [atR_eq hg]
    by_cases hp : p < h.length
    · rw [if_pos hp]
      cases standP h p with
      | none => rfl
      | some r =>
        simp only
        rw [chainR_eq hg g]
    · rw [if_neg hp]
      have : standP h p = none := by
        unfold standP
        rw [List.getElem?_eq_none (by omega)]
      rw [this]
theorem firstE_eq {h : List Pc} (hg : Zn h) (g : Nat) : firstE h (chainR h (g + 1) 0 0) = epoch0 h := by
  rw [chainR_eq hg]
  unfold epoch0
  cases hs : standP h 0 with
  | none =>
    have hc : chainP h (g + 1) 0 0 = [] := by unfold chainP; rw [hs]
    rw [hc]
    rfl
  | some r =>
    have hc : chainP h (g + 1) 0 0 = r :: chainP h g (0 + r.n) r.e := by
      show (match standP h 0 with | none => [] | some r => if r.e < 0 then [] else r :: chainP h g (0 + r.n) r.e) = _
      rw [hs]
      simp only [Nat.not_lt_zero, if_false]
    rw [hc]
    rw [← atR_eq hg] at hs
    obtain ⟨f, h1, h2, _⟩ := atR_some hs
    unfold firstE
    rw [h1, if_neg (by simp)]
    exact h2.symm
theorem Zn.half {S : List Bs} (hg : Zn (pcs S)) (k : Nat) : Zn (halfP S k) := fun x hx => hg x (List.mem_of_mem_drop (List.mem_of_mem_take hx))
theorem halfR_eq {S : List Bs} (hg : Zn (pcs S)) (k : Nat) : halfR S k = chainP (halfP S k) (S.length / 2 + 1) 0 0 := chainR_eq (hg.half k) _ _ _
theorem forceR_eq {S : List Bs} (hg : Zn (pcs S)) : forceR S = forceP S := by
  unfold forceR forceP halfR
  rw [firstE_eq (hg.half 0), firstE_eq (hg.half 1)]
theorem toldR_eq {S : List Bs} (hg : Zn (pcs S)) : halfR S (forceR S) = toldP S := by
  rw [halfR_eq hg, forceR_eq hg]
  rfl
/-- The sectors that are laid have bytes. -/
theorem lay_zn {e p : Nat} {l : Bs} : ∀ s ∈ layP e p l, 1 ≤ (pcOf s).z := by
  intro s hs
  obtain ⟨i, hi, rfl⟩ := List.mem_map.1 hs
  have hi := List.mem_range.1 hi
  unfold np at hi
  have hz : (pcOf (secOf e (p + i) i (np l) (partOf l i))).z = (partOf l i).length % 256 := by
    simp [pcOf, u8, secOf]
  rw [hz, part_length]
  omega
theorem zn_land {k : Nat → Bool} : ∀ (n : Nat) (x : List (Nat × Bs)) (S : List Bs), Zn (pcs S) → (∀ y ∈ x, 1 ≤ (pcOf y.2).z) → Zn (pcs (land k n x S))
  | _, [], S, h, _ => h
  | n, y :: r, S, h, hx => by
    unfold land
    refine zn_land (n + 1) r _ ?_ (fun z hz => hx z (List.mem_cons_of_mem _ hz))
    split
    · intro z hz he
      obtain ⟨s, hs, rfl⟩ := List.mem_map.1 hz
      rcases List.mem_or_eq_of_mem_set hs with h1 | h1
      · exact h _ (List.mem_map.2 ⟨s, h1, rfl⟩) he
      · rw [h1]
        exact hx y (by simp)
    · exact h
end Go.Proofs.Ytnganmekiloigaa
/-! ### The pair: the program's log and the document's, on disks that say the same. -/
namespace Go.Proofs.Ytnganmekiloigaa
open Go.RowKit
variable {w w' w1 w2 : World} {B d s x r y q : Nat} {lv xv : Value} {D D' : Dk} {W W' : Wl} {G G2 : List Nat}
/-- Blocks that are the log's own are turned, and others are new. -/
theorem LG.renew {F : Nat → Prop} (h : LG B w d s D x W G) (k : Keep F w w') (hF : ∀ b, F b → b ∈ G) (hG : ∀ g ∈ G2, (g ∈ G ∨ w.heap.size ≤ g) ∧ g < w'.heap.size) : LG B w' d s D x W G2 := by
  have hxl := h.wal.lt
  have hxF : ¬ F x := fun e => h.nx (hF x e)
  obtain ⟨wv, p1, p2, p3, p4⟩ := h.disk
  refine ⟨⟨wv, p1.keep k (fun b hb e => (p2 b (List.mem_cons_of_mem _ (hF b e))).1 hb), fun g hg => ?_, p3, Nat.le_trans p4 k.size⟩, h.wal.block (k.block x hxl hxF), fun hm => ?_, h.bx⟩
  · rcases List.mem_cons.1 hg with rfl | hg
    · exact ⟨(p2 _ (by simp)).1, Nat.lt_of_lt_of_le hxl k.size⟩
    · obtain ⟨h1 | h1, h2⟩ := hG g hg
      · exact ⟨(p2 g (List.mem_cons_of_mem _ h1)).1, h2⟩
      · exact ⟨fun hf => by have := p1.foot_lt _ hf; omega, h2⟩
  · obtain ⟨h1 | h1, _⟩ := hG x hm
    · exact h.nx h1
    · omega
/-- The blocks of the document's disk, and its log's, and the pair's. -/
def own4 (q y r : Nat) (lv xv : Value) : List Nat := q :: y :: r :: (lv.ownBlock.toList ++ xv.ownBlock.toList)
theorem mem_own4 {g : Nat} : g ∈ own4 q y r lv xv ↔ g = q ∨ g = y ∨ rfoot r lv xv g := by
  unfold own4 rfoot
  simp only [List.mem_cons, List.mem_append, Option.mem_toList]
/-- The pair at q. -/
structure Pr (B : Nat) (w : World) (q d s r : Nat) (D : Dk) (x y : Nat) (W : Wl) : Prop where
  blk : Blk w q [.pointer (some ⟨d, 0, none⟩), .pointer (some ⟨x, 0, none⟩), .pointer (some ⟨r, 0, none⟩), .pointer (some ⟨y, 0, none⟩)] 60
  bq : B ≤ q
  ex : ∃ lv xv, RD w r lv xv D ∧ Blk w y (rwC r W) 126 ∧ LG B w d s D x W (own4 q y r lv xv) ∧ ¬ rfoot r lv xv y ∧ ¬ rfoot r lv xv q ∧ q ≠ y ∧ ∀ g ∈ own4 q y r lv xv, B ≤ g
theorem Pr.below (h : Pr B w q d s r D x y W) (k : Below w.heap.size w w') : Pr B w' q d s r D x y W := by
  obtain ⟨lv, xv, h1, h2, h3, h4⟩ := h.ex
  exact ⟨h.blk.below k, h.bq, lv, xv, h1.below k, h2.below k, h3.below k, h4⟩
/-- A deed on the program's log, and then on the document's. -/
theorem Pr.step (h : Pr B w q d s r D x y W) (hp : ∀ lv xv, RD w r lv xv D → LG B w d s D x W (own4 q y r lv xv) → LG B w1 d s D' x W' (own4 q y r lv xv) ∧ Kept (own4 q y r lv xv) w w1 ∧ Below B w w1)
    (hd : ∀ lv xv, RD w1 r lv xv D → Blk w1 y (rwC r W) 126 → ¬ rfoot r lv xv y → Blk w1 q [.pointer (some ⟨d, 0, none⟩), .pointer (some ⟨x, 0, none⟩), .pointer (some ⟨r, 0, none⟩), .pointer (some ⟨y, 0, none⟩)] 60 → RgLeft w1 r lv xv y D' W' w2) : Pr B w2 q d s r D' x y W' ∧ Below B w w2 := by
  obtain ⟨lv, xv, h1, h2, h3, h4, h5, h6, h7⟩ := h.ex
  obtain ⟨l1, l2, l3⟩ := hp lv xv h1 h3
  have m : ∀ g, rfoot r lv xv g → g ∈ own4 q y r lv xv := fun g hg => mem_own4.2 (.inr (.inr hg))
  have g1 : RD w1 r lv xv D := h1.blocks l3.size fun k hk => l2 k (m k hk)
  have g2 : Blk w1 y (rwC r W) 126 := h2.block (l2 y (mem_own4.2 (.inr (.inl rfl))))
  have g3 := h.blk.block (l2 q (mem_own4.2 (.inl rfl)))
  obtain ⟨lv2, xv2, r1, r2, r3, r4⟩ := hd lv xv g1 g2 h4 g3
  have hyl := g2.lt
  have hql := g3.lt
  have hqr : q ≠ r := fun e => h5 (.inl e)
  have hB : B ≤ w1.heap.size := Nat.le_trans h.bq (Nat.le_of_lt hql)
  refine ⟨⟨g3.block (r3.block q hql (by rintro (e | e); exact hqr e; exact h6 e)), h.bq, lv2, xv2, r1, r2, ?_, fun hy => ?_, fun hq => ?_, h6, fun g hg => ?_⟩, l3.trans (r3.below hB ?_)⟩
  · refine l1.renew r3 (fun b hb => ?_) (fun g hg => ?_)
    · rcases hb with rfl | rfl
      · exact m _ (.inl rfl)
      · exact mem_own4.2 (.inr (.inl rfl))
    · rcases mem_own4.1 hg with rfl | rfl | hf
      · exact ⟨.inl (mem_own4.2 (.inl rfl)), Nat.lt_of_lt_of_le hql r3.size⟩
      · exact ⟨.inl (mem_own4.2 (.inr (.inl rfl))), Nat.lt_of_lt_of_le hyl r3.size⟩
      · exact ⟨(r4 g hf).imp (m g) id, r1.foot_lt g hf⟩
  · rcases r4 y hy with e | e
    · exact h4 e
    · omega
  · rcases r4 q hq with e | e
    · exact h5 e
    · omega
  · rcases mem_own4.1 hg with rfl | rfl | hf
    · exact h.bq
    · exact h7 _ (mem_own4.2 (.inr (.inl rfl)))
    · rcases r4 g hf with e | e
      · exact h7 g (m g e)
      · omega
  · rintro i (rfl | rfl)
    · exact h7 _ (m _ (.inl rfl))
    · exact h7 _ (mem_own4.2 (.inr (.inl rfl)))
end Go.Proofs.Ytnganmekiloigaa
/-! ### What stays of the pair's disk, whatever is done. -/
namespace Go.Proofs.Ytnganmekiloigaa
open Go.RowKit
set_option maxRecDepth 100000
variable {w w' : World} {B d s x : Nat} {D : Dk} {W : Wl}
theorem append42_br {n c : Nat} {a : Option Addr} (hx : Blk w x (wlC d W) 111) (hbr : W.br = true) :
    Calls Try.prog 42 #[.pointer (some ⟨x, 0, none⟩), .slice a n c] w fun e w' => e = .returned (.tuple #[.int .i64 0, .int .i64 7]) ∧ Below w.heap.size w w' := by
  have k78 : ∀ W2, Below w.heap.size w W2 → Calls Try.prog 78 #[.pointer (some ⟨x, 0, none⟩), .slice a n c] W2 fun e w' => e = .returned (.int .i64 7) ∧ w' = W2 := fun W2 k => by
    have := takes78 (hx.below k) a n c
    unfold takesP at this
    rw [hbr, if_pos rfl] at this
    exact this
  clear hx
  go_enter Try.func42, Try.ntmps42
  go_wp2_with (go_at_call 78; (refine (k78 _ (bmore (al _ _) (al _ _))).mono ?_; rintro e w1 ⟨rfl, rfl⟩))
  refine bodyPost_ret (v := .tuple #[.int .i64 0, .int .i64 7]) (by simp [results, Try.results42]) rfl ⟨rfl, bmore (al _ _) (al _ _)⟩
theorem switch41_br {n c : Nat} {a : Option Addr} (hx : Blk w x (wlC d W) 111) (hbr : W.br = true) :
    Calls Try.prog 41 #[.pointer (some ⟨x, 0, none⟩), .slice a n c] w fun e w' => e = .returned (.int .i64 7) ∧ Below w.heap.size w w' := by
  have k78 : ∀ W2, Below w.heap.size w W2 → Calls Try.prog 78 #[.pointer (some ⟨x, 0, none⟩), .slice a n c] W2 fun e w' => e = .returned (.int .i64 7) ∧ w' = W2 := fun W2 k => by
    have := takes78 (hx.below k) a n c
    unfold takesP at this
    rw [hbr, if_pos rfl] at this
    exact this
  clear hx
  go_enter Try.func41, Try.ntmps41
  go_wp2_with (go_at_call 78; (refine (k78 _ (bmore (al _ _) (al _ _))).mono ?_; rintro e w1 ⟨rfl, rfl⟩))
  go_ret
  exact ⟨rfl, bmore (al _ _) (al _ _)⟩
/-- What a laid sector says. -/
theorem lay_pc {E p : Nat} {l : Bs} (hE : E < 65536) (hp : p + np l < 65536) (hl : l.length ≤ 3648) : ∀ s ∈ layP E p l, (pcOf s).e = E ∧ 1 ≤ (pcOf s).z := by
  intro s hs
  refine ⟨?_, lay_zn s hs⟩
  obtain ⟨i, hi, rfl⟩ := List.mem_map.1 hs
  have hi := List.mem_range.1 hi
  have hn : np l ≤ 64 := by unfold np; omega
  rw [pc_sec hE (by omega) (by omega) (by omega) (by rw [part_length]; omega)]
theorem mem_waitOf : ∀ (X : List Bs) (b : Nat) (y : Nat × Bs), y ∈ waitOf b X → y.2 ∈ X
  | [], _, _, h => by simp [waitOf] at h
  | z :: r, b, y, h => by
    unfold waitOf at h
    rcases List.mem_cons.1 h with rfl | h
    · simp
    · exact List.mem_cons_of_mem _ (mem_waitOf r _ y h)
/-- A disk on which logs alone have written: of R sectors a half, n that wait, no epoch above E. -/
structure Dz (R n E : Nat) (D : Dk) : Prop where
  len : D.secs.length = 2 * R
  left : D.cut = true → 0 ≤ D.left
  wait : D.wait.length ≤ n
  zn : Zn (pcs D.secs)
  zw : ∀ y ∈ D.wait, 1 ≤ (pcOf y.2).z
  es : ∀ x ∈ pcs D.secs, x.e ≤ E
  ew : ∀ y ∈ D.wait, (pcOf y.2).e ≤ E
theorem Dz.more {R n E n' E' : Nat} (h : Dz R n E D) (hn : n ≤ n') (hE : E ≤ E') : Dz R n' E' D := ⟨h.len, h.left, Nat.le_trans h.wait hn, h.zn, h.zw, fun x hx => Nat.le_trans (h.es x hx) hE, fun y hy => Nat.le_trans (h.ew y hy) hE⟩
theorem Dz.off {R n E : Nat} (h : Dz R n E D) (b : Bool) : Dz R n E { D with off := b } := ⟨h.len, h.left, h.wait, h.zn, h.zw, h.es, h.ew⟩
theorem Dz.put {R n E b : Nat} {X : List Bs} (h : Dz R n E D) (hX : ∀ s ∈ X, (pcOf s).e ≤ E ∧ 1 ≤ (pcOf s).z) (hc : D.can X.length) : Dz R (n + X.length) E (D.put b X) := by
  refine ⟨h.len, fun hcut => ?_, ?_, h.zn, fun y hy => ?_, h.es, fun y hy => ?_⟩
  · have hcut : D.cut = true := hcut
    show 0 ≤ (if D.cut then D.left - X.length else D.left)
    rw [if_pos hcut]
    rcases hc with h1 | h1
    · rw [hcut] at h1; cases h1
    · omega
  · show (D.wait ++ waitOf b X).length ≤ _
    rw [List.length_append, waitOf_length]
    have := h.wait
    omega
  · rcases List.mem_append.1 hy with h1 | h1
    · exact h.zw y h1
    · exact (hX _ (mem_waitOf X b y h1)).2
  · rcases List.mem_append.1 hy with h1 | h1
    · exact h.ew y h1
    · exact (hX _ (mem_waitOf X b y h1)).1
theorem es_land {k : Nat → Bool} {E : Nat} : ∀ (n : Nat) (x : List (Nat × Bs)) (S : List Bs), (∀ y ∈ pcs S, y.e ≤ E) → (∀ y ∈ x, (pcOf y.2).e ≤ E) → ∀ y ∈ pcs (land k n x S), y.e ≤ E
  | _, [], S, h, _ => h
  | n, y :: r, S, h, hx => by
    unfold land
    refine es_land (n + 1) r _ ?_ (fun z hz => hx z (List.mem_cons_of_mem _ hz))
    split
    · intro z hz
      obtain ⟨s, hs, rfl⟩ := List.mem_map.1 hz
      rcases List.mem_or_eq_of_mem_set hs with h1 | h1
      · exact h _ (List.mem_map.2 ⟨s, h1, rfl⟩)
      · rw [h1]
        exact hx y (by simp)
    · exact h
theorem Dz.crash {R n E : Nat} (h : Dz R n E D) (keep : List Bool) : Dz R 0 E (D.crash keep) :=
  ⟨by show (land _ 0 D.wait D.secs).length = _; rw [land_length]; exact h.len, fun hc => (by cases hc), Nat.le_refl _, zn_land 0 D.wait D.secs h.zn h.zw, fun y hy => absurd hy (by show ¬ y ∈ []; simp), es_land 0 D.wait D.secs h.es h.ew, fun y hy => absurd hy (by show ¬ y ∈ []; simp)⟩
theorem Dz.spend {R n E : Nat} (h : Dz R n E D) : Dz R n E D.spend.2 := by
  unfold Dk.spend
  split
  · rename_i hc
    split
    · exact h.off true
    · rename_i h0
      refine ⟨h.len, fun _ => ?_, h.wait, h.zn, h.zw, h.es, h.ew⟩
      have := h.left hc
      show 0 ≤ D.left - 1
      omega
  · exact h
theorem Dz.flush {R n E : Nat} (h : Dz R n E D) : Dz R n E D.flush.2 := by
  unfold Dk.flush
  split
  · exact h
  · split
    · have h1 := h.spend
      exact ⟨by show (land _ 0 D.wait D.secs).length = _; rw [land_length]; exact h.len, h1.left, Nat.zero_le _, zn_land 0 D.wait D.secs h.zn h.zw, fun y hy => absurd hy (by show ¬ y ∈ []; simp), es_land 0 D.wait D.secs h.es h.ew, fun y hy => absurd hy (by show ¬ y ∈ []; simp)⟩
    · exact h.spend
theorem Dz.stuck {R n E b : Nat} {X : List Bs} (h : Dz R n E D) (hX : ∀ s ∈ X, (pcOf s).e ≤ E ∧ 1 ≤ (pcOf s).z) (hc : ¬ D.can X.length) : Dz R (n + X.length) E (D.stuck b X) := by
  have hcut : D.cut = true := by
    rcases hd : D.cut with _ | _
    · exact absurd (.inl hd) hc
    · rfl
  have hl := h.left hcut
  have hlt : ¬ ((X.length : Int) ≤ D.left) := fun h1 => hc (.inr h1)
  have hlen : (X.take D.left.toNat).length = D.left.toNat := by rw [List.length_take]; omega
  have h1 := h.put (b := b) (X := X.take D.left.toNat) (fun s hs => hX s (List.mem_of_mem_take hs)) (.inr (by rw [hlen]; omega))
  exact (h1.more (by rw [hlen]; omega) (Nat.le_refl _)).off true
theorem Dz.doCut {R n E : Nat} (h : Dz R n E D) (m : Int) : Dz R n E (D.doCut m) := by
  unfold Dk.doCut
  split
  · exact h
  · exact ⟨h.len, fun _ => Int.le_max_right _ _, h.wait, h.zn, h.zw, h.es, h.ew⟩
end Go.Proofs.Ytnganmekiloigaa
/-! ### A deed on both logs: both answer the same, and both disks say the same. -/
namespace Go.Proofs.Ytnganmekiloigaa
open Go.RowKit
set_option maxRecDepth 100000
variable {w w' : World} {B d s x r y : Nat} {D D' : Dk} {W W' : Wl} {G : List Nat}
/-- Behind k deeds. -/
structure Bd (k : Nat) (D : Dk) (W : Wl) : Prop where
  dz : Dz 6 (8 * k) W.e D
  off : W.br = false → D.off = false
  half : W.half = 0 ∨ W.half = 1
  en : W.en ≤ 6
  e : W.e ≤ k + 1
  cnt : W.cnt ≤ W.en
theorem Bd.next {k : Nat} (h : Bd k D W) : Bd (k + 1) D W := ⟨h.dz.more (by omega) (Nat.le_refl _), h.off, h.half, h.en, by have := h.e; omega, h.cnt⟩
/-- What a deed f does on the program's log, and g on the document's. -/
structure Did (k : Nat) (w : World) (B d s x y r : Nat) (D : Dk) (W : Wl) (f g : Nat) (args : List Value) (res : Value) (D' : Dk) (W' : Wl) : Prop where
  bd : Bd (k + 1) D' W'
  p : ∀ G, LG B w d s D x W G → Calls Try.prog f (.pointer (some ⟨x, 0, none⟩) :: args).toArray w fun e w1 => e = .returned res ∧ LG B w1 d s D' x W' G ∧ Kept G w w1 ∧ Below B w w1
  r : ∀ w1 lv xv, Below B w w1 → RD w1 r lv xv D → Blk w1 y (rwC r W) 126 → ¬ rfoot r lv xv y → Calls Try.prog g (.pointer (some ⟨y, 0, none⟩) :: args).toArray w1 fun e w2 => e = .returned res ∧ RgLeft w1 r lv xv y D' W' w2
theorem Kept.below (k : Below w.heap.size w w') (hG : ∀ g ∈ G, g < w.heap.size) : Kept G w w' := fun g hg => k.block g (hG g hg)
theorem wl_eta (h : W.br = false) : (⟨W.half, W.e, W.cnt, W.en, false⟩ : Wl) = W := by rw [← h]
theorem flush_both {k : Nat} (hb : Bd k D W) (hk : k ≤ 30) : ∃ m D' W', Did k w B d s x y r D W 39 90 [] (.int .i64 m) D' W' := by
  have hwt := hb.dz.wait
  rcases hbr : W.br with _ | _
  · have hoff := hb.off hbr
    have hf : D.flush.1 = 0 ∨ D.flush.1 = 7 := by
      unfold Dk.flush
      split
      · exact .inr rfl
      · split
        · exact .inl rfl
        · exact .inr rfl
    have hlen := hb.dz.len
    rcases hf with hf | hf
    · refine ⟨0, D.flush.2, W, ⟨⟨hb.dz.flush.more (by omega) (Nat.le_refl _), fun _ => ?_, hb.half, hb.en, by have := hb.e; omega, hb.cnt⟩, fun G hA => flush39 hA hbr hf (by omega) hA.glt, fun w1 lv xv _ h1 h2 h3 => ?_⟩⟩
      · unfold Dk.flush at hf ⊢
        rw [hoff] at hf ⊢
        simp only [Bool.false_eq_true, if_false] at hf ⊢
        split at hf
        · rename_i hsp
          rw [if_pos hsp]
          unfold Dk.spend at hsp ⊢
          split
          · split
            · rename_i h0
              simp_all
            · exact hoff
          · exact hoff
        · cases hf
      · have h9 := flush90 h1 h2 h3 hbr (by omega) (by omega) (by omega)
        rw [hf] at h9
        rw [show decide ((0 : Int) ≠ 0) = false from rfl, wl_eta hbr] at h9
        exact h9
    · refine ⟨7, D.flush.2, ⟨W.half, W.e, W.cnt, W.en, true⟩, ⟨⟨hb.dz.flush.more (by omega) (Nat.le_refl _), (fun h => by cases h), hb.half, hb.en, by have := hb.e; show W.e ≤ _; omega, hb.cnt⟩, fun G hA => flush39_no hA hbr hf (by omega) hA.glt, fun w1 lv xv _ h1 h2 h3 => ?_⟩⟩
      have h9 := flush90 h1 h2 h3 hbr (by omega) (by omega) (by omega)
      rw [hf] at h9
      exact h9
  · refine ⟨7, D, W, ⟨hb.next, fun G hA => (flush39_br hA.wal hbr).mono ?_, fun w1 lv xv _ h1 h2 h3 => (flush90_br h2 hbr).mono ?_⟩⟩
    · rintro e w1 ⟨rfl, rfl⟩
      exact ⟨rfl, hA, fun g hg => rfl, Below.refl _ _⟩
    · rintro e w2 ⟨rfl, rfl⟩
      exact ⟨rfl, RgLeft.none h1 h2⟩
theorem append_both {k n c : Nat} {a : Option Addr} {l : Bs} (hb : Bd k D W) (hk : k ≤ 30) (hlv : LV EB w (.slice a n c) l) (hl : l.length ≤ 400) (hag : 0 < n → ∀ g o, a = some ⟨g, o, none⟩ → g < B) (hBr : B ≤ r) (hBy : B ≤ y) (hBw : B ≤ w.heap.size) : ∃ (m f : Int) (D' : Dk) (W' : Wl), Did k w B d s x y r D W 42 89 [.slice a n c] (.tuple #[.int .i64 m, .int .i64 f]) D' W' := by
  have hwt := hb.dz.wait
  have hlen := hb.dz.len
  have hen := hb.en
  have he := hb.e
  have hcn := hb.cnt
  have hnl : n = l.length := by obtain ⟨_, _, h0⟩ := hlv.form; simp only [Value.slice.injEq] at h0; exact h0.2.1
  have hnp : np l = (n + 56) / 57 := by rw [hnl]; rfl
  rcases hbr : W.br with _ | _
  · have hoff := hb.off hbr
    by_cases h0 : n < 1
    · refine ⟨0, 2, D, W, ⟨hb.next, fun G hA => (append42_range hA.wal hbr (.inl h0)).mono ?_, fun w1 lv xv _ h1 h2 h3 => (append89_range h2 hbr (.inl h0)).mono ?_⟩⟩
      · rintro e w1 ⟨rfl, kb⟩
        exact ⟨rfl, hA.below kb, Kept.below kb hA.glt, kb.mono hA.size⟩
      · rintro e w2 ⟨rfl, rfl⟩
        exact ⟨rfl, RgLeft.none h1 h2⟩
    · have hag := hag (by omega)
      have hlv1 : ∀ w1, Below B w w1 → LV EB w1 (.slice a n c) l := fun w1 kb => lv_keepAt hlv fun g o e => kb.block g (hag g o e)
      by_cases hfull : 6 - W.en < (n + 56) / 57
      · refine ⟨0, 15, D, W, ⟨hb.next, fun G hA => (append42_full hA hbr hlen (by omega) hen ⟨by omega, by omega⟩ hfull).mono ?_, fun w1 lv xv _ h1 h2 h3 => (append89_full h1 h2 hbr hlen (by omega) hen ⟨by omega, by omega⟩ hfull).mono ?_⟩⟩
        · rintro e w1 ⟨rfl, kb⟩
          exact ⟨rfl, hA.below kb, Kept.below kb hA.glt, kb.mono hA.size⟩
        · rintro e w2 ⟨rfl, rfl⟩
          exact ⟨rfl, (RgLeft.none h1 h2).below (Below.refl _ _).drew⟩
      · have hfit : W.en + np l ≤ 6 := by omega
        have hnp1 : 1 ≤ np l := by omega
        have hX : ∀ t ∈ layP W.e W.en l, (pcOf t).e ≤ W.e ∧ 1 ≤ (pcOf t).z := fun t ht => by
          have := lay_pc (E := W.e) (p := W.en) (by omega) (by omega) (by omega) t ht
          exact ⟨by omega, this.2⟩
        have hXl : (layP W.e W.en l).length = np l := by simp [layP]
        have hfw : ∀ w1, Below B w w1 → ∀ g o, a = some ⟨g, o, none⟩ → g ≠ r ∧ g ≠ y ∧ g < w1.heap.size := fun w1 kb g o e => by
          have h1 := hag g o e
          have h2 := kb.size
          exact ⟨by omega, by omega, by omega⟩
        have hlow : ∀ G, LG B w d s D x W G → ∃ G', (∀ g ∈ G, g ∈ G') ∧ LG B w d s D x W G' ∧ ∀ g o, a = some ⟨g, o, none⟩ → g ∈ G' := fun G hA => by
          rcases a with _ | ⟨g, o, t⟩
          · exact ⟨G, fun g hg => hg, hA, fun g o e => by cases e⟩
          · rcases t with _ | t
            · exact ⟨g :: G, fun g hg => List.mem_cons_of_mem _ hg, hA.low (hag g o rfl), fun g' o' e => by cases e; simp⟩
            · exact ⟨G, fun g hg => hg, hA, fun g o e => by cases e⟩
        by_cases hcan : D.can (np l)
        · refine ⟨(W.cnt : Int), 0, D.put (W.half * 6 + W.en) (layP W.e W.en l), ⟨W.half, W.e, W.cnt + 1, W.en + np l, false⟩, ⟨⟨(hb.dz.put hX (by rw [hXl]; exact hcan)).more (by rw [hXl]; omega) (Nat.le_refl _), fun _ => hoff, hb.half, hfit, by show W.e ≤ _; omega, by show W.cnt + 1 ≤ W.en + np l; omega⟩, fun G hA => ?_, fun w1 lv xv kb h1 h2 h3 => append89_yes h1 h2 h3 hb.dz.left hoff (by omega) hlen (by omega) hb.half (by omega) (hlv1 w1 kb) (by omega) (by omega) (hfw w1 kb) hfit hbr (by omega) hcan⟩⟩
          obtain ⟨G', g1, g2, g3⟩ := hlow G hA
          refine (append42_yes g2 hbr hb.dz.left hcan hoff (by omega) hlen (by omega) hb.half (by omega) (by omega) hlv (by omega) (by omega) g3 hfit).mono ?_
          rintro e w1 ⟨rfl, q1, q2, q3⟩
          exact ⟨rfl, q1.less g1, fun g hg => q2 g (g1 g hg), q3⟩
        · refine ⟨0, 7, D.stuck (W.half * 6 + W.en) (layP W.e W.en l), ⟨W.half, W.e, W.cnt, W.en, true⟩, ⟨⟨(hb.dz.stuck hX (by rw [hXl]; exact hcan)).more (by rw [hXl]; omega) (Nat.le_refl _), (fun h => by cases h), hb.half, hen, by show W.e ≤ _; omega, hcn⟩, fun G hA => ?_, fun w1 lv xv kb h1 h2 h3 => append89_no h1 h2 h3 hb.dz.left hoff (by omega) hlen (by omega) hb.half (by omega) (hlv1 w1 kb) (by omega) (by omega) (hfw w1 kb) hfit hbr (by omega) hcan⟩⟩
          obtain ⟨G', g1, g2, g3⟩ := hlow G hA
          refine (append42_no g2 hbr hb.dz.left hcan hoff (by omega) hlen (by omega) hb.half (by omega) hlv (by omega) (by omega) g3 hfit).mono ?_
          rintro e w1 ⟨rfl, q1, q2, q3⟩
          exact ⟨rfl, q1.less g1, fun g hg => q2 g (g1 g hg), q3⟩
  · refine ⟨0, 7, D, W, ⟨hb.next, fun G hA => (append42_br hA.wal hbr).mono ?_, fun w1 lv xv _ h1 h2 h3 => (append89_br h2 hbr).mono ?_⟩⟩
    · rintro e w1 ⟨rfl, kb⟩
      exact ⟨rfl, hA.below kb, Kept.below kb hA.glt, kb.mono hA.size⟩
    · rintro e w2 ⟨rfl, rfl⟩
      exact ⟨rfl, RgLeft.none h1 h2⟩
end Go.Proofs.Ytnganmekiloigaa
/-! ### Switch on both logs. -/
namespace Go.Proofs.Ytnganmekiloigaa
open Go.RowKit
set_option maxRecDepth 100000
variable {w w' : World} {B d s x r y : Nat} {D D' : Dk} {W W' : Wl} {G : List Nat}
theorem flush_off (hoff : D.off = false) (hf : D.flush.1 = 0) : D.flush.2.off = false := by
  unfold Dk.flush at hf ⊢
  rw [hoff] at hf ⊢
  simp only [Bool.false_eq_true, if_false] at hf ⊢
  split at hf
  · rename_i hsp
    rw [if_pos hsp]
    unfold Dk.spend at hsp ⊢
    split
    · split
      · rename_i h0
        simp_all
      · exact hoff
    · exact hoff
  · cases hf
theorem flush_two (D : Dk) : D.flush.1 = 0 ∨ D.flush.1 = 7 := by
  unfold Dk.flush
  split
  · exact .inr rfl
  · split
    · exact .inl rfl
    · exact .inr rfl
theorem switch_both {k n c : Nat} {a : Option Addr} {l : Bs} (hb : Bd k D W) (hk : k ≤ 30) (hlv : LV EB w (.slice a n c) l) (hl : l.length ≤ 400) (hag : 0 < n → ∀ g o, a = some ⟨g, o, none⟩ → g < B) (hBr : B ≤ r) (hBy : B ≤ y) (hBw : B ≤ w.heap.size) : ∃ m D' W', Did k w B d s x y r D W 41 91 [.slice a n c] (.int .i64 m) D' W' := by
  have hwt := hb.dz.wait
  have hlen := hb.dz.len
  have hen := hb.en
  have he := hb.e
  have hcn := hb.cnt
  have hnl : n = l.length := by obtain ⟨_, _, h0⟩ := hlv.form; simp only [Value.slice.injEq] at h0; exact h0.2.1
  have hnp : np l = (n + 56) / 57 := by rw [hnl]; rfl
  rcases hbr : W.br with _ | _
  · have hoff := hb.off hbr
    by_cases h0 : n < 1
    · refine ⟨2, D, W, ⟨hb.next, fun G hA => (switch41_range hA.wal hbr (.inl h0)).mono ?_, fun w1 lv xv _ h1 h2 h3 => (switch91_range h2 hbr (.inl h0)).mono ?_⟩⟩
      · rintro e w1 ⟨rfl, kb⟩
        exact ⟨rfl, hA.below kb, Kept.below kb hA.glt, kb.mono hA.size⟩
      · rintro e w2 ⟨rfl, rfl⟩
        exact ⟨rfl, RgLeft.none h1 h2⟩
    · have hag := hag (by omega)
      have hlv1 : ∀ w1, Below B w w1 → LV EB w1 (.slice a n c) l := fun w1 kb => lv_keepAt hlv fun g o e => kb.block g (hag g o e)
      by_cases hfull : 6 < (n + 56) / 57
      · refine ⟨15, D, W, ⟨hb.next, fun G hA => (switch41_full hA hbr hlen (by omega) ⟨by omega, by omega⟩ hfull).mono ?_, fun w1 lv xv _ h1 h2 h3 => (switch91_full h1 h2 hbr hlen (by omega) ⟨by omega, by omega⟩ hfull).mono ?_⟩⟩
        · rintro e w1 ⟨rfl, kb⟩
          exact ⟨rfl, hA.below kb, Kept.below kb hA.glt, kb.mono hA.size⟩
        · rintro e w2 ⟨rfl, rfl⟩
          exact ⟨rfl, (RgLeft.none h1 h2).below (Below.refl _ _).drew⟩
      · have hfit : np l ≤ 6 := by omega
        have hnp1 : 1 ≤ np l := by omega
        have hX : ∀ t ∈ layP (W.e + 1) 0 l, (pcOf t).e ≤ W.e + 1 ∧ 1 ≤ (pcOf t).z := fun t ht => by
          have := lay_pc (E := W.e + 1) (p := 0) (by omega) (by omega) (by omega) t ht
          exact ⟨by omega, this.2⟩
        have hXl : (layP (W.e + 1) 0 l).length = np l := by simp [layP]
        have hdz := hb.dz.more (Nat.le_refl _) (Nat.le_succ W.e)
        have hfw : ∀ w1, Below B w w1 → ∀ g o, a = some ⟨g, o, none⟩ → g ≠ r ∧ g ≠ y ∧ g < w1.heap.size := fun w1 kb g o e => by
          have h1 := hag g o e
          have h2 := kb.size
          exact ⟨by omega, by omega, by omega⟩
        have hlow : ∀ G, LG B w d s D x W G → ∃ G', (∀ g ∈ G, g ∈ G') ∧ LG B w d s D x W G' ∧ ∀ g o, a = some ⟨g, o, none⟩ → g ∈ G' := fun G hA => by
          rcases a with _ | ⟨g, o, t⟩
          · exact ⟨G, fun g hg => hg, hA, fun g o e => by cases e⟩
          · rcases t with _ | t
            · exact ⟨g :: G, fun g hg => List.mem_cons_of_mem _ hg, hA.low (hag g o rfl), fun g' o' e => by cases e; simp⟩
            · exact ⟨G, fun g hg => hg, hA, fun g o e => by cases e⟩
        by_cases hcan : D.can (np l)
        · have hput := hdz.put (b := (1 - W.half) * 6 + 0) hX (by rw [hXl]; exact hcan)
          rcases flush_two (D.put ((1 - W.half) * 6 + 0) (layP (W.e + 1) 0 l)) with hf | hf
          · refine ⟨0, D.sunk ((1 - W.half) * 6 + 0) (layP (W.e + 1) 0 l), ⟨1 - W.half, W.e + 1, 1, np l, false⟩, ⟨⟨hput.flush.more (by rw [hXl]; omega) (Nat.le_refl _), fun _ => flush_off (D := D.put ((1 - W.half) * 6 + 0) (layP (W.e + 1) 0 l)) hoff hf, by show 1 - W.half = 0 ∨ 1 - W.half = 1; omega, hfit, by show W.e + 1 ≤ _; omega, hnp1⟩, fun G hA => ?_, fun w1 lv xv kb h1 h2 h3 => switch91_yes h1 h2 h3 hb.dz.left hoff (by omega) hlen (by omega) hb.half (by omega) (hlv1 w1 kb) (by omega) (by omega) (hfw w1 kb) hfit hbr hcan hf⟩⟩
            obtain ⟨G', g1, g2, g3⟩ := hlow G hA
            refine (switch41_yes g2 hbr hb.dz.left hcan hoff (by omega) hlen (by omega) hb.half (by omega) hlv (by omega) (by omega) g3 hfit hf).mono ?_
            rintro e w1 ⟨rfl, q1, q2, q3⟩
            exact ⟨rfl, q1.less g1, fun g hg => q2 g (g1 g hg), q3⟩
          · refine ⟨7, D.sunk ((1 - W.half) * 6 + 0) (layP (W.e + 1) 0 l), ⟨W.half, W.e + 1, W.cnt, W.en, true⟩, ⟨⟨hput.flush.more (by rw [hXl]; omega) (Nat.le_refl _), (fun h => by cases h), hb.half, hen, by show W.e + 1 ≤ _; omega, hcn⟩, fun G hA => ?_, fun w1 lv xv kb h1 h2 h3 => switch91_off h1 h2 h3 hb.dz.left hoff (by omega) hlen (by omega) hb.half (by omega) (hlv1 w1 kb) (by omega) (by omega) (hfw w1 kb) hfit hbr hcan hf⟩⟩
            obtain ⟨G', g1, g2, g3⟩ := hlow G hA
            refine (switch41_no g2 hbr hb.dz.left hoff (by omega) hlen (by omega) hb.half (by omega) hlv (by omega) (by omega) g3 hfit (.inr ⟨hcan, hf, rfl⟩)).mono ?_
            rintro e w1 ⟨rfl, q1, q2, q3⟩
            exact ⟨rfl, q1.less g1, fun g hg => q2 g (g1 g hg), q3⟩
        · refine ⟨7, D.stuck ((1 - W.half) * 6 + 0) (layP (W.e + 1) 0 l), ⟨W.half, W.e + 1, W.cnt, W.en, true⟩, ⟨⟨(hdz.stuck hX (by rw [hXl]; exact hcan)).more (by rw [hXl]; omega) (Nat.le_refl _), (fun h => by cases h), hb.half, hen, by show W.e + 1 ≤ _; omega, hcn⟩, fun G hA => ?_, fun w1 lv xv kb h1 h2 h3 => switch91_lay h1 h2 h3 hb.dz.left hoff (by omega) hlen (by omega) hb.half (by omega) (hlv1 w1 kb) (by omega) (by omega) (hfw w1 kb) hfit hbr hcan⟩⟩
          obtain ⟨G', g1, g2, g3⟩ := hlow G hA
          refine (switch41_no g2 hbr hb.dz.left hoff (by omega) hlen (by omega) hb.half (by omega) hlv (by omega) (by omega) g3 hfit (.inl ⟨hcan, rfl⟩)).mono ?_
          rintro e w1 ⟨rfl, q1, q2, q3⟩
          exact ⟨rfl, q1.less g1, fun g hg => q2 g (g1 g hg), q3⟩
  · refine ⟨7, D, W, ⟨hb.next, fun G hA => (switch41_br hA.wal hbr).mono ?_, fun w1 lv xv _ h1 h2 h3 => (switch91_br h2 hbr).mono ?_⟩⟩
    · rintro e w1 ⟨rfl, kb⟩
      exact ⟨rfl, hA.below kb, Kept.below kb hA.glt, kb.mono hA.size⟩
    · rintro e w2 ⟨rfl, rfl⟩
      exact ⟨rfl, RgLeft.none h1 h2⟩
end Go.Proofs.Ytnganmekiloigaa
