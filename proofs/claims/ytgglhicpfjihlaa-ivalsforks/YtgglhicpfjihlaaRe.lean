/- Remove. -/
import Derived.Test.YtgglhicpfjihlaaWo
import Derived.Test.YtgglhicpfjihlaaTo
namespace Go.Proofs.Ytgglhicpfjihlaa
open Go.RowKit Go.Shelf
set_option maxRecDepth 100000
attribute [local go_sem] Oper.semAt_some

set_option maxHeartbeats 1000000 in
theorem reg4r {x sb : Nat} {p : Option Addr} {n : Value} {t : T} {s : St} {u1 u2 u3 u4 u5 u6 u8 u9 u10 u11 u12 u13 u14 u15 : Value} {W : World} {Q : Exit → Act → World → Prop}
    (hx : Blk W x [.pointer p, n] 58) (hb : Blk W sb [.int .i64 s.f, .int .i64 s.t, .int .i64 s.i] 68) (ht : TS W p t) (hso : Sorted t.inord) (hm : s ∈ t.inord) (hs : t.size ≤ 900)
    (hQ : ∀ q w1 W', TS w1 q (t.rem s) → Below W.heap.size W w1 → W' = w1.setCell ⟨x, 0, none⟩ (.pointer q) → Q .normal { tmps := #[.pointer (some ⟨x, 0, none⟩), u1, u2, u3, u4, u5, u6, .pointer (some ⟨sb, 0, none⟩), u8, u9, u10, u11, u12, u13, u14, u15, .pointer (some ⟨x, 0, none⟩), .pointer (some ⟨x, 0, none⟩), .pointer (some ⟨x, 0, none⟩), .pointer (some ⟨x, 0, none⟩), .pointer p, SV s, .pointer q, .pointer (some ⟨x, 0, none⟩), .pointer (some ⟨x, 0, none⟩), undef, undef, undef, undef, undef, undef, undef], defers := [] } W') :
    Code.wp Try.prog (Code.region 4 #[{ dst := some 16, op := Op.move (Operand.tmp 0), type := 25, pos := "ivals.go:57", after := #[], guard := none }, { dst := some 17, op := Op.move (Operand.tmp 0), type := 25, pos := "ivals.go:57", after := #[], guard := none }, { dst := some 18, op := Op.nilCheck (Operand.tmp 17), type := 0, pos := "ivals.go:57", after := #[{ on := 1, ground := Ground.data }], guard := none }, { dst := some 19, op := Op.fieldAddr 58 (Operand.tmp 18) 0, type := 0, pos := "ivals.go:57", after := #[{ on := 2, ground := Ground.data }], guard := none }, { dst := some 20, op := Op.load 56 (Operand.tmp 19), type := 56, pos := "ivals.go:57", after := #[{ on := 3, ground := Ground.data }], guard := none }, { dst := some 21, op := Op.load 68 (Operand.tmp 7), type := 68, pos := "ivals.go:57", after := #[], guard := none }, { dst := some 22, op := Op.call { callee := Callee.value (Operand.func 43), args := #[Operand.tmp 20, Operand.tmp 21], argTypes := #[56, 68] }, type := 56, pos := "ivals.go:57", after := #[{ on := 4, ground := Ground.data }, { on := 5, ground := Ground.data }], guard := none }, { dst := some 23, op := Op.nilCheck (Operand.tmp 16), type := 0, pos := "ivals.go:57", after := #[{ on := 0, ground := Ground.data }, { on := 0, ground := Ground.phase }, { on := 1, ground := Ground.phase }, { on := 2, ground := Ground.phase }, { on := 3, ground := Ground.phase }, { on := 4, ground := Ground.phase }, { on := 5, ground := Ground.phase }, { on := 6, ground := Ground.phase }], guard := none }, { dst := some 24, op := Op.fieldAddr 58 (Operand.tmp 23) 0, type := 0, pos := "ivals.go:57", after := #[{ on := 7, ground := Ground.data }, { on := 0, ground := Ground.phase }, { on := 1, ground := Ground.phase }, { on := 2, ground := Ground.phase }, { on := 3, ground := Ground.phase }, { on := 4, ground := Ground.phase }, { on := 5, ground := Ground.phase }, { on := 6, ground := Ground.phase }], guard := none }, { dst := none, op := Op.store 56 (Operand.tmp 24) (Operand.tmp 22), type := 0, pos := "ivals.go:57", after := #[{ on := 8, ground := Ground.data }, { on := 6, ground := Ground.data }, { on := 6, ground := Ground.chain }, { on := 0, ground := Ground.phase }, { on := 1, ground := Ground.phase }, { on := 2, ground := Ground.phase }, { on := 3, ground := Ground.phase }, { on := 4, ground := Ground.phase }, { on := 5, ground := Ground.phase }, { on := 6, ground := Ground.phase }], guard := none }] true) Q { tmps := #[.pointer (some ⟨x, 0, none⟩), u1, u2, u3, u4, u5, u6, .pointer (some ⟨sb, 0, none⟩), u8, u9, u10, u11, u12, u13, u14, u15, undef, undef, undef, undef, undef, undef, undef, undef, undef, undef, undef, undef, undef, undef, undef, undef], defers := [] } W := by
  have k0 : Below W.heap.size W W.drew := (Below.refl _ _).drew
  have hx2 : Blk W.drew x [.pointer p, n] 58 := hx
  have hb2 : Blk W.drew sb [.int .i64 s.f, .int .i64 s.t, .int .i64 s.i] 68 := hb
  have k42 := without43 t s (W := W.drew) (ht.below k0) hso hm hs
  refine (wpIn_wide (n := 0)).1 ?_
  refine Code.wpIn_mono NoPanic.imp ?_
  refine wpIn_region_any (by kernel_rfl) ?_
  change wpAnyIn _ _ _ _ _ _ _ _ _ (World.drew _)
  generalize W.drew = W2 at *
  have a0 := hx2.cell 0
  have b0 := hb2.cell 0
  have b1 := hb2.cell 1
  have b2 := hb2.cell 2
  simp only [List.getElem?_cons_zero, List.getElem?_cons_succ] at a0 b0 b1 b2
  have HQ : Hid _ := hQ
  have HX : Hid _ := hx2
  have K0 : Hid _ := k0
  clear hQ hx hb hx2 hb2 ht k0 hso hm hs
  refine wpAnyIn_take (i := 0) (v := .pointer (some ⟨x, 0, none⟩)) rfl rfl (by kernel_rfl) (by kernel_rfl) (by kernel_rfl) (fun _ _ _ h => h) ⟨Or.inl ⟨by rfl, by intro w; go_simp⟩, fun _ => rfl⟩ ?_
  refine wpAnyIn_take (i := 1) (v := .pointer (some ⟨x, 0, none⟩)) rfl rfl (by kernel_rfl) (by kernel_rfl) (by kernel_rfl) (fun _ _ _ h => h) ⟨Or.inl ⟨by rfl, by intro w; go_simp⟩, fun _ => rfl⟩ ?_
  refine wpAnyIn_take (i := 2) (v := .pointer (some ⟨x, 0, none⟩)) rfl rfl (by kernel_rfl) (by kernel_rfl) (by kernel_rfl) (fun _ _ _ h => h) ⟨Or.inl ⟨by rfl, by intro w; go_simp⟩, fun _ => rfl⟩ ?_
  refine wpAnyIn_take (i := 3) (v := .pointer (some ⟨x, 0, none⟩)) rfl rfl (by kernel_rfl) (by kernel_rfl) (by kernel_rfl) (fun _ _ _ h => h) ⟨Or.inl ⟨by rfl, by intro w; go_simp⟩, fun _ => rfl⟩ ?_
  refine wpAnyIn_ready (rs := [4, 5]) (by kernel_rfl) (by simp) ?_
  refine AllReadyIn.cons rfl (fun K3 hK3 => ?_) (AllReadyIn.cons rfl (fun K3 hK3 => ?_) AllReadyIn.nil)
  · go_simp
    refine hK3 _ _ ?_
    clear hK3 K3
    refine wpAnyIn_ready (rs := [5]) (by kernel_rfl) (by simp) ?_
    refine AllReadyIn.cons rfl (fun K3 hK3 => ?_) AllReadyIn.nil
    go_simp
    refine hK3 _ _ ?_
    clear hK3 K3
    refine wpAnyIn_ready (rs := [6]) (by kernel_rfl) (by simp) ?_
    refine AllReadyIn.cons rfl (fun K3 hK3 => ?_) AllReadyIn.nil
    go_simp
    refine ⟨trivial, rfl, (callsIn_wide.2 k42).mono ?_⟩
    rintro e w1 ⟨q, rfl, t1, B1⟩
    refine hK3 _ _ ?_
    clear hK3 K3
    have hx3 := Blk.below HX.out B1
    have a1 := hx3.cell 0
    have af := hx3.frozen 0
    simp only [List.getElem?_cons_zero] at a1
    refine wpAnyIn_take (i := 7) (v := .pointer (some ⟨x, 0, none⟩)) rfl rfl (by kernel_rfl) (by kernel_rfl) (by kernel_rfl) (fun _ _ _ h => h) ⟨Or.inl ⟨by rfl, by intro w; go_simp⟩, fun _ => rfl⟩ ?_
    refine wpAnyIn_take (i := 8) (v := .pointer (some ⟨x, 0, none⟩)) rfl rfl (by kernel_rfl) (by kernel_rfl) (by kernel_rfl) (fun _ _ _ h => h) ⟨Or.inl ⟨by rfl, by intro w; go_simp⟩, fun _ => rfl⟩ ?_
    refine wpAnyIn_ready (rs := [9]) (by kernel_rfl) (by simp) ?_
    refine AllReadyIn.cons rfl (fun K3 hK3 => ?_) AllReadyIn.nil
    go_simp
    refine hK3 _ _ ?_
    clear hK3 K3
    refine wpAnyIn_done (by kernel_rfl) ?_ _
    refine NoPanic.normal ?_
    exact HQ.out q w1 _ t1 (bmore K0.out B1) rfl
  · go_simp
    refine hK3 _ _ ?_
    clear hK3 K3
    refine wpAnyIn_ready (rs := [4]) (by kernel_rfl) (by simp) ?_
    refine AllReadyIn.cons rfl (fun K3 hK3 => ?_) AllReadyIn.nil
    go_simp
    refine hK3 _ _ ?_
    clear hK3 K3
    refine wpAnyIn_ready (rs := [6]) (by kernel_rfl) (by simp) ?_
    refine AllReadyIn.cons rfl (fun K3 hK3 => ?_) AllReadyIn.nil
    go_simp
    refine ⟨trivial, rfl, (callsIn_wide.2 k42).mono ?_⟩
    rintro e w1 ⟨q, rfl, t1, B1⟩
    refine hK3 _ _ ?_
    clear hK3 K3
    have hx3 := Blk.below HX.out B1
    have a1 := hx3.cell 0
    have af := hx3.frozen 0
    simp only [List.getElem?_cons_zero] at a1
    refine wpAnyIn_take (i := 7) (v := .pointer (some ⟨x, 0, none⟩)) rfl rfl (by kernel_rfl) (by kernel_rfl) (by kernel_rfl) (fun _ _ _ h => h) ⟨Or.inl ⟨by rfl, by intro w; go_simp⟩, fun _ => rfl⟩ ?_
    refine wpAnyIn_take (i := 8) (v := .pointer (some ⟨x, 0, none⟩)) rfl rfl (by kernel_rfl) (by kernel_rfl) (by kernel_rfl) (fun _ _ _ h => h) ⟨Or.inl ⟨by rfl, by intro w; go_simp⟩, fun _ => rfl⟩ ?_
    refine wpAnyIn_ready (rs := [9]) (by kernel_rfl) (by simp) ?_
    refine AllReadyIn.cons rfl (fun K3 hK3 => ?_) AllReadyIn.nil
    go_simp
    refine hK3 _ _ ?_
    clear hK3 K3
    refine wpAnyIn_done (by kernel_rfl) ?_ _
    refine NoPanic.normal ?_
    exact HQ.out q w1 _ t1 (bmore K0.out B1) rfl

set_option maxHeartbeats 1000000 in
theorem remove26_no {W : World} {x : Nat} {p : Option Addr} {t : T} (s : St) (hI : IV W x p t) (hh : t.has s = false) : Calls Try.prog 26 #[.pointer (some ⟨x, 0, none⟩), .agg #[.int .i64 s.f, .int .i64 s.t], .int .i64 s.i] W fun e w' => e = .returned (.bool false) ∧ Below W.heap.size W w' := by
  have k2 : Below W.heap.size W ((W.alloc (.cells #[.int .i64 s.f, .int .i64 s.t] 24)).alloc (.cells #[.int .i64 s.f, .int .i64 s.t, .int .i64 s.i] 68)) := bmore (al _ _) (al _ _)
  have hI2 := hI.below k2
  have b2 := blk_at (W.alloc (.cells #[.int .i64 s.f, .int .i64 s.t] 24)) [.int .i64 s.f, .int .i64 s.t, .int .i64 s.i] 68 (g := W.heap.size + 1) (by simp)
  change Blk ((W.alloc (.cells #[.int .i64 s.f, .int .i64 s.t] 24)).alloc (.cells #[.int .i64 s.f, .int .i64 s.t, .int .i64 s.i] 68)) _ _ _ at b2
  go_enter Try.func26, Try.ntmps26
  go_wp2_with fail
  generalize (W.alloc (.cells #[.int .i64 s.f, .int .i64 s.t] 24)).alloc (.cells #[.int .i64 s.f, .int .i64 s.t, .int .i64 s.i] 68) = W2 at *
  have K0 : Below W2.heap.size W2 W2.drew := (Below.refl _ _).drew
  have k37 := root37 (W := W2.drew) (hI2.below K0).blk
  have k41 := has41 (W := W2.drew) s (hI2.ts.below K0)
  rw [hh] at k41
  have HI : Hid _ := hI2
  have HB : Hid _ := b2
  have HK : Hid _ := k2
  have HF : Hid (∀ W', Below W2.heap.size W2 W' → W'.cell? ⟨W.heap.size + 1, 0, none⟩ = some (.int .i64 s.f) ∧ W'.cell? ⟨W.heap.size + 1, 1, none⟩ = some (.int .i64 s.t) ∧ W'.cell? ⟨W.heap.size + 1, 2, none⟩ = some (.int .i64 s.i)) := fun W' k => ⟨(b2.below k).cell 0, (b2.below k).cell 1, (b2.below k).cell 2⟩
  have hS0 := HF.out _ K0
  clear hI hI2 b2 k2 hh
  go_region_held3 (fun W' => W'.cell? ⟨W.heap.size + 1, 0, none⟩ = some (.int .i64 s.f) ∧ W'.cell? ⟨W.heap.size + 1, 1, none⟩ = some (.int .i64 s.t) ∧ W'.cell? ⟨W.heap.size + 1, 2, none⟩ = some (.int .i64 s.i)) (first | exact hS0 | exact HF.out _ K1) (first
    | (go_at_call 37; (with_reducible refine k37.mono ?_); rintro e w0 ⟨rfl, rfl⟩)
    | (go_at_call 41; (with_reducible refine k41.mono ?_); rintro e w1 ⟨rfl, B1⟩; have K1 := bmore K0 B1))
  all_goals (
    clear hS0
    go_wp2_with fail
    go_ret
    exact ⟨rfl, bmore HK.out K1⟩)

set_option maxHeartbeats 1000000 in
theorem remove26_yes {W : World} {x : Nat} {p : Option Addr} {t : T} (s : St) (hI : IV W x p t) (hso : Sorted t.inord) (hm : s ∈ t.inord) (hsz : t.size ≤ 900) : Calls Try.prog 26 #[.pointer (some ⟨x, 0, none⟩), .agg #[.int .i64 s.f, .int .i64 s.t], .int .i64 s.i] W fun e w' => e = .returned (.bool true) ∧ (∃ q, IV w' x q (t.rem s)) ∧ Keep (fun k => k = x) W w' := by
  have hh := mem_has t s hso hm
  have hsr := size_rem hso hm
  have k2 : Below W.heap.size W ((W.alloc (.cells #[.int .i64 s.f, .int .i64 s.t] 24)).alloc (.cells #[.int .i64 s.f, .int .i64 s.t, .int .i64 s.i] 68)) := bmore (al _ _) (al _ _)
  have hI2 := hI.below k2
  have b2 := blk_at (W.alloc (.cells #[.int .i64 s.f, .int .i64 s.t] 24)) [.int .i64 s.f, .int .i64 s.t, .int .i64 s.i] 68 (g := W.heap.size + 1) (by simp)
  change Blk ((W.alloc (.cells #[.int .i64 s.f, .int .i64 s.t] 24)).alloc (.cells #[.int .i64 s.f, .int .i64 s.t, .int .i64 s.i] 68)) _ _ _ at b2
  go_enter Try.func26, Try.ntmps26
  go_wp2_with fail
  generalize (W.alloc (.cells #[.int .i64 s.f, .int .i64 s.t] 24)).alloc (.cells #[.int .i64 s.f, .int .i64 s.t, .int .i64 s.i] 68) = W2 at *
  have K0 : Below W2.heap.size W2 W2.drew := (Below.refl _ _).drew
  have k37 := root37 (W := W2.drew) (hI2.below K0).blk
  have k41 := has41 (W := W2.drew) s (hI2.ts.below K0)
  rw [hh] at k41
  have HI : Hid _ := hI2
  have HB : Hid _ := b2
  have HK : Hid _ := k2
  have HF : Hid (∀ W', Below W2.heap.size W2 W' → W'.cell? ⟨W.heap.size + 1, 0, none⟩ = some (.int .i64 s.f) ∧ W'.cell? ⟨W.heap.size + 1, 1, none⟩ = some (.int .i64 s.t) ∧ W'.cell? ⟨W.heap.size + 1, 2, none⟩ = some (.int .i64 s.i)) := fun W' k => ⟨(b2.below k).cell 0, (b2.below k).cell 1, (b2.below k).cell 2⟩
  have hS0 := HF.out _ K0
  clear hI hI2 b2 k2 hh
  go_region_held3 (fun W' => W'.cell? ⟨W.heap.size + 1, 0, none⟩ = some (.int .i64 s.f) ∧ W'.cell? ⟨W.heap.size + 1, 1, none⟩ = some (.int .i64 s.t) ∧ W'.cell? ⟨W.heap.size + 1, 2, none⟩ = some (.int .i64 s.i)) (first | exact hS0 | exact HF.out _ K1) (first
    | (go_at_call 37; (with_reducible refine k37.mono ?_); rintro e w0 ⟨rfl, rfl⟩)
    | (go_at_call 41; (with_reducible refine k41.mono ?_); rintro e w1 ⟨rfl, B1⟩; have K1 := bmore K0 B1))
  all_goals (
    clear hS0 k41 k37
    go_wp2_with fail
    refine reg4r (Blk.below (IV.blk HI.out) K1) (Blk.below HB.out K1) (TS.below K1 (IV.ts HI.out)) hso hm hsz (fun q w3 W4 t3 B3 hW4 => ?_)
    have kA := bmore K1 B3
    have hb3 := Blk.below (IV.blk HI.out) kA
    have hb4 := hb3.set (o := 0) (.pointer q)
    have kS : Keep (fun k => k = x) W W4 := by rw [hW4]; exact Keep.set (Keep.of (F := fun k => k = x) (bmore HK.out kA)) (p := ⟨x, 0, none⟩) (.inr rfl) _
    have hb5 : Blk W4 x [.pointer q, .int .i64 (t.size : Int)] 58 := by rw [hW4]; exact hb4
    have t5 : TS W4 q (t.rem s) := by
      rw [hW4]
      exact t3.other hb3 (Keep.set (Keep.refl (fun k => k = x) w3) (p := ⟨x, 0, none⟩) (.inr rfl) _)
    have c1 := hb5.cell 1
    have f1 := hb5.frozen 1
    simp only [List.getElem?_cons_zero, List.getElem?_cons_succ] at c1
    have hw : wrap64 ((t.size : Int) - 1) = (t.size : Int) - 1 := IntWalk.wrap64_in _ (by omega)
    have HB5 : Hid _ := hb5
    have HT5 : Hid _ := t5
    have HKS : Hid _ := kS
    have HSR : Hid _ := hsr
    clear hb3 hb4 hb5 t5 kS hW4 t3 B3 kA K1 B1 K0 hsr
    go_wp2
    go_ret
    refine ⟨rfl, ⟨q, ?_, ?_⟩, Keep.set (F := fun k => k = x) HKS.out (p := ⟨x, 1, none⟩) (.inr rfl) _⟩
    · have := Blk.set (o := 1) HB5.out (.int .i64 ((t.size : Int) - 1))
      rw [show (((t.rem s).size : Nat) : Int) = (t.size : Int) - 1 by have := HSR.out; omega]
      exact this
    · exact TS.other HT5.out HB5.out (Keep.set (Keep.refl (fun k => k = x) W4) (p := ⟨x, 1, none⟩) (.inr rfl) _))
theorem Inv.rem {t : T} (h : Inv t) {s : St} (hm : s ∈ t.inord) : Inv (t.rem s) := by
  have e := inord_rem t s h.so hm
  refine ⟨rem_sorted h.so hm, (T.rem_avl t s h.av).1, fun x hx => h.pt x ?_, fun x hx => h.lo x ?_, ?_⟩
  · rw [e] at hx; exact List.mem_of_mem_erase hx
  · rw [e] at hx; exact List.mem_of_mem_erase hx
  · have := size_rem h.so hm; have := h.sz; omega
end Go.Proofs.Ytgglhicpfjihlaa
