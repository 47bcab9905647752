/- A part of meeting's function. -/
import Derived.Test.YtgglhicpfjihlaaMe
import Derived.BigRegionIn
namespace Go.Proofs.Ytgglhicpfjihlaa
open Go.RowKit Go.Shelf
set_option maxRecDepth 100000
attribute [local go_sem] Oper.semAt_some

set_option maxHeartbeats 16000000 in
theorem reg5_yield {b g Y ll : Nat} {f l sf st si : Int} {u5 u6 u7 u8 u9 u10 u11 u12 u13 u14 u15 u16 u17 u18 u19 u20 u21 u22 : Value} {ds : List Deferred} {W : World} {Q : Exit → Act → World → Prop} (h1 : ¬ sf > l) (h2 : st > f)
    (c0 : W.drew.cell? ⟨b, 0, none⟩ = some (.pointer (some ⟨g, 0, none⟩))) (c1 : W.drew.cell? ⟨b + 1, 0, none⟩ = some (.int .i64 f)) (c2 : W.drew.cell? ⟨b + 1 + 1, 0, none⟩ = some (.int .i64 l))
    (d0 : W.drew.cell? ⟨g, 0, none⟩ = some (.int .i64 sf)) (d1 : W.drew.cell? ⟨g, 1, none⟩ = some (.int .i64 st)) (d2 : W.drew.cell? ⟨g, 2, none⟩ = some (.int .i64 si)) (cY : W.drew.cell? ⟨Y, 0, none⟩ = some (.func (.yield ll) #[] #[]))
    {R : Ending → World → Prop} (hY : YieldAt Fence.wide 0 Try.prog ll #[.agg #[.int .i64 sf, .int .i64 st, .int .i64 si]] W.drew R) (hR2 : ∀ e W', R e W' → e = .returned (.bool true) ∨ e = .returned (.bool false))
    (hQ1 : ∀ W', R (.returned (.bool true)) W' → Q .normal { tmps := #[.func (.yield ll) #[] #[], .pointer (some ⟨b, 0, none⟩), .pointer (some ⟨b + 1, 0, none⟩), .pointer (some ⟨b + 1 + 1, 0, none⟩), .pointer (some ⟨Y, 0, none⟩), u5, u6, u7, u8, u9, u10, u11, u12, u13, u14, u15, u16, u17, u18, u19, u20, u21, u22, .pointer (some ⟨g, 0, none⟩), .pointer (some ⟨g, 0, none⟩), .pointer (some ⟨g, 0, none⟩), .pointer (some ⟨g, 0, none⟩), .pointer (some ⟨g, 0, none⟩), .int .i64 sf, .int .i64 l, .bool false, .bool false, .pointer (some ⟨g, 0, none⟩), .pointer (some ⟨g, 0, none⟩), .pointer (some ⟨g, 0, none⟩), .pointer (some ⟨g, 0, none⟩), .pointer (some ⟨g, 1, none⟩), .int .i64 st, .int .i64 f, .bool true, .bool true, .func (.yield ll) #[] #[], .pointer (some ⟨g, 0, none⟩), .pointer (some ⟨g, 0, none⟩), .pointer (some ⟨g, 0, none⟩), .agg #[.int .i64 sf, .int .i64 st, .int .i64 si], .bool true, .bool false, .bool false, .bool false, undef, undef, undef, undef, undef, undef, undef, undef, undef, undef, undef, undef], defers := ds } W')
    (hQ2 : ∀ W', R (.returned (.bool false)) W' → Q .normal { tmps := #[.func (.yield ll) #[] #[], .pointer (some ⟨b, 0, none⟩), .pointer (some ⟨b + 1, 0, none⟩), .pointer (some ⟨b + 1 + 1, 0, none⟩), .pointer (some ⟨Y, 0, none⟩), u5, u6, u7, u8, u9, u10, u11, u12, u13, u14, u15, u16, u17, u18, u19, u20, u21, u22, .pointer (some ⟨g, 0, none⟩), .pointer (some ⟨g, 0, none⟩), .pointer (some ⟨g, 0, none⟩), .pointer (some ⟨g, 0, none⟩), .pointer (some ⟨g, 0, none⟩), .int .i64 sf, .int .i64 l, .bool false, .bool false, .pointer (some ⟨g, 0, none⟩), .pointer (some ⟨g, 0, none⟩), .pointer (some ⟨g, 0, none⟩), .pointer (some ⟨g, 0, none⟩), .pointer (some ⟨g, 1, none⟩), .int .i64 st, .int .i64 f, .bool true, .bool true, .func (.yield ll) #[] #[], .pointer (some ⟨g, 0, none⟩), .pointer (some ⟨g, 0, none⟩), .pointer (some ⟨g, 0, none⟩), .agg #[.int .i64 sf, .int .i64 st, .int .i64 si], .bool false, .bool true, .bool true, .bool true, undef, undef, undef, undef, undef, undef, undef, undef, undef, undef, undef, undef], defers := ds } W') :
    Code.wpIn Fence.wide 0 Try.prog (Code.region 5 #[{ dst := some 23, op := Op.load 56 (Operand.tmp 1), type := 56, pos := "ivals.go:278", after := #[], guard := none }, { dst := some 24, op := Op.nilCheck (Operand.tmp 23), type := 0, pos := "ivals.go:278", after := #[{ on := 0, ground := Ground.data }], guard := none }, { dst := some 25, op := Op.fieldAddr 70 (Operand.tmp 24) 0, type := 0, pos := "ivals.go:278", after := #[{ on := 1, ground := Ground.data }], guard := none }, { dst := some 26, op := Op.fieldAddr 68 (Operand.tmp 25) 0, type := 0, pos := "ivals.go:278", after := #[{ on := 2, ground := Ground.data }], guard := none }, { dst := some 27, op := Op.fieldAddr 24 (Operand.tmp 26) 0, type := 0, pos := "ivals.go:278", after := #[{ on := 3, ground := Ground.data }], guard := none }, { dst := some 28, op := Op.load 3 (Operand.tmp 27), type := 3, pos := "ivals.go:278", after := #[{ on := 4, ground := Ground.data }], guard := none }, { dst := some 29, op := Op.load 3 (Operand.tmp 3), type := 3, pos := "ivals.go:278", after := #[], guard := none }, { dst := some 30, op := Op.binOp BinOp.gtr 3 (Operand.tmp 28) (Operand.tmp 29) 3, type := 4, pos := "ivals.go:278", after := #[{ on := 5, ground := Ground.data }, { on := 6, ground := Ground.data }], guard := none }, { dst := some 31, op := Op.move (Operand.tmp 30), type := 4, pos := "ivals.go:278", after := #[{ on := 7, ground := Ground.data }], guard := none }, { dst := some 32, op := Op.load 56 (Operand.tmp 1), type := 56, pos := "ivals.go:278", after := #[{ on := 8, ground := Ground.guard }], guard := some (8, false) }, { dst := some 33, op := Op.nilCheck (Operand.tmp 32), type := 0, pos := "ivals.go:278", after := #[{ on := 9, ground := Ground.data }, { on := 8, ground := Ground.guard }], guard := some (8, false) }, { dst := some 34, op := Op.fieldAddr 70 (Operand.tmp 33) 0, type := 0, pos := "ivals.go:278", after := #[{ on := 10, ground := Ground.data }, { on := 8, ground := Ground.guard }], guard := some (8, false) }, { dst := some 35, op := Op.fieldAddr 68 (Operand.tmp 34) 0, type := 0, pos := "ivals.go:278", after := #[{ on := 11, ground := Ground.data }, { on := 8, ground := Ground.guard }], guard := some (8, false) }, { dst := some 36, op := Op.fieldAddr 24 (Operand.tmp 35) 1, type := 0, pos := "ivals.go:278", after := #[{ on := 12, ground := Ground.data }, { on := 8, ground := Ground.guard }], guard := some (8, false) }, { dst := some 37, op := Op.load 3 (Operand.tmp 36), type := 3, pos := "ivals.go:278", after := #[{ on := 13, ground := Ground.data }, { on := 8, ground := Ground.guard }], guard := some (8, false) }, { dst := some 38, op := Op.load 3 (Operand.tmp 2), type := 3, pos := "ivals.go:278", after := #[{ on := 8, ground := Ground.guard }], guard := some (8, false) }, { dst := some 39, op := Op.binOp BinOp.gtr 3 (Operand.tmp 37) (Operand.tmp 38) 3, type := 4, pos := "ivals.go:278", after := #[{ on := 14, ground := Ground.data }, { on := 15, ground := Ground.data }, { on := 8, ground := Ground.guard }], guard := some (8, false) }, { dst := some 40, op := Op.move (Operand.tmp 39), type := 4, pos := "ivals.go:278", after := #[{ on := 16, ground := Ground.data }, { on := 8, ground := Ground.chain }, { on := 8, ground := Ground.guard }], guard := some (8, false) }, { dst := some 41, op := Op.load 71 (Operand.tmp 4), type := 71, pos := "ivals.go:278", after := #[{ on := 17, ground := Ground.guard }], guard := some (17, true) }, { dst := some 42, op := Op.load 56 (Operand.tmp 1), type := 56, pos := "ivals.go:278", after := #[{ on := 17, ground := Ground.guard }], guard := some (17, true) }, { dst := some 43, op := Op.nilCheck (Operand.tmp 42), type := 0, pos := "ivals.go:278", after := #[{ on := 19, ground := Ground.data }, { on := 17, ground := Ground.guard }], guard := some (17, true) }, { dst := some 44, op := Op.fieldAddr 70 (Operand.tmp 43) 0, type := 0, pos := "ivals.go:278", after := #[{ on := 20, ground := Ground.data }, { on := 17, ground := Ground.guard }], guard := some (17, true) }, { dst := some 45, op := Op.load 68 (Operand.tmp 44), type := 68, pos := "ivals.go:278", after := #[{ on := 21, ground := Ground.data }, { on := 17, ground := Ground.guard }], guard := some (17, true) }, { dst := some 46, op := Op.call { callee := Callee.value (Operand.tmp 41), args := #[Operand.tmp 45], argTypes := #[68] }, type := 4, pos := "ivals.go:278", after := #[{ on := 18, ground := Ground.data }, { on := 22, ground := Ground.data }, { on := 17, ground := Ground.chain }, { on := 17, ground := Ground.guard }], guard := some (17, true) }, { dst := some 47, op := Op.unOp UnOp.not 4 (Operand.tmp 46), type := 4, pos := "ivals.go:278", after := #[{ on := 23, ground := Ground.data }, { on := 17, ground := Ground.guard }], guard := some (17, true) }, { dst := some 48, op := Op.pick (Operand.tmp 40) (Operand.tmp 47) (Operand.const (Value.bool false)), type := 4, pos := "ivals.go:278", after := #[{ on := 17, ground := Ground.data }, { on := 24, ground := Ground.data }, { on := 8, ground := Ground.guard }], guard := some (8, false) }, { dst := some 49, op := Op.pick (Operand.tmp 31) (Operand.const (Value.bool true)) (Operand.tmp 48), type := 4, pos := "ivals.go:278", after := #[{ on := 8, ground := Ground.data }, { on := 25, ground := Ground.data }], guard := none }] true) Q { tmps := #[.func (.yield ll) #[] #[], .pointer (some ⟨b, 0, none⟩), .pointer (some ⟨b + 1, 0, none⟩), .pointer (some ⟨b + 1 + 1, 0, none⟩), .pointer (some ⟨Y, 0, none⟩), u5, u6, u7, u8, u9, u10, u11, u12, u13, u14, u15, u16, u17, u18, u19, u20, u21, u22, undef, undef, undef, undef, undef, undef, undef, undef, undef, undef, undef, undef, undef, undef, undef, undef, undef, undef, undef, undef, undef, undef, undef, undef, undef, undef, undef, undef, undef, undef, undef, undef, undef, undef, undef, undef, undef, undef, undef], defers := ds } W := by
  have e1 : decide (l < sf) = false := by simpa using h1
  have e2 : decide (f < st) = true := by simpa using h2
  have e5 : ¬ (l < sf) := h1
  have e6 : f < st := h2
  have e7 : sf ≤ l := by omega
  obtain ⟨fn, tmps, assign, body, hy, hRn⟩ := hY
  have HR : Hid _ := hRn
  have HQ1 : Hid _ := hQ1
  have HQ2 : Hid _ := hQ2
  have HR2 : Hid _ := hR2
  clear hQ1 hQ2 hR2 hRn
  refine Code.wpIn_mono NoPanic.imp ?_
  refine wpIn_region_any (by kernel_rfl) ?_
  change wpAnyIn _ _ _ _ _ _ _ _ _ (World.drew _)
  generalize W.drew = W2 at *
  refine wpAnyIn_ready (rs := [0, 6]) (by kernel_rfl) (by simp) ?_
  refine AllReadyIn.cons rfl (fun K3 hK3 => ?_) (AllReadyIn.cons rfl (fun K3 hK3 => ?_) AllReadyIn.nil)
  · go_simp
    refine hK3 _ _ ?_
    clear hK3 K3
    refine wpAnyIn_take (i := 1) (v := .pointer (some ⟨g, 0, none⟩)) rfl rfl (by kernel_rfl) (by kernel_rfl) (by kernel_rfl) (fun _ _ _ h => h) ⟨Or.inl ⟨by rfl, by intro w; go_simp⟩, fun _ => rfl⟩ ?_
    refine wpAnyIn_take (i := 2) (v := .pointer (some ⟨g, 0, none⟩)) rfl rfl (by kernel_rfl) (by kernel_rfl) (by kernel_rfl) (fun _ _ _ h => h) ⟨Or.inl ⟨by rfl, by intro w; go_simp⟩, fun _ => rfl⟩ ?_
    refine wpAnyIn_take (i := 3) (v := .pointer (some ⟨g, 0, none⟩)) rfl rfl (by kernel_rfl) (by kernel_rfl) (by kernel_rfl) (fun _ _ _ h => h) ⟨Or.inl ⟨by rfl, by intro w; go_simp⟩, fun _ => rfl⟩ ?_
    refine wpAnyIn_take (i := 4) (v := .pointer (some ⟨g, 0, none⟩)) rfl rfl (by kernel_rfl) (by kernel_rfl) (by kernel_rfl) (fun _ _ _ h => h) ⟨Or.inl ⟨by rfl, by intro w; go_simp⟩, fun _ => rfl⟩ ?_
    refine wpAnyIn_ready (rs := [5, 6]) (by kernel_rfl) (by simp) ?_
    refine AllReadyIn.cons rfl (fun K3 hK3 => ?_) (AllReadyIn.cons rfl (fun K3 hK3 => ?_) AllReadyIn.nil)
    · go_simp
      refine hK3 _ _ ?_
      clear hK3 K3
      refine wpAnyIn_ready (rs := [6]) (by kernel_rfl) (by simp) ?_
      refine AllReadyIn.cons rfl (fun K3 hK3 => ?_) AllReadyIn.nil
      go_simp
      refine hK3 _ _ ?_
      clear hK3 K3
      refine wpAnyIn_take (i := 7) (v := .bool false) rfl rfl (by kernel_rfl) (by kernel_rfl) (by kernel_rfl) (fun _ _ _ h => h) ⟨Or.inl ⟨by rfl, by intro w; go_simp⟩, fun _ => rfl⟩ ?_
      refine wpAnyIn_take (i := 8) (v := .bool false) rfl rfl (by kernel_rfl) (by kernel_rfl) (by kernel_rfl) (fun _ _ _ h => h) ⟨Or.inl ⟨by rfl, by intro w; go_simp⟩, fun _ => rfl⟩ ?_
      refine wpAnyIn_ready (rs := [9, 15]) (by kernel_rfl) (by simp) ?_
      refine AllReadyIn.cons rfl (fun K3 hK3 => ?_) (AllReadyIn.cons rfl (fun K3 hK3 => ?_) AllReadyIn.nil)
      · go_simp
        refine hK3 _ _ ?_
        clear hK3 K3
        refine wpAnyIn_take (i := 10) (v := .pointer (some ⟨g, 0, none⟩)) rfl rfl (by kernel_rfl) (by kernel_rfl) (by kernel_rfl) (fun _ _ _ h => h) ⟨Or.inl ⟨by rfl, by intro w; go_simp⟩, fun _ => rfl⟩ ?_
        refine wpAnyIn_take (i := 11) (v := .pointer (some ⟨g, 0, none⟩)) rfl rfl (by kernel_rfl) (by kernel_rfl) (by kernel_rfl) (fun _ _ _ h => h) ⟨Or.inl ⟨by rfl, by intro w; go_simp⟩, fun _ => rfl⟩ ?_
        refine wpAnyIn_take (i := 12) (v := .pointer (some ⟨g, 0, none⟩)) rfl rfl (by kernel_rfl) (by kernel_rfl) (by kernel_rfl) (fun _ _ _ h => h) ⟨Or.inl ⟨by rfl, by intro w; go_simp⟩, fun _ => rfl⟩ ?_
        refine wpAnyIn_take (i := 13) (v := .pointer (some ⟨g, 1, none⟩)) rfl rfl (by kernel_rfl) (by kernel_rfl) (by kernel_rfl) (fun _ _ _ h => h) ⟨Or.inl ⟨by rfl, by intro w; go_simp⟩, fun _ => rfl⟩ ?_
        refine wpAnyIn_ready (rs := [14, 15]) (by kernel_rfl) (by simp) ?_
        refine AllReadyIn.cons rfl (fun K3 hK3 => ?_) (AllReadyIn.cons rfl (fun K3 hK3 => ?_) AllReadyIn.nil)
        · go_simp
          refine hK3 _ _ ?_
          clear hK3 K3
          refine wpAnyIn_ready (rs := [15]) (by kernel_rfl) (by simp) ?_
          refine AllReadyIn.cons rfl (fun K3 hK3 => ?_) AllReadyIn.nil
          go_simp
          refine hK3 _ _ ?_
          clear hK3 K3
          refine wpAnyIn_take (i := 16) (v := .bool true) rfl rfl (by kernel_rfl) (by kernel_rfl) (by kernel_rfl) (fun _ _ _ h => h) ⟨Or.inl ⟨by rfl, by intro w; go_simp⟩, fun _ => rfl⟩ ?_
          refine wpAnyIn_take (i := 17) (v := .bool true) rfl rfl (by kernel_rfl) (by kernel_rfl) (by kernel_rfl) (fun _ _ _ h => h) ⟨Or.inl ⟨by rfl, by intro w; go_simp⟩, fun _ => rfl⟩ ?_
          refine wpAnyIn_ready (rs := [18, 19]) (by kernel_rfl) (by simp) ?_
          refine AllReadyIn.cons rfl (fun K3 hK3 => ?_) (AllReadyIn.cons rfl (fun K3 hK3 => ?_) AllReadyIn.nil)
          · go_simp
            refine hK3 _ _ ?_
            clear hK3 K3
            refine wpAnyIn_ready (rs := [19]) (by kernel_rfl) (by simp) ?_
            refine AllReadyIn.cons rfl (fun K3 hK3 => ?_) AllReadyIn.nil
            go_simp
            refine hK3 _ _ ?_
            clear hK3 K3
            refine wpAnyIn_take (i := 20) (v := .pointer (some ⟨g, 0, none⟩)) rfl rfl (by kernel_rfl) (by kernel_rfl) (by kernel_rfl) (fun _ _ _ h => h) ⟨Or.inl ⟨by rfl, by intro w; go_simp⟩, fun _ => rfl⟩ ?_
            refine wpAnyIn_take (i := 21) (v := .pointer (some ⟨g, 0, none⟩)) rfl rfl (by kernel_rfl) (by kernel_rfl) (by kernel_rfl) (fun _ _ _ h => h) ⟨Or.inl ⟨by rfl, by intro w; go_simp⟩, fun _ => rfl⟩ ?_
            refine wpAnyIn_ready (rs := [22]) (by kernel_rfl) (by simp) ?_
            refine AllReadyIn.cons rfl (fun K3 hK3 => ?_) AllReadyIn.nil
            go_simp
            refine hK3 _ _ ?_
            clear hK3 K3
            refine wpAnyIn_ready (rs := [23]) (by kernel_rfl) (by simp) ?_
            refine AllReadyIn.cons rfl (fun K3 hK3 => ?_) AllReadyIn.nil
            go_simp
            refine ⟨rfl, RoundIn.mono HR.out ?_⟩
            intro e W3 hr
            rcases HR2.out e W3 hr with rfl | rfl
            · refine hK3 _ _ ?_
              clear hK3 K3
              refine wpAnyIn_take (i := 24) (v := .bool false) rfl rfl (by kernel_rfl) (by kernel_rfl) (by kernel_rfl) (fun _ _ _ h => h) ⟨Or.inl ⟨by rfl, by intro w; go_simp⟩, fun _ => rfl⟩ ?_
              refine wpAnyIn_take (i := 25) (v := .bool false) rfl rfl (by kernel_rfl) (by kernel_rfl) (by kernel_rfl) (fun _ _ _ h => h) ⟨Or.inl ⟨by rfl, by intro w; go_simp⟩, fun _ => rfl⟩ ?_
              refine wpAnyIn_take (i := 26) (v := .bool false) rfl rfl (by kernel_rfl) (by kernel_rfl) (by kernel_rfl) (fun _ _ _ h => h) ⟨Or.inl ⟨by rfl, by intro w; go_simp⟩, fun _ => rfl⟩ ?_
              refine wpAnyIn_done (by kernel_rfl) ?_ _
              refine NoPanic.normal ?_
              exact HQ1.out _ hr
            · refine hK3 _ _ ?_
              clear hK3 K3
              refine wpAnyIn_take (i := 24) (v := .bool true) rfl rfl (by kernel_rfl) (by kernel_rfl) (by kernel_rfl) (fun _ _ _ h => h) ⟨Or.inl ⟨by rfl, by intro w; go_simp⟩, fun _ => rfl⟩ ?_
              refine wpAnyIn_take (i := 25) (v := .bool true) rfl rfl (by kernel_rfl) (by kernel_rfl) (by kernel_rfl) (fun _ _ _ h => h) ⟨Or.inl ⟨by rfl, by intro w; go_simp⟩, fun _ => rfl⟩ ?_
              refine wpAnyIn_take (i := 26) (v := .bool true) rfl rfl (by kernel_rfl) (by kernel_rfl) (by kernel_rfl) (fun _ _ _ h => h) ⟨Or.inl ⟨by rfl, by intro w; go_simp⟩, fun _ => rfl⟩ ?_
              refine wpAnyIn_done (by kernel_rfl) ?_ _
              refine NoPanic.normal ?_
              exact HQ2.out _ hr
          · go_simp
            refine hK3 _ _ ?_
            clear hK3 K3
            refine wpAnyIn_take (i := 20) (v := .pointer (some ⟨g, 0, none⟩)) rfl rfl (by kernel_rfl) (by kernel_rfl) (by kernel_rfl) (fun _ _ _ h => h) ⟨Or.inl ⟨by rfl, by intro w; go_simp⟩, fun _ => rfl⟩ ?_
            refine wpAnyIn_take (i := 21) (v := .pointer (some ⟨g, 0, none⟩)) rfl rfl (by kernel_rfl) (by kernel_rfl) (by kernel_rfl) (fun _ _ _ h => h) ⟨Or.inl ⟨by rfl, by intro w; go_simp⟩, fun _ => rfl⟩ ?_
            refine wpAnyIn_ready (rs := [18, 22]) (by kernel_rfl) (by simp) ?_
            refine AllReadyIn.cons rfl (fun K3 hK3 => ?_) (AllReadyIn.cons rfl (fun K3 hK3 => ?_) AllReadyIn.nil)
            · go_simp
              refine hK3 _ _ ?_
              clear hK3 K3
              refine wpAnyIn_ready (rs := [22]) (by kernel_rfl) (by simp) ?_
              refine AllReadyIn.cons rfl (fun K3 hK3 => ?_) AllReadyIn.nil
              go_simp
              refine hK3 _ _ ?_
              clear hK3 K3
              refine wpAnyIn_ready (rs := [23]) (by kernel_rfl) (by simp) ?_
              refine AllReadyIn.cons rfl (fun K3 hK3 => ?_) AllReadyIn.nil
              go_simp
              refine ⟨rfl, RoundIn.mono HR.out ?_⟩
              intro e W3 hr
              rcases HR2.out e W3 hr with rfl | rfl
              · refine hK3 _ _ ?_
                clear hK3 K3
                refine wpAnyIn_take (i := 24) (v := .bool false) rfl rfl (by kernel_rfl) (by kernel_rfl) (by kernel_rfl) (fun _ _ _ h => h) ⟨Or.inl ⟨by rfl, by intro w; go_simp⟩, fun _ => rfl⟩ ?_
                refine wpAnyIn_take (i := 25) (v := .bool false) rfl rfl (by kernel_rfl) (by kernel_rfl) (by kernel_rfl) (fun _ _ _ h => h) ⟨Or.inl ⟨by rfl, by intro w; go_simp⟩, fun _ => rfl⟩ ?_
                refine wpAnyIn_take (i := 26) (v := .bool false) rfl rfl (by kernel_rfl) (by kernel_rfl) (by kernel_rfl) (fun _ _ _ h => h) ⟨Or.inl ⟨by rfl, by intro w; go_simp⟩, fun _ => rfl⟩ ?_
                refine wpAnyIn_done (by kernel_rfl) ?_ _
                refine NoPanic.normal ?_
                exact HQ1.out _ hr
              · refine hK3 _ _ ?_
                clear hK3 K3
                refine wpAnyIn_take (i := 24) (v := .bool true) rfl rfl (by kernel_rfl) (by kernel_rfl) (by kernel_rfl) (fun _ _ _ h => h) ⟨Or.inl ⟨by rfl, by intro w; go_simp⟩, fun _ => rfl⟩ ?_
                refine wpAnyIn_take (i := 25) (v := .bool true) rfl rfl (by kernel_rfl) (by kernel_rfl) (by kernel_rfl) (fun _ _ _ h => h) ⟨Or.inl ⟨by rfl, by intro w; go_simp⟩, fun _ => rfl⟩ ?_
                refine wpAnyIn_take (i := 26) (v := .bool true) rfl rfl (by kernel_rfl) (by kernel_rfl) (by kernel_rfl) (fun _ _ _ h => h) ⟨Or.inl ⟨by rfl, by intro w; go_simp⟩, fun _ => rfl⟩ ?_
                refine wpAnyIn_done (by kernel_rfl) ?_ _
                refine NoPanic.normal ?_
                exact HQ2.out _ hr
            · go_simp
              refine hK3 _ _ ?_
              clear hK3 K3
              refine wpAnyIn_ready (rs := [18]) (by kernel_rfl) (by simp) ?_
              refine AllReadyIn.cons rfl (fun K3 hK3 => ?_) AllReadyIn.nil
              go_simp
              refine hK3 _ _ ?_
              clear hK3 K3
              refine wpAnyIn_ready (rs := [23]) (by kernel_rfl) (by simp) ?_
              refine AllReadyIn.cons rfl (fun K3 hK3 => ?_) AllReadyIn.nil
              go_simp
              refine ⟨rfl, RoundIn.mono HR.out ?_⟩
              intro e W3 hr
              rcases HR2.out e W3 hr with rfl | rfl
              · refine hK3 _ _ ?_
                clear hK3 K3
                refine wpAnyIn_take (i := 24) (v := .bool false) rfl rfl (by kernel_rfl) (by kernel_rfl) (by kernel_rfl) (fun _ _ _ h => h) ⟨Or.inl ⟨by rfl, by intro w; go_simp⟩, fun _ => rfl⟩ ?_
                refine wpAnyIn_take (i := 25) (v := .bool false) rfl rfl (by kernel_rfl) (by kernel_rfl) (by kernel_rfl) (fun _ _ _ h => h) ⟨Or.inl ⟨by rfl, by intro w; go_simp⟩, fun _ => rfl⟩ ?_
                refine wpAnyIn_take (i := 26) (v := .bool false) rfl rfl (by kernel_rfl) (by kernel_rfl) (by kernel_rfl) (fun _ _ _ h => h) ⟨Or.inl ⟨by rfl, by intro w; go_simp⟩, fun _ => rfl⟩ ?_
                refine wpAnyIn_done (by kernel_rfl) ?_ _
                refine NoPanic.normal ?_
                exact HQ1.out _ hr
              · refine hK3 _ _ ?_
                clear hK3 K3
                refine wpAnyIn_take (i := 24) (v := .bool true) rfl rfl (by kernel_rfl) (by kernel_rfl) (by kernel_rfl) (fun _ _ _ h => h) ⟨Or.inl ⟨by rfl, by intro w; go_simp⟩, fun _ => rfl⟩ ?_
                refine wpAnyIn_take (i := 25) (v := .bool true) rfl rfl (by kernel_rfl) (by kernel_rfl) (by kernel_rfl) (fun _ _ _ h => h) ⟨Or.inl ⟨by rfl, by intro w; go_simp⟩, fun _ => rfl⟩ ?_
                refine wpAnyIn_take (i := 26) (v := .bool true) rfl rfl (by kernel_rfl) (by kernel_rfl) (by kernel_rfl) (fun _ _ _ h => h) ⟨Or.inl ⟨by rfl, by intro w; go_simp⟩, fun _ => rfl⟩ ?_
                refine wpAnyIn_done (by kernel_rfl) ?_ _
                refine NoPanic.normal ?_
                exact HQ2.out _ hr
        · go_simp
          refine hK3 _ _ ?_
          clear hK3 K3
          refine wpAnyIn_ready (rs := [14]) (by kernel_rfl) (by simp) ?_
          refine AllReadyIn.cons rfl (fun K3 hK3 => ?_) AllReadyIn.nil
          go_simp
          refine hK3 _ _ ?_
          clear hK3 K3
          refine wpAnyIn_take (i := 16) (v := .bool true) rfl rfl (by kernel_rfl) (by kernel_rfl) (by kernel_rfl) (fun _ _ _ h => h) ⟨Or.inl ⟨by rfl, by intro w; go_simp⟩, fun _ => rfl⟩ ?_
          refine wpAnyIn_take (i := 17) (v := .bool true) rfl rfl (by kernel_rfl) (by kernel_rfl) (by kernel_rfl) (fun _ _ _ h => h) ⟨Or.inl ⟨by rfl, by intro w; go_simp⟩, fun _ => rfl⟩ ?_
          refine wpAnyIn_ready (rs := [18, 19]) (by kernel_rfl) (by simp) ?_
          refine AllReadyIn.cons rfl (fun K3 hK3 => ?_) (AllReadyIn.cons rfl (fun K3 hK3 => ?_) AllReadyIn.nil)
          · go_simp
            refine hK3 _ _ ?_
            clear hK3 K3
            refine wpAnyIn_ready (rs := [19]) (by kernel_rfl) (by simp) ?_
            refine AllReadyIn.cons rfl (fun K3 hK3 => ?_) AllReadyIn.nil
            go_simp
            refine hK3 _ _ ?_
            clear hK3 K3
            refine wpAnyIn_take (i := 20) (v := .pointer (some ⟨g, 0, none⟩)) rfl rfl (by kernel_rfl) (by kernel_rfl) (by kernel_rfl) (fun _ _ _ h => h) ⟨Or.inl ⟨by rfl, by intro w; go_simp⟩, fun _ => rfl⟩ ?_
            refine wpAnyIn_take (i := 21) (v := .pointer (some ⟨g, 0, none⟩)) rfl rfl (by kernel_rfl) (by kernel_rfl) (by kernel_rfl) (fun _ _ _ h => h) ⟨Or.inl ⟨by rfl, by intro w; go_simp⟩, fun _ => rfl⟩ ?_
            refine wpAnyIn_ready (rs := [22]) (by kernel_rfl) (by simp) ?_
            refine AllReadyIn.cons rfl (fun K3 hK3 => ?_) AllReadyIn.nil
            go_simp
            refine hK3 _ _ ?_
            clear hK3 K3
            refine wpAnyIn_ready (rs := [23]) (by kernel_rfl) (by simp) ?_
            refine AllReadyIn.cons rfl (fun K3 hK3 => ?_) AllReadyIn.nil
            go_simp
            refine ⟨rfl, RoundIn.mono HR.out ?_⟩
            intro e W3 hr
            rcases HR2.out e W3 hr with rfl | rfl
            · refine hK3 _ _ ?_
              clear hK3 K3
              refine wpAnyIn_take (i := 24) (v := .bool false) rfl rfl (by kernel_rfl) (by kernel_rfl) (by kernel_rfl) (fun _ _ _ h => h) ⟨Or.inl ⟨by rfl, by intro w; go_simp⟩, fun _ => rfl⟩ ?_
              refine wpAnyIn_take (i := 25) (v := .bool false) rfl rfl (by kernel_rfl) (by kernel_rfl) (by kernel_rfl) (fun _ _ _ h => h) ⟨Or.inl ⟨by rfl, by intro w; go_simp⟩, fun _ => rfl⟩ ?_
              refine wpAnyIn_take (i := 26) (v := .bool false) rfl rfl (by kernel_rfl) (by kernel_rfl) (by kernel_rfl) (fun _ _ _ h => h) ⟨Or.inl ⟨by rfl, by intro w; go_simp⟩, fun _ => rfl⟩ ?_
              refine wpAnyIn_done (by kernel_rfl) ?_ _
              refine NoPanic.normal ?_
              exact HQ1.out _ hr
            · refine hK3 _ _ ?_
              clear hK3 K3
              refine wpAnyIn_take (i := 24) (v := .bool true) rfl rfl (by kernel_rfl) (by kernel_rfl) (by kernel_rfl) (fun _ _ _ h => h) ⟨Or.inl ⟨by rfl, by intro w; go_simp⟩, fun _ => rfl⟩ ?_
              refine wpAnyIn_take (i := 25) (v := .bool true) rfl rfl (by kernel_rfl) (by kernel_rfl) (by kernel_rfl) (fun _ _ _ h => h) ⟨Or.inl ⟨by rfl, by intro w; go_simp⟩, fun _ => rfl⟩ ?_
              refine wpAnyIn_take (i := 26) (v := .bool true) rfl rfl (by kernel_rfl) (by kernel_rfl) (by kernel_rfl) (fun _ _ _ h => h) ⟨Or.inl ⟨by rfl, by intro w; go_simp⟩, fun _ => rfl⟩ ?_
              refine wpAnyIn_done (by kernel_rfl) ?_ _
              refine NoPanic.normal ?_
              exact HQ2.out _ hr
          · go_simp
            refine hK3 _ _ ?_
            clear hK3 K3
            refine wpAnyIn_take (i := 20) (v := .pointer (some ⟨g, 0, none⟩)) rfl rfl (by kernel_rfl) (by kernel_rfl) (by kernel_rfl) (fun _ _ _ h => h) ⟨Or.inl ⟨by rfl, by intro w; go_simp⟩, fun _ => rfl⟩ ?_
            refine wpAnyIn_take (i := 21) (v := .pointer (some ⟨g, 0, none⟩)) rfl rfl (by kernel_rfl) (by kernel_rfl) (by kernel_rfl) (fun _ _ _ h => h) ⟨Or.inl ⟨by rfl, by intro w; go_simp⟩, fun _ => rfl⟩ ?_
            refine wpAnyIn_ready (rs := [18, 22]) (by kernel_rfl) (by simp) ?_
            refine AllReadyIn.cons rfl (fun K3 hK3 => ?_) (AllReadyIn.cons rfl (fun K3 hK3 => ?_) AllReadyIn.nil)
            · go_simp
              refine hK3 _ _ ?_
              clear hK3 K3
              refine wpAnyIn_ready (rs := [22]) (by kernel_rfl) (by simp) ?_
              refine AllReadyIn.cons rfl (fun K3 hK3 => ?_) AllReadyIn.nil
              go_simp
              refine hK3 _ _ ?_
              clear hK3 K3
              refine wpAnyIn_ready (rs := [23]) (by kernel_rfl) (by simp) ?_
              refine AllReadyIn.cons rfl (fun K3 hK3 => ?_) AllReadyIn.nil
              go_simp
              refine ⟨rfl, RoundIn.mono HR.out ?_⟩
              intro e W3 hr
              rcases HR2.out e W3 hr with rfl | rfl
              · refine hK3 _ _ ?_
                clear hK3 K3
                refine wpAnyIn_take (i := 24) (v := .bool false) rfl rfl (by kernel_rfl) (by kernel_rfl) (by kernel_rfl) (fun _ _ _ h => h) ⟨Or.inl ⟨by rfl, by intro w; go_simp⟩, fun _ => rfl⟩ ?_
                refine wpAnyIn_take (i := 25) (v := .bool false) rfl rfl (by kernel_rfl) (by kernel_rfl) (by kernel_rfl) (fun _ _ _ h => h) ⟨Or.inl ⟨by rfl, by intro w; go_simp⟩, fun _ => rfl⟩ ?_
                refine wpAnyIn_take (i := 26) (v := .bool false) rfl rfl (by kernel_rfl) (by kernel_rfl) (by kernel_rfl) (fun _ _ _ h => h) ⟨Or.inl ⟨by rfl, by intro w; go_simp⟩, fun _ => rfl⟩ ?_
                refine wpAnyIn_done (by kernel_rfl) ?_ _
                refine NoPanic.normal ?_
                exact HQ1.out _ hr
              · refine hK3 _ _ ?_
                clear hK3 K3
                refine wpAnyIn_take (i := 24) (v := .bool true) rfl rfl (by kernel_rfl) (by kernel_rfl) (by kernel_rfl) (fun _ _ _ h => h) ⟨Or.inl ⟨by rfl, by intro w; go_simp⟩, fun _ => rfl⟩ ?_
                refine wpAnyIn_take (i := 25) (v := .bool true) rfl rfl (by kernel_rfl) (by kernel_rfl) (by kernel_rfl) (fun _ _ _ h => h) ⟨Or.inl ⟨by rfl, by intro w; go_simp⟩, fun _ => rfl⟩ ?_
                refine wpAnyIn_take (i := 26) (v := .bool true) rfl rfl (by kernel_rfl) (by kernel_rfl) (by kernel_rfl) (fun _ _ _ h => h) ⟨Or.inl ⟨by rfl, by intro w; go_simp⟩, fun _ => rfl⟩ ?_
                refine wpAnyIn_done (by kernel_rfl) ?_ _
                refine NoPanic.normal ?_
                exact HQ2.out _ hr
            · go_simp
              refine hK3 _ _ ?_
              clear hK3 K3
              refine wpAnyIn_ready (rs := [18]) (by kernel_rfl) (by simp) ?_
              refine AllReadyIn.cons rfl (fun K3 hK3 => ?_) AllReadyIn.nil
              go_simp
              refine hK3 _ _ ?_
              clear hK3 K3
              refine wpAnyIn_ready (rs := [23]) (by kernel_rfl) (by simp) ?_
              refine AllReadyIn.cons rfl (fun K3 hK3 => ?_) AllReadyIn.nil
              go_simp
              refine ⟨rfl, RoundIn.mono HR.out ?_⟩
              intro e W3 hr
              rcases HR2.out e W3 hr with rfl | rfl
              · refine hK3 _ _ ?_
                clear hK3 K3
                refine wpAnyIn_take (i := 24) (v := .bool false) rfl rfl (by kernel_rfl) (by kernel_rfl) (by kernel_rfl) (fun _ _ _ h => h) ⟨Or.inl ⟨by rfl, by intro w; go_simp⟩, fun _ => rfl⟩ ?_
                refine wpAnyIn_take (i := 25) (v := .bool false) rfl rfl (by kernel_rfl) (by kernel_rfl) (by kernel_rfl) (fun _ _ _ h => h) ⟨Or.inl ⟨by rfl, by intro w; go_simp⟩, fun _ => rfl⟩ ?_
                refine wpAnyIn_take (i := 26) (v := .bool false) rfl rfl (by kernel_rfl) (by kernel_rfl) (by kernel_rfl) (fun _ _ _ h => h) ⟨Or.inl ⟨by rfl, by intro w; go_simp⟩, fun _ => rfl⟩ ?_
                refine wpAnyIn_done (by kernel_rfl) ?_ _
                refine NoPanic.normal ?_
                exact HQ1.out _ hr
              · refine hK3 _ _ ?_
                clear hK3 K3
                refine wpAnyIn_take (i := 24) (v := .bool true) rfl rfl (by kernel_rfl) (by kernel_rfl) (by kernel_rfl) (fun _ _ _ h => h) ⟨Or.inl ⟨by rfl, by intro w; go_simp⟩, fun _ => rfl⟩ ?_
                refine wpAnyIn_take (i := 25) (v := .bool true) rfl rfl (by kernel_rfl) (by kernel_rfl) (by kernel_rfl) (fun _ _ _ h => h) ⟨Or.inl ⟨by rfl, by intro w; go_simp⟩, fun _ => rfl⟩ ?_
                refine wpAnyIn_take (i := 26) (v := .bool true) rfl rfl (by kernel_rfl) (by kernel_rfl) (by kernel_rfl) (fun _ _ _ h => h) ⟨Or.inl ⟨by rfl, by intro w; go_simp⟩, fun _ => rfl⟩ ?_
                refine wpAnyIn_done (by kernel_rfl) ?_ _
                refine NoPanic.normal ?_
                exact HQ2.out _ hr
      · go_simp
        refine hK3 _ _ ?_
        clear hK3 K3
        refine wpAnyIn_ready (rs := [9]) (by kernel_rfl) (by simp) ?_
        refine AllReadyIn.cons rfl (fun K3 hK3 => ?_) AllReadyIn.nil
        go_simp
        refine hK3 _ _ ?_
        clear hK3 K3
        refine wpAnyIn_take (i := 10) (v := .pointer (some ⟨g, 0, none⟩)) rfl rfl (by kernel_rfl) (by kernel_rfl) (by kernel_rfl) (fun _ _ _ h => h) ⟨Or.inl ⟨by rfl, by intro w; go_simp⟩, fun _ => rfl⟩ ?_
        refine wpAnyIn_take (i := 11) (v := .pointer (some ⟨g, 0, none⟩)) rfl rfl (by kernel_rfl) (by kernel_rfl) (by kernel_rfl) (fun _ _ _ h => h) ⟨Or.inl ⟨by rfl, by intro w; go_simp⟩, fun _ => rfl⟩ ?_
        refine wpAnyIn_take (i := 12) (v := .pointer (some ⟨g, 0, none⟩)) rfl rfl (by kernel_rfl) (by kernel_rfl) (by kernel_rfl) (fun _ _ _ h => h) ⟨Or.inl ⟨by rfl, by intro w; go_simp⟩, fun _ => rfl⟩ ?_
        refine wpAnyIn_take (i := 13) (v := .pointer (some ⟨g, 1, none⟩)) rfl rfl (by kernel_rfl) (by kernel_rfl) (by kernel_rfl) (fun _ _ _ h => h) ⟨Or.inl ⟨by rfl, by intro w; go_simp⟩, fun _ => rfl⟩ ?_
        refine wpAnyIn_ready (rs := [14]) (by kernel_rfl) (by simp) ?_
        refine AllReadyIn.cons rfl (fun K3 hK3 => ?_) AllReadyIn.nil
        go_simp
        refine hK3 _ _ ?_
        clear hK3 K3
        refine wpAnyIn_take (i := 16) (v := .bool true) rfl rfl (by kernel_rfl) (by kernel_rfl) (by kernel_rfl) (fun _ _ _ h => h) ⟨Or.inl ⟨by rfl, by intro w; go_simp⟩, fun _ => rfl⟩ ?_
        refine wpAnyIn_take (i := 17) (v := .bool true) rfl rfl (by kernel_rfl) (by kernel_rfl) (by kernel_rfl) (fun _ _ _ h => h) ⟨Or.inl ⟨by rfl, by intro w; go_simp⟩, fun _ => rfl⟩ ?_
        refine wpAnyIn_ready (rs := [18, 19]) (by kernel_rfl) (by simp) ?_
        refine AllReadyIn.cons rfl (fun K3 hK3 => ?_) (AllReadyIn.cons rfl (fun K3 hK3 => ?_) AllReadyIn.nil)
        · go_simp
          refine hK3 _ _ ?_
          clear hK3 K3
          refine wpAnyIn_ready (rs := [19]) (by kernel_rfl) (by simp) ?_
          refine AllReadyIn.cons rfl (fun K3 hK3 => ?_) AllReadyIn.nil
          go_simp
          refine hK3 _ _ ?_
          clear hK3 K3
          refine wpAnyIn_take (i := 20) (v := .pointer (some ⟨g, 0, none⟩)) rfl rfl (by kernel_rfl) (by kernel_rfl) (by kernel_rfl) (fun _ _ _ h => h) ⟨Or.inl ⟨by rfl, by intro w; go_simp⟩, fun _ => rfl⟩ ?_
          refine wpAnyIn_take (i := 21) (v := .pointer (some ⟨g, 0, none⟩)) rfl rfl (by kernel_rfl) (by kernel_rfl) (by kernel_rfl) (fun _ _ _ h => h) ⟨Or.inl ⟨by rfl, by intro w; go_simp⟩, fun _ => rfl⟩ ?_
          refine wpAnyIn_ready (rs := [22]) (by kernel_rfl) (by simp) ?_
          refine AllReadyIn.cons rfl (fun K3 hK3 => ?_) AllReadyIn.nil
          go_simp
          refine hK3 _ _ ?_
          clear hK3 K3
          refine wpAnyIn_ready (rs := [23]) (by kernel_rfl) (by simp) ?_
          refine AllReadyIn.cons rfl (fun K3 hK3 => ?_) AllReadyIn.nil
          go_simp
          refine ⟨rfl, RoundIn.mono HR.out ?_⟩
          intro e W3 hr
          rcases HR2.out e W3 hr with rfl | rfl
          · refine hK3 _ _ ?_
            clear hK3 K3
            refine wpAnyIn_take (i := 24) (v := .bool false) rfl rfl (by kernel_rfl) (by kernel_rfl) (by kernel_rfl) (fun _ _ _ h => h) ⟨Or.inl ⟨by rfl, by intro w; go_simp⟩, fun _ => rfl⟩ ?_
            refine wpAnyIn_take (i := 25) (v := .bool false) rfl rfl (by kernel_rfl) (by kernel_rfl) (by kernel_rfl) (fun _ _ _ h => h) ⟨Or.inl ⟨by rfl, by intro w; go_simp⟩, fun _ => rfl⟩ ?_
            refine wpAnyIn_take (i := 26) (v := .bool false) rfl rfl (by kernel_rfl) (by kernel_rfl) (by kernel_rfl) (fun _ _ _ h => h) ⟨Or.inl ⟨by rfl, by intro w; go_simp⟩, fun _ => rfl⟩ ?_
            refine wpAnyIn_done (by kernel_rfl) ?_ _
            refine NoPanic.normal ?_
            exact HQ1.out _ hr
          · refine hK3 _ _ ?_
            clear hK3 K3
            refine wpAnyIn_take (i := 24) (v := .bool true) rfl rfl (by kernel_rfl) (by kernel_rfl) (by kernel_rfl) (fun _ _ _ h => h) ⟨Or.inl ⟨by rfl, by intro w; go_simp⟩, fun _ => rfl⟩ ?_
            refine wpAnyIn_take (i := 25) (v := .bool true) rfl rfl (by kernel_rfl) (by kernel_rfl) (by kernel_rfl) (fun _ _ _ h => h) ⟨Or.inl ⟨by rfl, by intro w; go_simp⟩, fun _ => rfl⟩ ?_
            refine wpAnyIn_take (i := 26) (v := .bool true) rfl rfl (by kernel_rfl) (by kernel_rfl) (by kernel_rfl) (fun _ _ _ h => h) ⟨Or.inl ⟨by rfl, by intro w; go_simp⟩, fun _ => rfl⟩ ?_
            refine wpAnyIn_done (by kernel_rfl) ?_ _
            refine NoPanic.normal ?_
            exact HQ2.out _ hr
        · go_simp
          refine hK3 _ _ ?_
          clear hK3 K3
          refine wpAnyIn_take (i := 20) (v := .pointer (some ⟨g, 0, none⟩)) rfl rfl (by kernel_rfl) (by kernel_rfl) (by kernel_rfl) (fun _ _ _ h => h) ⟨Or.inl ⟨by rfl, by intro w; go_simp⟩, fun _ => rfl⟩ ?_
          refine wpAnyIn_take (i := 21) (v := .pointer (some ⟨g, 0, none⟩)) rfl rfl (by kernel_rfl) (by kernel_rfl) (by kernel_rfl) (fun _ _ _ h => h) ⟨Or.inl ⟨by rfl, by intro w; go_simp⟩, fun _ => rfl⟩ ?_
          refine wpAnyIn_ready (rs := [18, 22]) (by kernel_rfl) (by simp) ?_
          refine AllReadyIn.cons rfl (fun K3 hK3 => ?_) (AllReadyIn.cons rfl (fun K3 hK3 => ?_) AllReadyIn.nil)
          · go_simp
            refine hK3 _ _ ?_
            clear hK3 K3
            refine wpAnyIn_ready (rs := [22]) (by kernel_rfl) (by simp) ?_
            refine AllReadyIn.cons rfl (fun K3 hK3 => ?_) AllReadyIn.nil
            go_simp
            refine hK3 _ _ ?_
            clear hK3 K3
            refine wpAnyIn_ready (rs := [23]) (by kernel_rfl) (by simp) ?_
            refine AllReadyIn.cons rfl (fun K3 hK3 => ?_) AllReadyIn.nil
            go_simp
            refine ⟨rfl, RoundIn.mono HR.out ?_⟩
            intro e W3 hr
            rcases HR2.out e W3 hr with rfl | rfl
            · refine hK3 _ _ ?_
              clear hK3 K3
              refine wpAnyIn_take (i := 24) (v := .bool false) rfl rfl (by kernel_rfl) (by kernel_rfl) (by kernel_rfl) (fun _ _ _ h => h) ⟨Or.inl ⟨by rfl, by intro w; go_simp⟩, fun _ => rfl⟩ ?_
              refine wpAnyIn_take (i := 25) (v := .bool false) rfl rfl (by kernel_rfl) (by kernel_rfl) (by kernel_rfl) (fun _ _ _ h => h) ⟨Or.inl ⟨by rfl, by intro w; go_simp⟩, fun _ => rfl⟩ ?_
              refine wpAnyIn_take (i := 26) (v := .bool false) rfl rfl (by kernel_rfl) (by kernel_rfl) (by kernel_rfl) (fun _ _ _ h => h) ⟨Or.inl ⟨by rfl, by intro w; go_simp⟩, fun _ => rfl⟩ ?_
              refine wpAnyIn_done (by kernel_rfl) ?_ _
              refine NoPanic.normal ?_
              exact HQ1.out _ hr
            · refine hK3 _ _ ?_
              clear hK3 K3
              refine wpAnyIn_take (i := 24) (v := .bool true) rfl rfl (by kernel_rfl) (by kernel_rfl) (by kernel_rfl) (fun _ _ _ h => h) ⟨Or.inl ⟨by rfl, by intro w; go_simp⟩, fun _ => rfl⟩ ?_
              refine wpAnyIn_take (i := 25) (v := .bool true) rfl rfl (by kernel_rfl) (by kernel_rfl) (by kernel_rfl) (fun _ _ _ h => h) ⟨Or.inl ⟨by rfl, by intro w; go_simp⟩, fun _ => rfl⟩ ?_
              refine wpAnyIn_take (i := 26) (v := .bool true) rfl rfl (by kernel_rfl) (by kernel_rfl) (by kernel_rfl) (fun _ _ _ h => h) ⟨Or.inl ⟨by rfl, by intro w; go_simp⟩, fun _ => rfl⟩ ?_
              refine wpAnyIn_done (by kernel_rfl) ?_ _
              refine NoPanic.normal ?_
              exact HQ2.out _ hr
          · go_simp
            refine hK3 _ _ ?_
            clear hK3 K3
            refine wpAnyIn_ready (rs := [18]) (by kernel_rfl) (by simp) ?_
            refine AllReadyIn.cons rfl (fun K3 hK3 => ?_) AllReadyIn.nil
            go_simp
            refine hK3 _ _ ?_
            clear hK3 K3
            refine wpAnyIn_ready (rs := [23]) (by kernel_rfl) (by simp) ?_
            refine AllReadyIn.cons rfl (fun K3 hK3 => ?_) AllReadyIn.nil
            go_simp
            refine ⟨rfl, RoundIn.mono HR.out ?_⟩
            intro e W3 hr
            rcases HR2.out e W3 hr with rfl | rfl
            · refine hK3 _ _ ?_
              clear hK3 K3
              refine wpAnyIn_take (i := 24) (v := .bool false) rfl rfl (by kernel_rfl) (by kernel_rfl) (by kernel_rfl) (fun _ _ _ h => h) ⟨Or.inl ⟨by rfl, by intro w; go_simp⟩, fun _ => rfl⟩ ?_
              refine wpAnyIn_take (i := 25) (v := .bool false) rfl rfl (by kernel_rfl) (by kernel_rfl) (by kernel_rfl) (fun _ _ _ h => h) ⟨Or.inl ⟨by rfl, by intro w; go_simp⟩, fun _ => rfl⟩ ?_
              refine wpAnyIn_take (i := 26) (v := .bool false) rfl rfl (by kernel_rfl) (by kernel_rfl) (by kernel_rfl) (fun _ _ _ h => h) ⟨Or.inl ⟨by rfl, by intro w; go_simp⟩, fun _ => rfl⟩ ?_
              refine wpAnyIn_done (by kernel_rfl) ?_ _
              refine NoPanic.normal ?_
              exact HQ1.out _ hr
            · refine hK3 _ _ ?_
              clear hK3 K3
              refine wpAnyIn_take (i := 24) (v := .bool true) rfl rfl (by kernel_rfl) (by kernel_rfl) (by kernel_rfl) (fun _ _ _ h => h) ⟨Or.inl ⟨by rfl, by intro w; go_simp⟩, fun _ => rfl⟩ ?_
              refine wpAnyIn_take (i := 25) (v := .bool true) rfl rfl (by kernel_rfl) (by kernel_rfl) (by kernel_rfl) (fun _ _ _ h => h) ⟨Or.inl ⟨by rfl, by intro w; go_simp⟩, fun _ => rfl⟩ ?_
              refine wpAnyIn_take (i := 26) (v := .bool true) rfl rfl (by kernel_rfl) (by kernel_rfl) (by kernel_rfl) (fun _ _ _ h => h) ⟨Or.inl ⟨by rfl, by intro w; go_simp⟩, fun _ => rfl⟩ ?_
              refine wpAnyIn_done (by kernel_rfl) ?_ _
              refine NoPanic.normal ?_
              exact HQ2.out _ hr
    · go_simp
      refine hK3 _ _ ?_
      clear hK3 K3
      refine wpAnyIn_ready (rs := [5]) (by kernel_rfl) (by simp) ?_
      refine AllReadyIn.cons rfl (fun K3 hK3 => ?_) AllReadyIn.nil
      go_simp
      refine hK3 _ _ ?_
      clear hK3 K3
      refine wpAnyIn_take (i := 7) (v := .bool false) rfl rfl (by kernel_rfl) (by kernel_rfl) (by kernel_rfl) (fun _ _ _ h => h) ⟨Or.inl ⟨by rfl, by intro w; go_simp⟩, fun _ => rfl⟩ ?_
      refine wpAnyIn_take (i := 8) (v := .bool false) rfl rfl (by kernel_rfl) (by kernel_rfl) (by kernel_rfl) (fun _ _ _ h => h) ⟨Or.inl ⟨by rfl, by intro w; go_simp⟩, fun _ => rfl⟩ ?_
      refine wpAnyIn_ready (rs := [9, 15]) (by kernel_rfl) (by simp) ?_
      refine AllReadyIn.cons rfl (fun K3 hK3 => ?_) (AllReadyIn.cons rfl (fun K3 hK3 => ?_) AllReadyIn.nil)
      · go_simp
        refine hK3 _ _ ?_
        clear hK3 K3
        refine wpAnyIn_take (i := 10) (v := .pointer (some ⟨g, 0, none⟩)) rfl rfl (by kernel_rfl) (by kernel_rfl) (by kernel_rfl) (fun _ _ _ h => h) ⟨Or.inl ⟨by rfl, by intro w; go_simp⟩, fun _ => rfl⟩ ?_
        refine wpAnyIn_take (i := 11) (v := .pointer (some ⟨g, 0, none⟩)) rfl rfl (by kernel_rfl) (by kernel_rfl) (by kernel_rfl) (fun _ _ _ h => h) ⟨Or.inl ⟨by rfl, by intro w; go_simp⟩, fun _ => rfl⟩ ?_
        refine wpAnyIn_take (i := 12) (v := .pointer (some ⟨g, 0, none⟩)) rfl rfl (by kernel_rfl) (by kernel_rfl) (by kernel_rfl) (fun _ _ _ h => h) ⟨Or.inl ⟨by rfl, by intro w; go_simp⟩, fun _ => rfl⟩ ?_
        refine wpAnyIn_take (i := 13) (v := .pointer (some ⟨g, 1, none⟩)) rfl rfl (by kernel_rfl) (by kernel_rfl) (by kernel_rfl) (fun _ _ _ h => h) ⟨Or.inl ⟨by rfl, by intro w; go_simp⟩, fun _ => rfl⟩ ?_
        refine wpAnyIn_ready (rs := [14, 15]) (by kernel_rfl) (by simp) ?_
        refine AllReadyIn.cons rfl (fun K3 hK3 => ?_) (AllReadyIn.cons rfl (fun K3 hK3 => ?_) AllReadyIn.nil)
        · go_simp
          refine hK3 _ _ ?_
          clear hK3 K3
          refine wpAnyIn_ready (rs := [15]) (by kernel_rfl) (by simp) ?_
          refine AllReadyIn.cons rfl (fun K3 hK3 => ?_) AllReadyIn.nil
          go_simp
          refine hK3 _ _ ?_
          clear hK3 K3
          refine wpAnyIn_take (i := 16) (v := .bool true) rfl rfl (by kernel_rfl) (by kernel_rfl) (by kernel_rfl) (fun _ _ _ h => h) ⟨Or.inl ⟨by rfl, by intro w; go_simp⟩, fun _ => rfl⟩ ?_
          refine wpAnyIn_take (i := 17) (v := .bool true) rfl rfl (by kernel_rfl) (by kernel_rfl) (by kernel_rfl) (fun _ _ _ h => h) ⟨Or.inl ⟨by rfl, by intro w; go_simp⟩, fun _ => rfl⟩ ?_
          refine wpAnyIn_ready (rs := [18, 19]) (by kernel_rfl) (by simp) ?_
          refine AllReadyIn.cons rfl (fun K3 hK3 => ?_) (AllReadyIn.cons rfl (fun K3 hK3 => ?_) AllReadyIn.nil)
          · go_simp
            refine hK3 _ _ ?_
            clear hK3 K3
            refine wpAnyIn_ready (rs := [19]) (by kernel_rfl) (by simp) ?_
            refine AllReadyIn.cons rfl (fun K3 hK3 => ?_) AllReadyIn.nil
            go_simp
            refine hK3 _ _ ?_
            clear hK3 K3
            refine wpAnyIn_take (i := 20) (v := .pointer (some ⟨g, 0, none⟩)) rfl rfl (by kernel_rfl) (by kernel_rfl) (by kernel_rfl) (fun _ _ _ h => h) ⟨Or.inl ⟨by rfl, by intro w; go_simp⟩, fun _ => rfl⟩ ?_
            refine wpAnyIn_take (i := 21) (v := .pointer (some ⟨g, 0, none⟩)) rfl rfl (by kernel_rfl) (by kernel_rfl) (by kernel_rfl) (fun _ _ _ h => h) ⟨Or.inl ⟨by rfl, by intro w; go_simp⟩, fun _ => rfl⟩ ?_
            refine wpAnyIn_ready (rs := [22]) (by kernel_rfl) (by simp) ?_
            refine AllReadyIn.cons rfl (fun K3 hK3 => ?_) AllReadyIn.nil
            go_simp
            refine hK3 _ _ ?_
            clear hK3 K3
            refine wpAnyIn_ready (rs := [23]) (by kernel_rfl) (by simp) ?_
            refine AllReadyIn.cons rfl (fun K3 hK3 => ?_) AllReadyIn.nil
            go_simp
            refine ⟨rfl, RoundIn.mono HR.out ?_⟩
            intro e W3 hr
            rcases HR2.out e W3 hr with rfl | rfl
            · refine hK3 _ _ ?_
              clear hK3 K3
              refine wpAnyIn_take (i := 24) (v := .bool false) rfl rfl (by kernel_rfl) (by kernel_rfl) (by kernel_rfl) (fun _ _ _ h => h) ⟨Or.inl ⟨by rfl, by intro w; go_simp⟩, fun _ => rfl⟩ ?_
              refine wpAnyIn_take (i := 25) (v := .bool false) rfl rfl (by kernel_rfl) (by kernel_rfl) (by kernel_rfl) (fun _ _ _ h => h) ⟨Or.inl ⟨by rfl, by intro w; go_simp⟩, fun _ => rfl⟩ ?_
              refine wpAnyIn_take (i := 26) (v := .bool false) rfl rfl (by kernel_rfl) (by kernel_rfl) (by kernel_rfl) (fun _ _ _ h => h) ⟨Or.inl ⟨by rfl, by intro w; go_simp⟩, fun _ => rfl⟩ ?_
              refine wpAnyIn_done (by kernel_rfl) ?_ _
              refine NoPanic.normal ?_
              exact HQ1.out _ hr
            · refine hK3 _ _ ?_
              clear hK3 K3
              refine wpAnyIn_take (i := 24) (v := .bool true) rfl rfl (by kernel_rfl) (by kernel_rfl) (by kernel_rfl) (fun _ _ _ h => h) ⟨Or.inl ⟨by rfl, by intro w; go_simp⟩, fun _ => rfl⟩ ?_
              refine wpAnyIn_take (i := 25) (v := .bool true) rfl rfl (by kernel_rfl) (by kernel_rfl) (by kernel_rfl) (fun _ _ _ h => h) ⟨Or.inl ⟨by rfl, by intro w; go_simp⟩, fun _ => rfl⟩ ?_
              refine wpAnyIn_take (i := 26) (v := .bool true) rfl rfl (by kernel_rfl) (by kernel_rfl) (by kernel_rfl) (fun _ _ _ h => h) ⟨Or.inl ⟨by rfl, by intro w; go_simp⟩, fun _ => rfl⟩ ?_
              refine wpAnyIn_done (by kernel_rfl) ?_ _
              refine NoPanic.normal ?_
              exact HQ2.out _ hr
          · go_simp
            refine hK3 _ _ ?_
            clear hK3 K3
            refine wpAnyIn_take (i := 20) (v := .pointer (some ⟨g, 0, none⟩)) rfl rfl (by kernel_rfl) (by kernel_rfl) (by kernel_rfl) (fun _ _ _ h => h) ⟨Or.inl ⟨by rfl, by intro w; go_simp⟩, fun _ => rfl⟩ ?_
            refine wpAnyIn_take (i := 21) (v := .pointer (some ⟨g, 0, none⟩)) rfl rfl (by kernel_rfl) (by kernel_rfl) (by kernel_rfl) (fun _ _ _ h => h) ⟨Or.inl ⟨by rfl, by intro w; go_simp⟩, fun _ => rfl⟩ ?_
            refine wpAnyIn_ready (rs := [18, 22]) (by kernel_rfl) (by simp) ?_
            refine AllReadyIn.cons rfl (fun K3 hK3 => ?_) (AllReadyIn.cons rfl (fun K3 hK3 => ?_) AllReadyIn.nil)
            · go_simp
              refine hK3 _ _ ?_
              clear hK3 K3
              refine wpAnyIn_ready (rs := [22]) (by kernel_rfl) (by simp) ?_
              refine AllReadyIn.cons rfl (fun K3 hK3 => ?_) AllReadyIn.nil
              go_simp
              refine hK3 _ _ ?_
              clear hK3 K3
              refine wpAnyIn_ready (rs := [23]) (by kernel_rfl) (by simp) ?_
              refine AllReadyIn.cons rfl (fun K3 hK3 => ?_) AllReadyIn.nil
              go_simp
              refine ⟨rfl, RoundIn.mono HR.out ?_⟩
              intro e W3 hr
              rcases HR2.out e W3 hr with rfl | rfl
              · refine hK3 _ _ ?_
                clear hK3 K3
                refine wpAnyIn_take (i := 24) (v := .bool false) rfl rfl (by kernel_rfl) (by kernel_rfl) (by kernel_rfl) (fun _ _ _ h => h) ⟨Or.inl ⟨by rfl, by intro w; go_simp⟩, fun _ => rfl⟩ ?_
                refine wpAnyIn_take (i := 25) (v := .bool false) rfl rfl (by kernel_rfl) (by kernel_rfl) (by kernel_rfl) (fun _ _ _ h => h) ⟨Or.inl ⟨by rfl, by intro w; go_simp⟩, fun _ => rfl⟩ ?_
                refine wpAnyIn_take (i := 26) (v := .bool false) rfl rfl (by kernel_rfl) (by kernel_rfl) (by kernel_rfl) (fun _ _ _ h => h) ⟨Or.inl ⟨by rfl, by intro w; go_simp⟩, fun _ => rfl⟩ ?_
                refine wpAnyIn_done (by kernel_rfl) ?_ _
                refine NoPanic.normal ?_
                exact HQ1.out _ hr
              · refine hK3 _ _ ?_
                clear hK3 K3
                refine wpAnyIn_take (i := 24) (v := .bool true) rfl rfl (by kernel_rfl) (by kernel_rfl) (by kernel_rfl) (fun _ _ _ h => h) ⟨Or.inl ⟨by rfl, by intro w; go_simp⟩, fun _ => rfl⟩ ?_
                refine wpAnyIn_take (i := 25) (v := .bool true) rfl rfl (by kernel_rfl) (by kernel_rfl) (by kernel_rfl) (fun _ _ _ h => h) ⟨Or.inl ⟨by rfl, by intro w; go_simp⟩, fun _ => rfl⟩ ?_
                refine wpAnyIn_take (i := 26) (v := .bool true) rfl rfl (by kernel_rfl) (by kernel_rfl) (by kernel_rfl) (fun _ _ _ h => h) ⟨Or.inl ⟨by rfl, by intro w; go_simp⟩, fun _ => rfl⟩ ?_
                refine wpAnyIn_done (by kernel_rfl) ?_ _
                refine NoPanic.normal ?_
                exact HQ2.out _ hr
            · go_simp
              refine hK3 _ _ ?_
              clear hK3 K3
              refine wpAnyIn_ready (rs := [18]) (by kernel_rfl) (by simp) ?_
              refine AllReadyIn.cons rfl (fun K3 hK3 => ?_) AllReadyIn.nil
              go_simp
              refine hK3 _ _ ?_
              clear hK3 K3
              refine wpAnyIn_ready (rs := [23]) (by kernel_rfl) (by simp) ?_
              refine AllReadyIn.cons rfl (fun K3 hK3 => ?_) AllReadyIn.nil
              go_simp
              refine ⟨rfl, RoundIn.mono HR.out ?_⟩
              intro e W3 hr
              rcases HR2.out e W3 hr with rfl | rfl
              · refine hK3 _ _ ?_
                clear hK3 K3
                refine wpAnyIn_take (i := 24) (v := .bool false) rfl rfl (by kernel_rfl) (by kernel_rfl) (by kernel_rfl) (fun _ _ _ h => h) ⟨Or.inl ⟨by rfl, by intro w; go_simp⟩, fun _ => rfl⟩ ?_
                refine wpAnyIn_take (i := 25) (v := .bool false) rfl rfl (by kernel_rfl) (by kernel_rfl) (by kernel_rfl) (fun _ _ _ h => h) ⟨Or.inl ⟨by rfl, by intro w; go_simp⟩, fun _ => rfl⟩ ?_
                refine wpAnyIn_take (i := 26) (v := .bool false) rfl rfl (by kernel_rfl) (by kernel_rfl) (by kernel_rfl) (fun _ _ _ h => h) ⟨Or.inl ⟨by rfl, by intro w; go_simp⟩, fun _ => rfl⟩ ?_
                refine wpAnyIn_done (by kernel_rfl) ?_ _
                refine NoPanic.normal ?_
                exact HQ1.out _ hr
              · refine hK3 _ _ ?_
                clear hK3 K3
                refine wpAnyIn_take (i := 24) (v := .bool true) rfl rfl (by kernel_rfl) (by kernel_rfl) (by kernel_rfl) (fun _ _ _ h => h) ⟨Or.inl ⟨by rfl, by intro w; go_simp⟩, fun _ => rfl⟩ ?_
                refine wpAnyIn_take (i := 25) (v := .bool true) rfl rfl (by kernel_rfl) (by kernel_rfl) (by kernel_rfl) (fun _ _ _ h => h) ⟨Or.inl ⟨by rfl, by intro w; go_simp⟩, fun _ => rfl⟩ ?_
                refine wpAnyIn_take (i := 26) (v := .bool true) rfl rfl (by kernel_rfl) (by kernel_rfl) (by kernel_rfl) (fun _ _ _ h => h) ⟨Or.inl ⟨by rfl, by intro w; go_simp⟩, fun _ => rfl⟩ ?_
                refine wpAnyIn_done (by kernel_rfl) ?_ _
                refine NoPanic.normal ?_
                exact HQ2.out _ hr
        · go_simp
          refine hK3 _ _ ?_
          clear hK3 K3
          refine wpAnyIn_ready (rs := [14]) (by kernel_rfl) (by simp) ?_
          refine AllReadyIn.cons rfl (fun K3 hK3 => ?_) AllReadyIn.nil
          go_simp
          refine hK3 _ _ ?_
          clear hK3 K3
          refine wpAnyIn_take (i := 16) (v := .bool true) rfl rfl (by kernel_rfl) (by kernel_rfl) (by kernel_rfl) (fun _ _ _ h => h) ⟨Or.inl ⟨by rfl, by intro w; go_simp⟩, fun _ => rfl⟩ ?_
          refine wpAnyIn_take (i := 17) (v := .bool true) rfl rfl (by kernel_rfl) (by kernel_rfl) (by kernel_rfl) (fun _ _ _ h => h) ⟨Or.inl ⟨by rfl, by intro w; go_simp⟩, fun _ => rfl⟩ ?_
          refine wpAnyIn_ready (rs := [18, 19]) (by kernel_rfl) (by simp) ?_
          refine AllReadyIn.cons rfl (fun K3 hK3 => ?_) (AllReadyIn.cons rfl (fun K3 hK3 => ?_) AllReadyIn.nil)
          · go_simp
            refine hK3 _ _ ?_
            clear hK3 K3
            refine wpAnyIn_ready (rs := [19]) (by kernel_rfl) (by simp) ?_
            refine AllReadyIn.cons rfl (fun K3 hK3 => ?_) AllReadyIn.nil
            go_simp
            refine hK3 _ _ ?_
            clear hK3 K3
            refine wpAnyIn_take (i := 20) (v := .pointer (some ⟨g, 0, none⟩)) rfl rfl (by kernel_rfl) (by kernel_rfl) (by kernel_rfl) (fun _ _ _ h => h) ⟨Or.inl ⟨by rfl, by intro w; go_simp⟩, fun _ => rfl⟩ ?_
            refine wpAnyIn_take (i := 21) (v := .pointer (some ⟨g, 0, none⟩)) rfl rfl (by kernel_rfl) (by kernel_rfl) (by kernel_rfl) (fun _ _ _ h => h) ⟨Or.inl ⟨by rfl, by intro w; go_simp⟩, fun _ => rfl⟩ ?_
            refine wpAnyIn_ready (rs := [22]) (by kernel_rfl) (by simp) ?_
            refine AllReadyIn.cons rfl (fun K3 hK3 => ?_) AllReadyIn.nil
            go_simp
            refine hK3 _ _ ?_
            clear hK3 K3
            refine wpAnyIn_ready (rs := [23]) (by kernel_rfl) (by simp) ?_
            refine AllReadyIn.cons rfl (fun K3 hK3 => ?_) AllReadyIn.nil
            go_simp
            refine ⟨rfl, RoundIn.mono HR.out ?_⟩
            intro e W3 hr
            rcases HR2.out e W3 hr with rfl | rfl
            · refine hK3 _ _ ?_
              clear hK3 K3
              refine wpAnyIn_take (i := 24) (v := .bool false) rfl rfl (by kernel_rfl) (by kernel_rfl) (by kernel_rfl) (fun _ _ _ h => h) ⟨Or.inl ⟨by rfl, by intro w; go_simp⟩, fun _ => rfl⟩ ?_
              refine wpAnyIn_take (i := 25) (v := .bool false) rfl rfl (by kernel_rfl) (by kernel_rfl) (by kernel_rfl) (fun _ _ _ h => h) ⟨Or.inl ⟨by rfl, by intro w; go_simp⟩, fun _ => rfl⟩ ?_
              refine wpAnyIn_take (i := 26) (v := .bool false) rfl rfl (by kernel_rfl) (by kernel_rfl) (by kernel_rfl) (fun _ _ _ h => h) ⟨Or.inl ⟨by rfl, by intro w; go_simp⟩, fun _ => rfl⟩ ?_
              refine wpAnyIn_done (by kernel_rfl) ?_ _
              refine NoPanic.normal ?_
              exact HQ1.out _ hr
            · refine hK3 _ _ ?_
              clear hK3 K3
              refine wpAnyIn_take (i := 24) (v := .bool true) rfl rfl (by kernel_rfl) (by kernel_rfl) (by kernel_rfl) (fun _ _ _ h => h) ⟨Or.inl ⟨by rfl, by intro w; go_simp⟩, fun _ => rfl⟩ ?_
              refine wpAnyIn_take (i := 25) (v := .bool true) rfl rfl (by kernel_rfl) (by kernel_rfl) (by kernel_rfl) (fun _ _ _ h => h) ⟨Or.inl ⟨by rfl, by intro w; go_simp⟩, fun _ => rfl⟩ ?_
              refine wpAnyIn_take (i := 26) (v := .bool true) rfl rfl (by kernel_rfl) (by kernel_rfl) (by kernel_rfl) (fun _ _ _ h => h) ⟨Or.inl ⟨by rfl, by intro w; go_simp⟩, fun _ => rfl⟩ ?_
              refine wpAnyIn_done (by kernel_rfl) ?_ _
              refine NoPanic.normal ?_
              exact HQ2.out _ hr
          · go_simp
            refine hK3 _ _ ?_
            clear hK3 K3
            refine wpAnyIn_take (i := 20) (v := .pointer (some ⟨g, 0, none⟩)) rfl rfl (by kernel_rfl) (by kernel_rfl) (by kernel_rfl) (fun _ _ _ h => h) ⟨Or.inl ⟨by rfl, by intro w; go_simp⟩, fun _ => rfl⟩ ?_
            refine wpAnyIn_take (i := 21) (v := .pointer (some ⟨g, 0, none⟩)) rfl rfl (by kernel_rfl) (by kernel_rfl) (by kernel_rfl) (fun _ _ _ h => h) ⟨Or.inl ⟨by rfl, by intro w; go_simp⟩, fun _ => rfl⟩ ?_
            refine wpAnyIn_ready (rs := [18, 22]) (by kernel_rfl) (by simp) ?_
            refine AllReadyIn.cons rfl (fun K3 hK3 => ?_) (AllReadyIn.cons rfl (fun K3 hK3 => ?_) AllReadyIn.nil)
            · go_simp
              refine hK3 _ _ ?_
              clear hK3 K3
              refine wpAnyIn_ready (rs := [22]) (by kernel_rfl) (by simp) ?_
              refine AllReadyIn.cons rfl (fun K3 hK3 => ?_) AllReadyIn.nil
              go_simp
              refine hK3 _ _ ?_
              clear hK3 K3
              refine wpAnyIn_ready (rs := [23]) (by kernel_rfl) (by simp) ?_
              refine AllReadyIn.cons rfl (fun K3 hK3 => ?_) AllReadyIn.nil
              go_simp
              refine ⟨rfl, RoundIn.mono HR.out ?_⟩
              intro e W3 hr
              rcases HR2.out e W3 hr with rfl | rfl
              · refine hK3 _ _ ?_
                clear hK3 K3
                refine wpAnyIn_take (i := 24) (v := .bool false) rfl rfl (by kernel_rfl) (by kernel_rfl) (by kernel_rfl) (fun _ _ _ h => h) ⟨Or.inl ⟨by rfl, by intro w; go_simp⟩, fun _ => rfl⟩ ?_
                refine wpAnyIn_take (i := 25) (v := .bool false) rfl rfl (by kernel_rfl) (by kernel_rfl) (by kernel_rfl) (fun _ _ _ h => h) ⟨Or.inl ⟨by rfl, by intro w; go_simp⟩, fun _ => rfl⟩ ?_
                refine wpAnyIn_take (i := 26) (v := .bool false) rfl rfl (by kernel_rfl) (by kernel_rfl) (by kernel_rfl) (fun _ _ _ h => h) ⟨Or.inl ⟨by rfl, by intro w; go_simp⟩, fun _ => rfl⟩ ?_
                refine wpAnyIn_done (by kernel_rfl) ?_ _
                refine NoPanic.normal ?_
                exact HQ1.out _ hr
              · refine hK3 _ _ ?_
                clear hK3 K3
                refine wpAnyIn_take (i := 24) (v := .bool true) rfl rfl (by kernel_rfl) (by kernel_rfl) (by kernel_rfl) (fun _ _ _ h => h) ⟨Or.inl ⟨by rfl, by intro w; go_simp⟩, fun _ => rfl⟩ ?_
                refine wpAnyIn_take (i := 25) (v := .bool true) rfl rfl (by kernel_rfl) (by kernel_rfl) (by kernel_rfl) (fun _ _ _ h => h) ⟨Or.inl ⟨by rfl, by intro w; go_simp⟩, fun _ => rfl⟩ ?_
                refine wpAnyIn_take (i := 26) (v := .bool true) rfl rfl (by kernel_rfl) (by kernel_rfl) (by kernel_rfl) (fun _ _ _ h => h) ⟨Or.inl ⟨by rfl, by intro w; go_simp⟩, fun _ => rfl⟩ ?_
                refine wpAnyIn_done (by kernel_rfl) ?_ _
                refine NoPanic.normal ?_
                exact HQ2.out _ hr
            · go_simp
              refine hK3 _ _ ?_
              clear hK3 K3
              refine wpAnyIn_ready (rs := [18]) (by kernel_rfl) (by simp) ?_
              refine AllReadyIn.cons rfl (fun K3 hK3 => ?_) AllReadyIn.nil
              go_simp
              refine hK3 _ _ ?_
              clear hK3 K3
              refine wpAnyIn_ready (rs := [23]) (by kernel_rfl) (by simp) ?_
              refine AllReadyIn.cons rfl (fun K3 hK3 => ?_) AllReadyIn.nil
              go_simp
              refine ⟨rfl, RoundIn.mono HR.out ?_⟩
              intro e W3 hr
              rcases HR2.out e W3 hr with rfl | rfl
              · refine hK3 _ _ ?_
                clear hK3 K3
                refine wpAnyIn_take (i := 24) (v := .bool false) rfl rfl (by kernel_rfl) (by kernel_rfl) (by kernel_rfl) (fun _ _ _ h => h) ⟨Or.inl ⟨by rfl, by intro w; go_simp⟩, fun _ => rfl⟩ ?_
                refine wpAnyIn_take (i := 25) (v := .bool false) rfl rfl (by kernel_rfl) (by kernel_rfl) (by kernel_rfl) (fun _ _ _ h => h) ⟨Or.inl ⟨by rfl, by intro w; go_simp⟩, fun _ => rfl⟩ ?_
                refine wpAnyIn_take (i := 26) (v := .bool false) rfl rfl (by kernel_rfl) (by kernel_rfl) (by kernel_rfl) (fun _ _ _ h => h) ⟨Or.inl ⟨by rfl, by intro w; go_simp⟩, fun _ => rfl⟩ ?_
                refine wpAnyIn_done (by kernel_rfl) ?_ _
                refine NoPanic.normal ?_
                exact HQ1.out _ hr
              · refine hK3 _ _ ?_
                clear hK3 K3
                refine wpAnyIn_take (i := 24) (v := .bool true) rfl rfl (by kernel_rfl) (by kernel_rfl) (by kernel_rfl) (fun _ _ _ h => h) ⟨Or.inl ⟨by rfl, by intro w; go_simp⟩, fun _ => rfl⟩ ?_
                refine wpAnyIn_take (i := 25) (v := .bool true) rfl rfl (by kernel_rfl) (by kernel_rfl) (by kernel_rfl) (fun _ _ _ h => h) ⟨Or.inl ⟨by rfl, by intro w; go_simp⟩, fun _ => rfl⟩ ?_
                refine wpAnyIn_take (i := 26) (v := .bool true) rfl rfl (by kernel_rfl) (by kernel_rfl) (by kernel_rfl) (fun _ _ _ h => h) ⟨Or.inl ⟨by rfl, by intro w; go_simp⟩, fun _ => rfl⟩ ?_
                refine wpAnyIn_done (by kernel_rfl) ?_ _
                refine NoPanic.normal ?_
                exact HQ2.out _ hr
      · go_simp
        refine hK3 _ _ ?_
        clear hK3 K3
        refine wpAnyIn_ready (rs := [9]) (by kernel_rfl) (by simp) ?_
        refine AllReadyIn.cons rfl (fun K3 hK3 => ?_) AllReadyIn.nil
        go_simp
        refine hK3 _ _ ?_
        clear hK3 K3
        refine wpAnyIn_take (i := 10) (v := .pointer (some ⟨g, 0, none⟩)) rfl rfl (by kernel_rfl) (by kernel_rfl) (by kernel_rfl) (fun _ _ _ h => h) ⟨Or.inl ⟨by rfl, by intro w; go_simp⟩, fun _ => rfl⟩ ?_
        refine wpAnyIn_take (i := 11) (v := .pointer (some ⟨g, 0, none⟩)) rfl rfl (by kernel_rfl) (by kernel_rfl) (by kernel_rfl) (fun _ _ _ h => h) ⟨Or.inl ⟨by rfl, by intro w; go_simp⟩, fun _ => rfl⟩ ?_
        refine wpAnyIn_take (i := 12) (v := .pointer (some ⟨g, 0, none⟩)) rfl rfl (by kernel_rfl) (by kernel_rfl) (by kernel_rfl) (fun _ _ _ h => h) ⟨Or.inl ⟨by rfl, by intro w; go_simp⟩, fun _ => rfl⟩ ?_
        refine wpAnyIn_take (i := 13) (v := .pointer (some ⟨g, 1, none⟩)) rfl rfl (by kernel_rfl) (by kernel_rfl) (by kernel_rfl) (fun _ _ _ h => h) ⟨Or.inl ⟨by rfl, by intro w; go_simp⟩, fun _ => rfl⟩ ?_
        refine wpAnyIn_ready (rs := [14]) (by kernel_rfl) (by simp) ?_
        refine AllReadyIn.cons rfl (fun K3 hK3 => ?_) AllReadyIn.nil
        go_simp
        refine hK3 _ _ ?_
        clear hK3 K3
        refine wpAnyIn_take (i := 16) (v := .bool true) rfl rfl (by kernel_rfl) (by kernel_rfl) (by kernel_rfl) (fun _ _ _ h => h) ⟨Or.inl ⟨by rfl, by intro w; go_simp⟩, fun _ => rfl⟩ ?_
        refine wpAnyIn_take (i := 17) (v := .bool true) rfl rfl (by kernel_rfl) (by kernel_rfl) (by kernel_rfl) (fun _ _ _ h => h) ⟨Or.inl ⟨by rfl, by intro w; go_simp⟩, fun _ => rfl⟩ ?_
        refine wpAnyIn_ready (rs := [18, 19]) (by kernel_rfl) (by simp) ?_
        refine AllReadyIn.cons rfl (fun K3 hK3 => ?_) (AllReadyIn.cons rfl (fun K3 hK3 => ?_) AllReadyIn.nil)
        · go_simp
          refine hK3 _ _ ?_
          clear hK3 K3
          refine wpAnyIn_ready (rs := [19]) (by kernel_rfl) (by simp) ?_
          refine AllReadyIn.cons rfl (fun K3 hK3 => ?_) AllReadyIn.nil
          go_simp
          refine hK3 _ _ ?_
          clear hK3 K3
          refine wpAnyIn_take (i := 20) (v := .pointer (some ⟨g, 0, none⟩)) rfl rfl (by kernel_rfl) (by kernel_rfl) (by kernel_rfl) (fun _ _ _ h => h) ⟨Or.inl ⟨by rfl, by intro w; go_simp⟩, fun _ => rfl⟩ ?_
          refine wpAnyIn_take (i := 21) (v := .pointer (some ⟨g, 0, none⟩)) rfl rfl (by kernel_rfl) (by kernel_rfl) (by kernel_rfl) (fun _ _ _ h => h) ⟨Or.inl ⟨by rfl, by intro w; go_simp⟩, fun _ => rfl⟩ ?_
          refine wpAnyIn_ready (rs := [22]) (by kernel_rfl) (by simp) ?_
          refine AllReadyIn.cons rfl (fun K3 hK3 => ?_) AllReadyIn.nil
          go_simp
          refine hK3 _ _ ?_
          clear hK3 K3
          refine wpAnyIn_ready (rs := [23]) (by kernel_rfl) (by simp) ?_
          refine AllReadyIn.cons rfl (fun K3 hK3 => ?_) AllReadyIn.nil
          go_simp
          refine ⟨rfl, RoundIn.mono HR.out ?_⟩
          intro e W3 hr
          rcases HR2.out e W3 hr with rfl | rfl
          · refine hK3 _ _ ?_
            clear hK3 K3
            refine wpAnyIn_take (i := 24) (v := .bool false) rfl rfl (by kernel_rfl) (by kernel_rfl) (by kernel_rfl) (fun _ _ _ h => h) ⟨Or.inl ⟨by rfl, by intro w; go_simp⟩, fun _ => rfl⟩ ?_
            refine wpAnyIn_take (i := 25) (v := .bool false) rfl rfl (by kernel_rfl) (by kernel_rfl) (by kernel_rfl) (fun _ _ _ h => h) ⟨Or.inl ⟨by rfl, by intro w; go_simp⟩, fun _ => rfl⟩ ?_
            refine wpAnyIn_take (i := 26) (v := .bool false) rfl rfl (by kernel_rfl) (by kernel_rfl) (by kernel_rfl) (fun _ _ _ h => h) ⟨Or.inl ⟨by rfl, by intro w; go_simp⟩, fun _ => rfl⟩ ?_
            refine wpAnyIn_done (by kernel_rfl) ?_ _
            refine NoPanic.normal ?_
            exact HQ1.out _ hr
          · refine hK3 _ _ ?_
            clear hK3 K3
            refine wpAnyIn_take (i := 24) (v := .bool true) rfl rfl (by kernel_rfl) (by kernel_rfl) (by kernel_rfl) (fun _ _ _ h => h) ⟨Or.inl ⟨by rfl, by intro w; go_simp⟩, fun _ => rfl⟩ ?_
            refine wpAnyIn_take (i := 25) (v := .bool true) rfl rfl (by kernel_rfl) (by kernel_rfl) (by kernel_rfl) (fun _ _ _ h => h) ⟨Or.inl ⟨by rfl, by intro w; go_simp⟩, fun _ => rfl⟩ ?_
            refine wpAnyIn_take (i := 26) (v := .bool true) rfl rfl (by kernel_rfl) (by kernel_rfl) (by kernel_rfl) (fun _ _ _ h => h) ⟨Or.inl ⟨by rfl, by intro w; go_simp⟩, fun _ => rfl⟩ ?_
            refine wpAnyIn_done (by kernel_rfl) ?_ _
            refine NoPanic.normal ?_
            exact HQ2.out _ hr
        · go_simp
          refine hK3 _ _ ?_
          clear hK3 K3
          refine wpAnyIn_take (i := 20) (v := .pointer (some ⟨g, 0, none⟩)) rfl rfl (by kernel_rfl) (by kernel_rfl) (by kernel_rfl) (fun _ _ _ h => h) ⟨Or.inl ⟨by rfl, by intro w; go_simp⟩, fun _ => rfl⟩ ?_
          refine wpAnyIn_take (i := 21) (v := .pointer (some ⟨g, 0, none⟩)) rfl rfl (by kernel_rfl) (by kernel_rfl) (by kernel_rfl) (fun _ _ _ h => h) ⟨Or.inl ⟨by rfl, by intro w; go_simp⟩, fun _ => rfl⟩ ?_
          refine wpAnyIn_ready (rs := [18, 22]) (by kernel_rfl) (by simp) ?_
          refine AllReadyIn.cons rfl (fun K3 hK3 => ?_) (AllReadyIn.cons rfl (fun K3 hK3 => ?_) AllReadyIn.nil)
          · go_simp
            refine hK3 _ _ ?_
            clear hK3 K3
            refine wpAnyIn_ready (rs := [22]) (by kernel_rfl) (by simp) ?_
            refine AllReadyIn.cons rfl (fun K3 hK3 => ?_) AllReadyIn.nil
            go_simp
            refine hK3 _ _ ?_
            clear hK3 K3
            refine wpAnyIn_ready (rs := [23]) (by kernel_rfl) (by simp) ?_
            refine AllReadyIn.cons rfl (fun K3 hK3 => ?_) AllReadyIn.nil
            go_simp
            refine ⟨rfl, RoundIn.mono HR.out ?_⟩
            intro e W3 hr
            rcases HR2.out e W3 hr with rfl | rfl
            · refine hK3 _ _ ?_
              clear hK3 K3
              refine wpAnyIn_take (i := 24) (v := .bool false) rfl rfl (by kernel_rfl) (by kernel_rfl) (by kernel_rfl) (fun _ _ _ h => h) ⟨Or.inl ⟨by rfl, by intro w; go_simp⟩, fun _ => rfl⟩ ?_
              refine wpAnyIn_take (i := 25) (v := .bool false) rfl rfl (by kernel_rfl) (by kernel_rfl) (by kernel_rfl) (fun _ _ _ h => h) ⟨Or.inl ⟨by rfl, by intro w; go_simp⟩, fun _ => rfl⟩ ?_
              refine wpAnyIn_take (i := 26) (v := .bool false) rfl rfl (by kernel_rfl) (by kernel_rfl) (by kernel_rfl) (fun _ _ _ h => h) ⟨Or.inl ⟨by rfl, by intro w; go_simp⟩, fun _ => rfl⟩ ?_
              refine wpAnyIn_done (by kernel_rfl) ?_ _
              refine NoPanic.normal ?_
              exact HQ1.out _ hr
            · refine hK3 _ _ ?_
              clear hK3 K3
              refine wpAnyIn_take (i := 24) (v := .bool true) rfl rfl (by kernel_rfl) (by kernel_rfl) (by kernel_rfl) (fun _ _ _ h => h) ⟨Or.inl ⟨by rfl, by intro w; go_simp⟩, fun _ => rfl⟩ ?_
              refine wpAnyIn_take (i := 25) (v := .bool true) rfl rfl (by kernel_rfl) (by kernel_rfl) (by kernel_rfl) (fun _ _ _ h => h) ⟨Or.inl ⟨by rfl, by intro w; go_simp⟩, fun _ => rfl⟩ ?_
              refine wpAnyIn_take (i := 26) (v := .bool true) rfl rfl (by kernel_rfl) (by kernel_rfl) (by kernel_rfl) (fun _ _ _ h => h) ⟨Or.inl ⟨by rfl, by intro w; go_simp⟩, fun _ => rfl⟩ ?_
              refine wpAnyIn_done (by kernel_rfl) ?_ _
              refine NoPanic.normal ?_
              exact HQ2.out _ hr
          · go_simp
            refine hK3 _ _ ?_
            clear hK3 K3
            refine wpAnyIn_ready (rs := [18]) (by kernel_rfl) (by simp) ?_
            refine AllReadyIn.cons rfl (fun K3 hK3 => ?_) AllReadyIn.nil
            go_simp
            refine hK3 _ _ ?_
            clear hK3 K3
            refine wpAnyIn_ready (rs := [23]) (by kernel_rfl) (by simp) ?_
            refine AllReadyIn.cons rfl (fun K3 hK3 => ?_) AllReadyIn.nil
            go_simp
            refine ⟨rfl, RoundIn.mono HR.out ?_⟩
            intro e W3 hr
            rcases HR2.out e W3 hr with rfl | rfl
            · refine hK3 _ _ ?_
              clear hK3 K3
              refine wpAnyIn_take (i := 24) (v := .bool false) rfl rfl (by kernel_rfl) (by kernel_rfl) (by kernel_rfl) (fun _ _ _ h => h) ⟨Or.inl ⟨by rfl, by intro w; go_simp⟩, fun _ => rfl⟩ ?_
              refine wpAnyIn_take (i := 25) (v := .bool false) rfl rfl (by kernel_rfl) (by kernel_rfl) (by kernel_rfl) (fun _ _ _ h => h) ⟨Or.inl ⟨by rfl, by intro w; go_simp⟩, fun _ => rfl⟩ ?_
              refine wpAnyIn_take (i := 26) (v := .bool false) rfl rfl (by kernel_rfl) (by kernel_rfl) (by kernel_rfl) (fun _ _ _ h => h) ⟨Or.inl ⟨by rfl, by intro w; go_simp⟩, fun _ => rfl⟩ ?_
              refine wpAnyIn_done (by kernel_rfl) ?_ _
              refine NoPanic.normal ?_
              exact HQ1.out _ hr
            · refine hK3 _ _ ?_
              clear hK3 K3
              refine wpAnyIn_take (i := 24) (v := .bool true) rfl rfl (by kernel_rfl) (by kernel_rfl) (by kernel_rfl) (fun _ _ _ h => h) ⟨Or.inl ⟨by rfl, by intro w; go_simp⟩, fun _ => rfl⟩ ?_
              refine wpAnyIn_take (i := 25) (v := .bool true) rfl rfl (by kernel_rfl) (by kernel_rfl) (by kernel_rfl) (fun _ _ _ h => h) ⟨Or.inl ⟨by rfl, by intro w; go_simp⟩, fun _ => rfl⟩ ?_
              refine wpAnyIn_take (i := 26) (v := .bool true) rfl rfl (by kernel_rfl) (by kernel_rfl) (by kernel_rfl) (fun _ _ _ h => h) ⟨Or.inl ⟨by rfl, by intro w; go_simp⟩, fun _ => rfl⟩ ?_
              refine wpAnyIn_done (by kernel_rfl) ?_ _
              refine NoPanic.normal ?_
              exact HQ2.out _ hr
  · go_simp
    refine hK3 _ _ ?_
    clear hK3 K3
    refine wpAnyIn_ready (rs := [0]) (by kernel_rfl) (by simp) ?_
    refine AllReadyIn.cons rfl (fun K3 hK3 => ?_) AllReadyIn.nil
    go_simp
    refine hK3 _ _ ?_
    clear hK3 K3
    refine wpAnyIn_take (i := 1) (v := .pointer (some ⟨g, 0, none⟩)) rfl rfl (by kernel_rfl) (by kernel_rfl) (by kernel_rfl) (fun _ _ _ h => h) ⟨Or.inl ⟨by rfl, by intro w; go_simp⟩, fun _ => rfl⟩ ?_
    refine wpAnyIn_take (i := 2) (v := .pointer (some ⟨g, 0, none⟩)) rfl rfl (by kernel_rfl) (by kernel_rfl) (by kernel_rfl) (fun _ _ _ h => h) ⟨Or.inl ⟨by rfl, by intro w; go_simp⟩, fun _ => rfl⟩ ?_
    refine wpAnyIn_take (i := 3) (v := .pointer (some ⟨g, 0, none⟩)) rfl rfl (by kernel_rfl) (by kernel_rfl) (by kernel_rfl) (fun _ _ _ h => h) ⟨Or.inl ⟨by rfl, by intro w; go_simp⟩, fun _ => rfl⟩ ?_
    refine wpAnyIn_take (i := 4) (v := .pointer (some ⟨g, 0, none⟩)) rfl rfl (by kernel_rfl) (by kernel_rfl) (by kernel_rfl) (fun _ _ _ h => h) ⟨Or.inl ⟨by rfl, by intro w; go_simp⟩, fun _ => rfl⟩ ?_
    refine wpAnyIn_ready (rs := [5]) (by kernel_rfl) (by simp) ?_
    refine AllReadyIn.cons rfl (fun K3 hK3 => ?_) AllReadyIn.nil
    go_simp
    refine hK3 _ _ ?_
    clear hK3 K3
    refine wpAnyIn_take (i := 7) (v := .bool false) rfl rfl (by kernel_rfl) (by kernel_rfl) (by kernel_rfl) (fun _ _ _ h => h) ⟨Or.inl ⟨by rfl, by intro w; go_simp⟩, fun _ => rfl⟩ ?_
    refine wpAnyIn_take (i := 8) (v := .bool false) rfl rfl (by kernel_rfl) (by kernel_rfl) (by kernel_rfl) (fun _ _ _ h => h) ⟨Or.inl ⟨by rfl, by intro w; go_simp⟩, fun _ => rfl⟩ ?_
    refine wpAnyIn_ready (rs := [9, 15]) (by kernel_rfl) (by simp) ?_
    refine AllReadyIn.cons rfl (fun K3 hK3 => ?_) (AllReadyIn.cons rfl (fun K3 hK3 => ?_) AllReadyIn.nil)
    · go_simp
      refine hK3 _ _ ?_
      clear hK3 K3
      refine wpAnyIn_take (i := 10) (v := .pointer (some ⟨g, 0, none⟩)) rfl rfl (by kernel_rfl) (by kernel_rfl) (by kernel_rfl) (fun _ _ _ h => h) ⟨Or.inl ⟨by rfl, by intro w; go_simp⟩, fun _ => rfl⟩ ?_
      refine wpAnyIn_take (i := 11) (v := .pointer (some ⟨g, 0, none⟩)) rfl rfl (by kernel_rfl) (by kernel_rfl) (by kernel_rfl) (fun _ _ _ h => h) ⟨Or.inl ⟨by rfl, by intro w; go_simp⟩, fun _ => rfl⟩ ?_
      refine wpAnyIn_take (i := 12) (v := .pointer (some ⟨g, 0, none⟩)) rfl rfl (by kernel_rfl) (by kernel_rfl) (by kernel_rfl) (fun _ _ _ h => h) ⟨Or.inl ⟨by rfl, by intro w; go_simp⟩, fun _ => rfl⟩ ?_
      refine wpAnyIn_take (i := 13) (v := .pointer (some ⟨g, 1, none⟩)) rfl rfl (by kernel_rfl) (by kernel_rfl) (by kernel_rfl) (fun _ _ _ h => h) ⟨Or.inl ⟨by rfl, by intro w; go_simp⟩, fun _ => rfl⟩ ?_
      refine wpAnyIn_ready (rs := [14, 15]) (by kernel_rfl) (by simp) ?_
      refine AllReadyIn.cons rfl (fun K3 hK3 => ?_) (AllReadyIn.cons rfl (fun K3 hK3 => ?_) AllReadyIn.nil)
      · go_simp
        refine hK3 _ _ ?_
        clear hK3 K3
        refine wpAnyIn_ready (rs := [15]) (by kernel_rfl) (by simp) ?_
        refine AllReadyIn.cons rfl (fun K3 hK3 => ?_) AllReadyIn.nil
        go_simp
        refine hK3 _ _ ?_
        clear hK3 K3
        refine wpAnyIn_take (i := 16) (v := .bool true) rfl rfl (by kernel_rfl) (by kernel_rfl) (by kernel_rfl) (fun _ _ _ h => h) ⟨Or.inl ⟨by rfl, by intro w; go_simp⟩, fun _ => rfl⟩ ?_
        refine wpAnyIn_take (i := 17) (v := .bool true) rfl rfl (by kernel_rfl) (by kernel_rfl) (by kernel_rfl) (fun _ _ _ h => h) ⟨Or.inl ⟨by rfl, by intro w; go_simp⟩, fun _ => rfl⟩ ?_
        refine wpAnyIn_ready (rs := [18, 19]) (by kernel_rfl) (by simp) ?_
        refine AllReadyIn.cons rfl (fun K3 hK3 => ?_) (AllReadyIn.cons rfl (fun K3 hK3 => ?_) AllReadyIn.nil)
        · go_simp
          refine hK3 _ _ ?_
          clear hK3 K3
          refine wpAnyIn_ready (rs := [19]) (by kernel_rfl) (by simp) ?_
          refine AllReadyIn.cons rfl (fun K3 hK3 => ?_) AllReadyIn.nil
          go_simp
          refine hK3 _ _ ?_
          clear hK3 K3
          refine wpAnyIn_take (i := 20) (v := .pointer (some ⟨g, 0, none⟩)) rfl rfl (by kernel_rfl) (by kernel_rfl) (by kernel_rfl) (fun _ _ _ h => h) ⟨Or.inl ⟨by rfl, by intro w; go_simp⟩, fun _ => rfl⟩ ?_
          refine wpAnyIn_take (i := 21) (v := .pointer (some ⟨g, 0, none⟩)) rfl rfl (by kernel_rfl) (by kernel_rfl) (by kernel_rfl) (fun _ _ _ h => h) ⟨Or.inl ⟨by rfl, by intro w; go_simp⟩, fun _ => rfl⟩ ?_
          refine wpAnyIn_ready (rs := [22]) (by kernel_rfl) (by simp) ?_
          refine AllReadyIn.cons rfl (fun K3 hK3 => ?_) AllReadyIn.nil
          go_simp
          refine hK3 _ _ ?_
          clear hK3 K3
          refine wpAnyIn_ready (rs := [23]) (by kernel_rfl) (by simp) ?_
          refine AllReadyIn.cons rfl (fun K3 hK3 => ?_) AllReadyIn.nil
          go_simp
          refine ⟨rfl, RoundIn.mono HR.out ?_⟩
          intro e W3 hr
          rcases HR2.out e W3 hr with rfl | rfl
          · refine hK3 _ _ ?_
            clear hK3 K3
            refine wpAnyIn_take (i := 24) (v := .bool false) rfl rfl (by kernel_rfl) (by kernel_rfl) (by kernel_rfl) (fun _ _ _ h => h) ⟨Or.inl ⟨by rfl, by intro w; go_simp⟩, fun _ => rfl⟩ ?_
            refine wpAnyIn_take (i := 25) (v := .bool false) rfl rfl (by kernel_rfl) (by kernel_rfl) (by kernel_rfl) (fun _ _ _ h => h) ⟨Or.inl ⟨by rfl, by intro w; go_simp⟩, fun _ => rfl⟩ ?_
            refine wpAnyIn_take (i := 26) (v := .bool false) rfl rfl (by kernel_rfl) (by kernel_rfl) (by kernel_rfl) (fun _ _ _ h => h) ⟨Or.inl ⟨by rfl, by intro w; go_simp⟩, fun _ => rfl⟩ ?_
            refine wpAnyIn_done (by kernel_rfl) ?_ _
            refine NoPanic.normal ?_
            exact HQ1.out _ hr
          · refine hK3 _ _ ?_
            clear hK3 K3
            refine wpAnyIn_take (i := 24) (v := .bool true) rfl rfl (by kernel_rfl) (by kernel_rfl) (by kernel_rfl) (fun _ _ _ h => h) ⟨Or.inl ⟨by rfl, by intro w; go_simp⟩, fun _ => rfl⟩ ?_
            refine wpAnyIn_take (i := 25) (v := .bool true) rfl rfl (by kernel_rfl) (by kernel_rfl) (by kernel_rfl) (fun _ _ _ h => h) ⟨Or.inl ⟨by rfl, by intro w; go_simp⟩, fun _ => rfl⟩ ?_
            refine wpAnyIn_take (i := 26) (v := .bool true) rfl rfl (by kernel_rfl) (by kernel_rfl) (by kernel_rfl) (fun _ _ _ h => h) ⟨Or.inl ⟨by rfl, by intro w; go_simp⟩, fun _ => rfl⟩ ?_
            refine wpAnyIn_done (by kernel_rfl) ?_ _
            refine NoPanic.normal ?_
            exact HQ2.out _ hr
        · go_simp
          refine hK3 _ _ ?_
          clear hK3 K3
          refine wpAnyIn_take (i := 20) (v := .pointer (some ⟨g, 0, none⟩)) rfl rfl (by kernel_rfl) (by kernel_rfl) (by kernel_rfl) (fun _ _ _ h => h) ⟨Or.inl ⟨by rfl, by intro w; go_simp⟩, fun _ => rfl⟩ ?_
          refine wpAnyIn_take (i := 21) (v := .pointer (some ⟨g, 0, none⟩)) rfl rfl (by kernel_rfl) (by kernel_rfl) (by kernel_rfl) (fun _ _ _ h => h) ⟨Or.inl ⟨by rfl, by intro w; go_simp⟩, fun _ => rfl⟩ ?_
          refine wpAnyIn_ready (rs := [18, 22]) (by kernel_rfl) (by simp) ?_
          refine AllReadyIn.cons rfl (fun K3 hK3 => ?_) (AllReadyIn.cons rfl (fun K3 hK3 => ?_) AllReadyIn.nil)
          · go_simp
            refine hK3 _ _ ?_
            clear hK3 K3
            refine wpAnyIn_ready (rs := [22]) (by kernel_rfl) (by simp) ?_
            refine AllReadyIn.cons rfl (fun K3 hK3 => ?_) AllReadyIn.nil
            go_simp
            refine hK3 _ _ ?_
            clear hK3 K3
            refine wpAnyIn_ready (rs := [23]) (by kernel_rfl) (by simp) ?_
            refine AllReadyIn.cons rfl (fun K3 hK3 => ?_) AllReadyIn.nil
            go_simp
            refine ⟨rfl, RoundIn.mono HR.out ?_⟩
            intro e W3 hr
            rcases HR2.out e W3 hr with rfl | rfl
            · refine hK3 _ _ ?_
              clear hK3 K3
              refine wpAnyIn_take (i := 24) (v := .bool false) rfl rfl (by kernel_rfl) (by kernel_rfl) (by kernel_rfl) (fun _ _ _ h => h) ⟨Or.inl ⟨by rfl, by intro w; go_simp⟩, fun _ => rfl⟩ ?_
              refine wpAnyIn_take (i := 25) (v := .bool false) rfl rfl (by kernel_rfl) (by kernel_rfl) (by kernel_rfl) (fun _ _ _ h => h) ⟨Or.inl ⟨by rfl, by intro w; go_simp⟩, fun _ => rfl⟩ ?_
              refine wpAnyIn_take (i := 26) (v := .bool false) rfl rfl (by kernel_rfl) (by kernel_rfl) (by kernel_rfl) (fun _ _ _ h => h) ⟨Or.inl ⟨by rfl, by intro w; go_simp⟩, fun _ => rfl⟩ ?_
              refine wpAnyIn_done (by kernel_rfl) ?_ _
              refine NoPanic.normal ?_
              exact HQ1.out _ hr
            · refine hK3 _ _ ?_
              clear hK3 K3
              refine wpAnyIn_take (i := 24) (v := .bool true) rfl rfl (by kernel_rfl) (by kernel_rfl) (by kernel_rfl) (fun _ _ _ h => h) ⟨Or.inl ⟨by rfl, by intro w; go_simp⟩, fun _ => rfl⟩ ?_
              refine wpAnyIn_take (i := 25) (v := .bool true) rfl rfl (by kernel_rfl) (by kernel_rfl) (by kernel_rfl) (fun _ _ _ h => h) ⟨Or.inl ⟨by rfl, by intro w; go_simp⟩, fun _ => rfl⟩ ?_
              refine wpAnyIn_take (i := 26) (v := .bool true) rfl rfl (by kernel_rfl) (by kernel_rfl) (by kernel_rfl) (fun _ _ _ h => h) ⟨Or.inl ⟨by rfl, by intro w; go_simp⟩, fun _ => rfl⟩ ?_
              refine wpAnyIn_done (by kernel_rfl) ?_ _
              refine NoPanic.normal ?_
              exact HQ2.out _ hr
          · go_simp
            refine hK3 _ _ ?_
            clear hK3 K3
            refine wpAnyIn_ready (rs := [18]) (by kernel_rfl) (by simp) ?_
            refine AllReadyIn.cons rfl (fun K3 hK3 => ?_) AllReadyIn.nil
            go_simp
            refine hK3 _ _ ?_
            clear hK3 K3
            refine wpAnyIn_ready (rs := [23]) (by kernel_rfl) (by simp) ?_
            refine AllReadyIn.cons rfl (fun K3 hK3 => ?_) AllReadyIn.nil
            go_simp
            refine ⟨rfl, RoundIn.mono HR.out ?_⟩
            intro e W3 hr
            rcases HR2.out e W3 hr with rfl | rfl
            · refine hK3 _ _ ?_
              clear hK3 K3
              refine wpAnyIn_take (i := 24) (v := .bool false) rfl rfl (by kernel_rfl) (by kernel_rfl) (by kernel_rfl) (fun _ _ _ h => h) ⟨Or.inl ⟨by rfl, by intro w; go_simp⟩, fun _ => rfl⟩ ?_
              refine wpAnyIn_take (i := 25) (v := .bool false) rfl rfl (by kernel_rfl) (by kernel_rfl) (by kernel_rfl) (fun _ _ _ h => h) ⟨Or.inl ⟨by rfl, by intro w; go_simp⟩, fun _ => rfl⟩ ?_
              refine wpAnyIn_take (i := 26) (v := .bool false) rfl rfl (by kernel_rfl) (by kernel_rfl) (by kernel_rfl) (fun _ _ _ h => h) ⟨Or.inl ⟨by rfl, by intro w; go_simp⟩, fun _ => rfl⟩ ?_
              refine wpAnyIn_done (by kernel_rfl) ?_ _
              refine NoPanic.normal ?_
              exact HQ1.out _ hr
            · refine hK3 _ _ ?_
              clear hK3 K3
              refine wpAnyIn_take (i := 24) (v := .bool true) rfl rfl (by kernel_rfl) (by kernel_rfl) (by kernel_rfl) (fun _ _ _ h => h) ⟨Or.inl ⟨by rfl, by intro w; go_simp⟩, fun _ => rfl⟩ ?_
              refine wpAnyIn_take (i := 25) (v := .bool true) rfl rfl (by kernel_rfl) (by kernel_rfl) (by kernel_rfl) (fun _ _ _ h => h) ⟨Or.inl ⟨by rfl, by intro w; go_simp⟩, fun _ => rfl⟩ ?_
              refine wpAnyIn_take (i := 26) (v := .bool true) rfl rfl (by kernel_rfl) (by kernel_rfl) (by kernel_rfl) (fun _ _ _ h => h) ⟨Or.inl ⟨by rfl, by intro w; go_simp⟩, fun _ => rfl⟩ ?_
              refine wpAnyIn_done (by kernel_rfl) ?_ _
              refine NoPanic.normal ?_
              exact HQ2.out _ hr
      · go_simp
        refine hK3 _ _ ?_
        clear hK3 K3
        refine wpAnyIn_ready (rs := [14]) (by kernel_rfl) (by simp) ?_
        refine AllReadyIn.cons rfl (fun K3 hK3 => ?_) AllReadyIn.nil
        go_simp
        refine hK3 _ _ ?_
        clear hK3 K3
        refine wpAnyIn_take (i := 16) (v := .bool true) rfl rfl (by kernel_rfl) (by kernel_rfl) (by kernel_rfl) (fun _ _ _ h => h) ⟨Or.inl ⟨by rfl, by intro w; go_simp⟩, fun _ => rfl⟩ ?_
        refine wpAnyIn_take (i := 17) (v := .bool true) rfl rfl (by kernel_rfl) (by kernel_rfl) (by kernel_rfl) (fun _ _ _ h => h) ⟨Or.inl ⟨by rfl, by intro w; go_simp⟩, fun _ => rfl⟩ ?_
        refine wpAnyIn_ready (rs := [18, 19]) (by kernel_rfl) (by simp) ?_
        refine AllReadyIn.cons rfl (fun K3 hK3 => ?_) (AllReadyIn.cons rfl (fun K3 hK3 => ?_) AllReadyIn.nil)
        · go_simp
          refine hK3 _ _ ?_
          clear hK3 K3
          refine wpAnyIn_ready (rs := [19]) (by kernel_rfl) (by simp) ?_
          refine AllReadyIn.cons rfl (fun K3 hK3 => ?_) AllReadyIn.nil
          go_simp
          refine hK3 _ _ ?_
          clear hK3 K3
          refine wpAnyIn_take (i := 20) (v := .pointer (some ⟨g, 0, none⟩)) rfl rfl (by kernel_rfl) (by kernel_rfl) (by kernel_rfl) (fun _ _ _ h => h) ⟨Or.inl ⟨by rfl, by intro w; go_simp⟩, fun _ => rfl⟩ ?_
          refine wpAnyIn_take (i := 21) (v := .pointer (some ⟨g, 0, none⟩)) rfl rfl (by kernel_rfl) (by kernel_rfl) (by kernel_rfl) (fun _ _ _ h => h) ⟨Or.inl ⟨by rfl, by intro w; go_simp⟩, fun _ => rfl⟩ ?_
          refine wpAnyIn_ready (rs := [22]) (by kernel_rfl) (by simp) ?_
          refine AllReadyIn.cons rfl (fun K3 hK3 => ?_) AllReadyIn.nil
          go_simp
          refine hK3 _ _ ?_
          clear hK3 K3
          refine wpAnyIn_ready (rs := [23]) (by kernel_rfl) (by simp) ?_
          refine AllReadyIn.cons rfl (fun K3 hK3 => ?_) AllReadyIn.nil
          go_simp
          refine ⟨rfl, RoundIn.mono HR.out ?_⟩
          intro e W3 hr
          rcases HR2.out e W3 hr with rfl | rfl
          · refine hK3 _ _ ?_
            clear hK3 K3
            refine wpAnyIn_take (i := 24) (v := .bool false) rfl rfl (by kernel_rfl) (by kernel_rfl) (by kernel_rfl) (fun _ _ _ h => h) ⟨Or.inl ⟨by rfl, by intro w; go_simp⟩, fun _ => rfl⟩ ?_
            refine wpAnyIn_take (i := 25) (v := .bool false) rfl rfl (by kernel_rfl) (by kernel_rfl) (by kernel_rfl) (fun _ _ _ h => h) ⟨Or.inl ⟨by rfl, by intro w; go_simp⟩, fun _ => rfl⟩ ?_
            refine wpAnyIn_take (i := 26) (v := .bool false) rfl rfl (by kernel_rfl) (by kernel_rfl) (by kernel_rfl) (fun _ _ _ h => h) ⟨Or.inl ⟨by rfl, by intro w; go_simp⟩, fun _ => rfl⟩ ?_
            refine wpAnyIn_done (by kernel_rfl) ?_ _
            refine NoPanic.normal ?_
            exact HQ1.out _ hr
          · refine hK3 _ _ ?_
            clear hK3 K3
            refine wpAnyIn_take (i := 24) (v := .bool true) rfl rfl (by kernel_rfl) (by kernel_rfl) (by kernel_rfl) (fun _ _ _ h => h) ⟨Or.inl ⟨by rfl, by intro w; go_simp⟩, fun _ => rfl⟩ ?_
            refine wpAnyIn_take (i := 25) (v := .bool true) rfl rfl (by kernel_rfl) (by kernel_rfl) (by kernel_rfl) (fun _ _ _ h => h) ⟨Or.inl ⟨by rfl, by intro w; go_simp⟩, fun _ => rfl⟩ ?_
            refine wpAnyIn_take (i := 26) (v := .bool true) rfl rfl (by kernel_rfl) (by kernel_rfl) (by kernel_rfl) (fun _ _ _ h => h) ⟨Or.inl ⟨by rfl, by intro w; go_simp⟩, fun _ => rfl⟩ ?_
            refine wpAnyIn_done (by kernel_rfl) ?_ _
            refine NoPanic.normal ?_
            exact HQ2.out _ hr
        · go_simp
          refine hK3 _ _ ?_
          clear hK3 K3
          refine wpAnyIn_take (i := 20) (v := .pointer (some ⟨g, 0, none⟩)) rfl rfl (by kernel_rfl) (by kernel_rfl) (by kernel_rfl) (fun _ _ _ h => h) ⟨Or.inl ⟨by rfl, by intro w; go_simp⟩, fun _ => rfl⟩ ?_
          refine wpAnyIn_take (i := 21) (v := .pointer (some ⟨g, 0, none⟩)) rfl rfl (by kernel_rfl) (by kernel_rfl) (by kernel_rfl) (fun _ _ _ h => h) ⟨Or.inl ⟨by rfl, by intro w; go_simp⟩, fun _ => rfl⟩ ?_
          refine wpAnyIn_ready (rs := [18, 22]) (by kernel_rfl) (by simp) ?_
          refine AllReadyIn.cons rfl (fun K3 hK3 => ?_) (AllReadyIn.cons rfl (fun K3 hK3 => ?_) AllReadyIn.nil)
          · go_simp
            refine hK3 _ _ ?_
            clear hK3 K3
            refine wpAnyIn_ready (rs := [22]) (by kernel_rfl) (by simp) ?_
            refine AllReadyIn.cons rfl (fun K3 hK3 => ?_) AllReadyIn.nil
            go_simp
            refine hK3 _ _ ?_
            clear hK3 K3
            refine wpAnyIn_ready (rs := [23]) (by kernel_rfl) (by simp) ?_
            refine AllReadyIn.cons rfl (fun K3 hK3 => ?_) AllReadyIn.nil
            go_simp
            refine ⟨rfl, RoundIn.mono HR.out ?_⟩
            intro e W3 hr
            rcases HR2.out e W3 hr with rfl | rfl
            · refine hK3 _ _ ?_
              clear hK3 K3
              refine wpAnyIn_take (i := 24) (v := .bool false) rfl rfl (by kernel_rfl) (by kernel_rfl) (by kernel_rfl) (fun _ _ _ h => h) ⟨Or.inl ⟨by rfl, by intro w; go_simp⟩, fun _ => rfl⟩ ?_
              refine wpAnyIn_take (i := 25) (v := .bool false) rfl rfl (by kernel_rfl) (by kernel_rfl) (by kernel_rfl) (fun _ _ _ h => h) ⟨Or.inl ⟨by rfl, by intro w; go_simp⟩, fun _ => rfl⟩ ?_
              refine wpAnyIn_take (i := 26) (v := .bool false) rfl rfl (by kernel_rfl) (by kernel_rfl) (by kernel_rfl) (fun _ _ _ h => h) ⟨Or.inl ⟨by rfl, by intro w; go_simp⟩, fun _ => rfl⟩ ?_
              refine wpAnyIn_done (by kernel_rfl) ?_ _
              refine NoPanic.normal ?_
              exact HQ1.out _ hr
            · refine hK3 _ _ ?_
              clear hK3 K3
              refine wpAnyIn_take (i := 24) (v := .bool true) rfl rfl (by kernel_rfl) (by kernel_rfl) (by kernel_rfl) (fun _ _ _ h => h) ⟨Or.inl ⟨by rfl, by intro w; go_simp⟩, fun _ => rfl⟩ ?_
              refine wpAnyIn_take (i := 25) (v := .bool true) rfl rfl (by kernel_rfl) (by kernel_rfl) (by kernel_rfl) (fun _ _ _ h => h) ⟨Or.inl ⟨by rfl, by intro w; go_simp⟩, fun _ => rfl⟩ ?_
              refine wpAnyIn_take (i := 26) (v := .bool true) rfl rfl (by kernel_rfl) (by kernel_rfl) (by kernel_rfl) (fun _ _ _ h => h) ⟨Or.inl ⟨by rfl, by intro w; go_simp⟩, fun _ => rfl⟩ ?_
              refine wpAnyIn_done (by kernel_rfl) ?_ _
              refine NoPanic.normal ?_
              exact HQ2.out _ hr
          · go_simp
            refine hK3 _ _ ?_
            clear hK3 K3
            refine wpAnyIn_ready (rs := [18]) (by kernel_rfl) (by simp) ?_
            refine AllReadyIn.cons rfl (fun K3 hK3 => ?_) AllReadyIn.nil
            go_simp
            refine hK3 _ _ ?_
            clear hK3 K3
            refine wpAnyIn_ready (rs := [23]) (by kernel_rfl) (by simp) ?_
            refine AllReadyIn.cons rfl (fun K3 hK3 => ?_) AllReadyIn.nil
            go_simp
            refine ⟨rfl, RoundIn.mono HR.out ?_⟩
            intro e W3 hr
            rcases HR2.out e W3 hr with rfl | rfl
            · refine hK3 _ _ ?_
              clear hK3 K3
              refine wpAnyIn_take (i := 24) (v := .bool false) rfl rfl (by kernel_rfl) (by kernel_rfl) (by kernel_rfl) (fun _ _ _ h => h) ⟨Or.inl ⟨by rfl, by intro w; go_simp⟩, fun _ => rfl⟩ ?_
              refine wpAnyIn_take (i := 25) (v := .bool false) rfl rfl (by kernel_rfl) (by kernel_rfl) (by kernel_rfl) (fun _ _ _ h => h) ⟨Or.inl ⟨by rfl, by intro w; go_simp⟩, fun _ => rfl⟩ ?_
              refine wpAnyIn_take (i := 26) (v := .bool false) rfl rfl (by kernel_rfl) (by kernel_rfl) (by kernel_rfl) (fun _ _ _ h => h) ⟨Or.inl ⟨by rfl, by intro w; go_simp⟩, fun _ => rfl⟩ ?_
              refine wpAnyIn_done (by kernel_rfl) ?_ _
              refine NoPanic.normal ?_
              exact HQ1.out _ hr
            · refine hK3 _ _ ?_
              clear hK3 K3
              refine wpAnyIn_take (i := 24) (v := .bool true) rfl rfl (by kernel_rfl) (by kernel_rfl) (by kernel_rfl) (fun _ _ _ h => h) ⟨Or.inl ⟨by rfl, by intro w; go_simp⟩, fun _ => rfl⟩ ?_
              refine wpAnyIn_take (i := 25) (v := .bool true) rfl rfl (by kernel_rfl) (by kernel_rfl) (by kernel_rfl) (fun _ _ _ h => h) ⟨Or.inl ⟨by rfl, by intro w; go_simp⟩, fun _ => rfl⟩ ?_
              refine wpAnyIn_take (i := 26) (v := .bool true) rfl rfl (by kernel_rfl) (by kernel_rfl) (by kernel_rfl) (fun _ _ _ h => h) ⟨Or.inl ⟨by rfl, by intro w; go_simp⟩, fun _ => rfl⟩ ?_
              refine wpAnyIn_done (by kernel_rfl) ?_ _
              refine NoPanic.normal ?_
              exact HQ2.out _ hr
    · go_simp
      refine hK3 _ _ ?_
      clear hK3 K3
      refine wpAnyIn_ready (rs := [9]) (by kernel_rfl) (by simp) ?_
      refine AllReadyIn.cons rfl (fun K3 hK3 => ?_) AllReadyIn.nil
      go_simp
      refine hK3 _ _ ?_
      clear hK3 K3
      refine wpAnyIn_take (i := 10) (v := .pointer (some ⟨g, 0, none⟩)) rfl rfl (by kernel_rfl) (by kernel_rfl) (by kernel_rfl) (fun _ _ _ h => h) ⟨Or.inl ⟨by rfl, by intro w; go_simp⟩, fun _ => rfl⟩ ?_
      refine wpAnyIn_take (i := 11) (v := .pointer (some ⟨g, 0, none⟩)) rfl rfl (by kernel_rfl) (by kernel_rfl) (by kernel_rfl) (fun _ _ _ h => h) ⟨Or.inl ⟨by rfl, by intro w; go_simp⟩, fun _ => rfl⟩ ?_
      refine wpAnyIn_take (i := 12) (v := .pointer (some ⟨g, 0, none⟩)) rfl rfl (by kernel_rfl) (by kernel_rfl) (by kernel_rfl) (fun _ _ _ h => h) ⟨Or.inl ⟨by rfl, by intro w; go_simp⟩, fun _ => rfl⟩ ?_
      refine wpAnyIn_take (i := 13) (v := .pointer (some ⟨g, 1, none⟩)) rfl rfl (by kernel_rfl) (by kernel_rfl) (by kernel_rfl) (fun _ _ _ h => h) ⟨Or.inl ⟨by rfl, by intro w; go_simp⟩, fun _ => rfl⟩ ?_
      refine wpAnyIn_ready (rs := [14]) (by kernel_rfl) (by simp) ?_
      refine AllReadyIn.cons rfl (fun K3 hK3 => ?_) AllReadyIn.nil
      go_simp
      refine hK3 _ _ ?_
      clear hK3 K3
      refine wpAnyIn_take (i := 16) (v := .bool true) rfl rfl (by kernel_rfl) (by kernel_rfl) (by kernel_rfl) (fun _ _ _ h => h) ⟨Or.inl ⟨by rfl, by intro w; go_simp⟩, fun _ => rfl⟩ ?_
      refine wpAnyIn_take (i := 17) (v := .bool true) rfl rfl (by kernel_rfl) (by kernel_rfl) (by kernel_rfl) (fun _ _ _ h => h) ⟨Or.inl ⟨by rfl, by intro w; go_simp⟩, fun _ => rfl⟩ ?_
      refine wpAnyIn_ready (rs := [18, 19]) (by kernel_rfl) (by simp) ?_
      refine AllReadyIn.cons rfl (fun K3 hK3 => ?_) (AllReadyIn.cons rfl (fun K3 hK3 => ?_) AllReadyIn.nil)
      · go_simp
        refine hK3 _ _ ?_
        clear hK3 K3
        refine wpAnyIn_ready (rs := [19]) (by kernel_rfl) (by simp) ?_
        refine AllReadyIn.cons rfl (fun K3 hK3 => ?_) AllReadyIn.nil
        go_simp
        refine hK3 _ _ ?_
        clear hK3 K3
        refine wpAnyIn_take (i := 20) (v := .pointer (some ⟨g, 0, none⟩)) rfl rfl (by kernel_rfl) (by kernel_rfl) (by kernel_rfl) (fun _ _ _ h => h) ⟨Or.inl ⟨by rfl, by intro w; go_simp⟩, fun _ => rfl⟩ ?_
        refine wpAnyIn_take (i := 21) (v := .pointer (some ⟨g, 0, none⟩)) rfl rfl (by kernel_rfl) (by kernel_rfl) (by kernel_rfl) (fun _ _ _ h => h) ⟨Or.inl ⟨by rfl, by intro w; go_simp⟩, fun _ => rfl⟩ ?_
        refine wpAnyIn_ready (rs := [22]) (by kernel_rfl) (by simp) ?_
        refine AllReadyIn.cons rfl (fun K3 hK3 => ?_) AllReadyIn.nil
        go_simp
        refine hK3 _ _ ?_
        clear hK3 K3
        refine wpAnyIn_ready (rs := [23]) (by kernel_rfl) (by simp) ?_
        refine AllReadyIn.cons rfl (fun K3 hK3 => ?_) AllReadyIn.nil
        go_simp
        refine ⟨rfl, RoundIn.mono HR.out ?_⟩
        intro e W3 hr
        rcases HR2.out e W3 hr with rfl | rfl
        · refine hK3 _ _ ?_
          clear hK3 K3
          refine wpAnyIn_take (i := 24) (v := .bool false) rfl rfl (by kernel_rfl) (by kernel_rfl) (by kernel_rfl) (fun _ _ _ h => h) ⟨Or.inl ⟨by rfl, by intro w; go_simp⟩, fun _ => rfl⟩ ?_
          refine wpAnyIn_take (i := 25) (v := .bool false) rfl rfl (by kernel_rfl) (by kernel_rfl) (by kernel_rfl) (fun _ _ _ h => h) ⟨Or.inl ⟨by rfl, by intro w; go_simp⟩, fun _ => rfl⟩ ?_
          refine wpAnyIn_take (i := 26) (v := .bool false) rfl rfl (by kernel_rfl) (by kernel_rfl) (by kernel_rfl) (fun _ _ _ h => h) ⟨Or.inl ⟨by rfl, by intro w; go_simp⟩, fun _ => rfl⟩ ?_
          refine wpAnyIn_done (by kernel_rfl) ?_ _
          refine NoPanic.normal ?_
          exact HQ1.out _ hr
        · refine hK3 _ _ ?_
          clear hK3 K3
          refine wpAnyIn_take (i := 24) (v := .bool true) rfl rfl (by kernel_rfl) (by kernel_rfl) (by kernel_rfl) (fun _ _ _ h => h) ⟨Or.inl ⟨by rfl, by intro w; go_simp⟩, fun _ => rfl⟩ ?_
          refine wpAnyIn_take (i := 25) (v := .bool true) rfl rfl (by kernel_rfl) (by kernel_rfl) (by kernel_rfl) (fun _ _ _ h => h) ⟨Or.inl ⟨by rfl, by intro w; go_simp⟩, fun _ => rfl⟩ ?_
          refine wpAnyIn_take (i := 26) (v := .bool true) rfl rfl (by kernel_rfl) (by kernel_rfl) (by kernel_rfl) (fun _ _ _ h => h) ⟨Or.inl ⟨by rfl, by intro w; go_simp⟩, fun _ => rfl⟩ ?_
          refine wpAnyIn_done (by kernel_rfl) ?_ _
          refine NoPanic.normal ?_
          exact HQ2.out _ hr
      · go_simp
        refine hK3 _ _ ?_
        clear hK3 K3
        refine wpAnyIn_take (i := 20) (v := .pointer (some ⟨g, 0, none⟩)) rfl rfl (by kernel_rfl) (by kernel_rfl) (by kernel_rfl) (fun _ _ _ h => h) ⟨Or.inl ⟨by rfl, by intro w; go_simp⟩, fun _ => rfl⟩ ?_
        refine wpAnyIn_take (i := 21) (v := .pointer (some ⟨g, 0, none⟩)) rfl rfl (by kernel_rfl) (by kernel_rfl) (by kernel_rfl) (fun _ _ _ h => h) ⟨Or.inl ⟨by rfl, by intro w; go_simp⟩, fun _ => rfl⟩ ?_
        refine wpAnyIn_ready (rs := [18, 22]) (by kernel_rfl) (by simp) ?_
        refine AllReadyIn.cons rfl (fun K3 hK3 => ?_) (AllReadyIn.cons rfl (fun K3 hK3 => ?_) AllReadyIn.nil)
        · go_simp
          refine hK3 _ _ ?_
          clear hK3 K3
          refine wpAnyIn_ready (rs := [22]) (by kernel_rfl) (by simp) ?_
          refine AllReadyIn.cons rfl (fun K3 hK3 => ?_) AllReadyIn.nil
          go_simp
          refine hK3 _ _ ?_
          clear hK3 K3
          refine wpAnyIn_ready (rs := [23]) (by kernel_rfl) (by simp) ?_
          refine AllReadyIn.cons rfl (fun K3 hK3 => ?_) AllReadyIn.nil
          go_simp
          refine ⟨rfl, RoundIn.mono HR.out ?_⟩
          intro e W3 hr
          rcases HR2.out e W3 hr with rfl | rfl
          · refine hK3 _ _ ?_
            clear hK3 K3
            refine wpAnyIn_take (i := 24) (v := .bool false) rfl rfl (by kernel_rfl) (by kernel_rfl) (by kernel_rfl) (fun _ _ _ h => h) ⟨Or.inl ⟨by rfl, by intro w; go_simp⟩, fun _ => rfl⟩ ?_
            refine wpAnyIn_take (i := 25) (v := .bool false) rfl rfl (by kernel_rfl) (by kernel_rfl) (by kernel_rfl) (fun _ _ _ h => h) ⟨Or.inl ⟨by rfl, by intro w; go_simp⟩, fun _ => rfl⟩ ?_
            refine wpAnyIn_take (i := 26) (v := .bool false) rfl rfl (by kernel_rfl) (by kernel_rfl) (by kernel_rfl) (fun _ _ _ h => h) ⟨Or.inl ⟨by rfl, by intro w; go_simp⟩, fun _ => rfl⟩ ?_
            refine wpAnyIn_done (by kernel_rfl) ?_ _
            refine NoPanic.normal ?_
            exact HQ1.out _ hr
          · refine hK3 _ _ ?_
            clear hK3 K3
            refine wpAnyIn_take (i := 24) (v := .bool true) rfl rfl (by kernel_rfl) (by kernel_rfl) (by kernel_rfl) (fun _ _ _ h => h) ⟨Or.inl ⟨by rfl, by intro w; go_simp⟩, fun _ => rfl⟩ ?_
            refine wpAnyIn_take (i := 25) (v := .bool true) rfl rfl (by kernel_rfl) (by kernel_rfl) (by kernel_rfl) (fun _ _ _ h => h) ⟨Or.inl ⟨by rfl, by intro w; go_simp⟩, fun _ => rfl⟩ ?_
            refine wpAnyIn_take (i := 26) (v := .bool true) rfl rfl (by kernel_rfl) (by kernel_rfl) (by kernel_rfl) (fun _ _ _ h => h) ⟨Or.inl ⟨by rfl, by intro w; go_simp⟩, fun _ => rfl⟩ ?_
            refine wpAnyIn_done (by kernel_rfl) ?_ _
            refine NoPanic.normal ?_
            exact HQ2.out _ hr
        · go_simp
          refine hK3 _ _ ?_
          clear hK3 K3
          refine wpAnyIn_ready (rs := [18]) (by kernel_rfl) (by simp) ?_
          refine AllReadyIn.cons rfl (fun K3 hK3 => ?_) AllReadyIn.nil
          go_simp
          refine hK3 _ _ ?_
          clear hK3 K3
          refine wpAnyIn_ready (rs := [23]) (by kernel_rfl) (by simp) ?_
          refine AllReadyIn.cons rfl (fun K3 hK3 => ?_) AllReadyIn.nil
          go_simp
          refine ⟨rfl, RoundIn.mono HR.out ?_⟩
          intro e W3 hr
          rcases HR2.out e W3 hr with rfl | rfl
          · refine hK3 _ _ ?_
            clear hK3 K3
            refine wpAnyIn_take (i := 24) (v := .bool false) rfl rfl (by kernel_rfl) (by kernel_rfl) (by kernel_rfl) (fun _ _ _ h => h) ⟨Or.inl ⟨by rfl, by intro w; go_simp⟩, fun _ => rfl⟩ ?_
            refine wpAnyIn_take (i := 25) (v := .bool false) rfl rfl (by kernel_rfl) (by kernel_rfl) (by kernel_rfl) (fun _ _ _ h => h) ⟨Or.inl ⟨by rfl, by intro w; go_simp⟩, fun _ => rfl⟩ ?_
            refine wpAnyIn_take (i := 26) (v := .bool false) rfl rfl (by kernel_rfl) (by kernel_rfl) (by kernel_rfl) (fun _ _ _ h => h) ⟨Or.inl ⟨by rfl, by intro w; go_simp⟩, fun _ => rfl⟩ ?_
            refine wpAnyIn_done (by kernel_rfl) ?_ _
            refine NoPanic.normal ?_
            exact HQ1.out _ hr
          · refine hK3 _ _ ?_
            clear hK3 K3
            refine wpAnyIn_take (i := 24) (v := .bool true) rfl rfl (by kernel_rfl) (by kernel_rfl) (by kernel_rfl) (fun _ _ _ h => h) ⟨Or.inl ⟨by rfl, by intro w; go_simp⟩, fun _ => rfl⟩ ?_
            refine wpAnyIn_take (i := 25) (v := .bool true) rfl rfl (by kernel_rfl) (by kernel_rfl) (by kernel_rfl) (fun _ _ _ h => h) ⟨Or.inl ⟨by rfl, by intro w; go_simp⟩, fun _ => rfl⟩ ?_
            refine wpAnyIn_take (i := 26) (v := .bool true) rfl rfl (by kernel_rfl) (by kernel_rfl) (by kernel_rfl) (fun _ _ _ h => h) ⟨Or.inl ⟨by rfl, by intro w; go_simp⟩, fun _ => rfl⟩ ?_
            refine wpAnyIn_done (by kernel_rfl) ?_ _
            refine NoPanic.normal ?_
            exact HQ2.out _ hr
end Go.Proofs.Ytgglhicpfjihlaa
