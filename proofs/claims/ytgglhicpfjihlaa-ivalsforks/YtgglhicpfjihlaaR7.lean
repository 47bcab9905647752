/- The last part of a round of inOrder. -/
import Derived.Test.YtgglhicpfjihlaaNu
import Derived.BigRegionIn
namespace Go.Proofs.Ytgglhicpfjihlaa
open Go.RowKit Go.Shelf
set_option maxRecDepth 100000
attribute [local go_sem] Oper.semAt_some

set_option maxHeartbeats 1000000 in
theorem reg7 {wb lb blk l' : Nat} {N : Int} {y : St} {u0 u1 u2 u6 u7 u8 u9 u10 u11 u12 u13 u14 u15 u16 u17 u18 u19 u23 u24 u25 u26 u27 u28 : Value} {l0 l1 l2 : Value} {W : World} {Q : Exit → Act → World → Prop} (hne1 : blk ≠ wb) (hne2 : lb ≠ wb) (hN : wrap64 (N + 1) = N + 1)
    (hw : Blk W wb [.int .i64 N] 3) (hl : Blk W lb [l0, l1, l2] 68) (hb : Blk W blk [.int .i64 y.f, .int .i64 y.t, .int .i64 y.i] 68)
    (hQ : ∀ W', Blk W' wb [.int .i64 (N + 1)] 3 → Blk W' lb [.int .i64 y.f, .int .i64 y.t, .int .i64 y.i] 68 → Keep (fun k => k = wb ∨ k = lb) W W' → Q .normal { tmps := #[u0, u1, u2, .pointer (some ⟨wb, 0, none⟩), .pointer (some ⟨lb, 0, none⟩), .pointer (some ⟨blk, 0, none⟩), u6, u7, u8, u9, u10, u11, u12, u13, u14, u15, u16, u17, u18, u19, .int .i64 N, .int .i64 (N + 1), SV y, u23, u24, u25, u26, u27, u28], defers := [] } W') :
    Code.wpIn (Fence.wide.inRound l') 0 Try.prog (Code.region 7 #[{ dst := some 20, op := Op.load 3 (Operand.tmp 3), type := 3, pos := "ivals.go:143", after := #[], guard := none }, { dst := some 21, op := Op.binOp BinOp.add 3 (Operand.tmp 20) (Operand.const (Value.int IntKind.i64 1)) 3, type := 3, pos := "ivals.go:143", after := #[{ on := 0, ground := Ground.data }], guard := none }, { dst := some 22, op := Op.load 68 (Operand.tmp 5), type := 68, pos := "ivals.go:143", after := #[{ on := 3, ground := Ground.gcOnly Departure.lateStores }], guard := none }, { dst := none, op := Op.store 3 (Operand.tmp 3) (Operand.tmp 21), type := 0, pos := "ivals.go:143", after := #[{ on := 1, ground := Ground.data }, { on := 0, ground := Ground.phase }, { on := 1, ground := Ground.phase }, { on := 2, ground := Ground.textOnly Departure.lateStores }], guard := none }, { dst := none, op := Op.store 68 (Operand.tmp 4) (Operand.tmp 22), type := 0, pos := "ivals.go:143", after := #[{ on := 2, ground := Ground.data }, { on := 3, ground := Ground.chain }, { on := 0, ground := Ground.phase }, { on := 1, ground := Ground.phase }, { on := 2, ground := Ground.phase }, { on := 3, ground := Ground.phase }], guard := none }] true) Q { tmps := #[u0, u1, u2, .pointer (some ⟨wb, 0, none⟩), .pointer (some ⟨lb, 0, none⟩), .pointer (some ⟨blk, 0, none⟩), u6, u7, u8, u9, u10, u11, u12, u13, u14, u15, u16, u17, u18, u19, undef, undef, undef, u23, u24, u25, u26, u27, u28], defers := [] } W := by
  have hN2 : IntKind.i64.wrap (N + 1) = N + 1 := (IntWalk.i64_left _).trans hN
  have hw2 : Blk W.drew wb [.int .i64 N] 3 := hw
  have hl2 : Blk W.drew lb [l0, l1, l2] 68 := hl
  have hb2 : Blk W.drew blk [.int .i64 y.f, .int .i64 y.t, .int .i64 y.i] 68 := hb
  have kk : Keep (fun k => k = wb ∨ k = lb) W W.drew := (Keep.refl _ W).drew
  refine Code.wpIn_mono NoPanic.imp ?_
  refine wpIn_region_any (by kernel_rfl) ?_
  change wpAnyIn _ _ _ _ _ _ _ _ _ (World.drew _)
  generalize W.drew = W2 at *
  have a0 := hw2.cell 0
  have af := hw2.frozen 0
  have b0 := hb2.cell 0
  have b1 := hb2.cell 1
  have b2 := hb2.cell 2
  have s1 := hw2.set (o := 0) (.int .i64 (N + 1))
  have s2 : Blk (W2.setCell ⟨wb, 0, none⟩ (.int .i64 (N + 1))) lb [l0, l1, l2] 68 := hl2.block (Below.heap_setCell _ _ _ _ hne2)
  have s3 : Blk (W2.setCell ⟨wb, 0, none⟩ (.int .i64 (N + 1))) blk [.int .i64 y.f, .int .i64 y.t, .int .i64 y.i] 68 := hb2.block (Below.heap_setCell _ _ _ _ hne1)
  have ks := kk.set (p := ⟨wb, 0, none⟩) (.inr (.inl rfl)) (.int .i64 (N + 1))
  have c0 := s3.cell 0
  have c1 := s3.cell 1
  have c2 := s3.cell 2
  have d0 := s2.cell 0
  have d1 := s2.cell 1
  have d2 := s2.cell 2
  have e0 := s2.frozen 0
  have e1 := s2.frozen 1
  have e2 := s2.frozen 2
  simp only [List.getElem?_cons_zero, List.getElem?_cons_succ] at a0 b0 b1 b2 c0 c1 c2 d0 d1 d2
  have HQ : Hid _ := hQ
  have S1 : Hid _ := s1
  have S2 : Hid _ := s2
  have KS : Hid _ := ks
  clear hQ s1 s2 s3 ks hw hl hb hw2 hl2 hb2
  refine wpAnyIn_ready (rs := [0, 2]) (by kernel_rfl) (by simp) ?_
  refine AllReadyIn.cons rfl (fun K3 hK3 => ?_) (AllReadyIn.cons rfl (fun K3 hK3 => ?_) AllReadyIn.nil)
  · go_simp
    refine hK3 _ _ ?_
    clear hK3 K3
    refine wpAnyIn_ready (rs := [1, 2]) (by kernel_rfl) (by simp) ?_
    refine AllReadyIn.cons rfl (fun K3 hK3 => ?_) (AllReadyIn.cons rfl (fun K3 hK3 => ?_) AllReadyIn.nil)
    · go_simp
      refine hK3 _ _ ?_
      clear hK3 K3
      refine wpAnyIn_ready (rs := [2, 3]) (by kernel_rfl) (by simp) ?_
      refine AllReadyIn.cons rfl (fun K3 hK3 => ?_) (AllReadyIn.cons rfl (fun K3 hK3 => ?_) AllReadyIn.nil)
      · go_simp
        refine hK3 _ _ ?_
        clear hK3 K3
        refine wpAnyIn_ready (rs := [3]) (by kernel_rfl) (by simp) ?_
        refine AllReadyIn.cons rfl (fun K3 hK3 => ?_) AllReadyIn.nil
        · go_simp
          refine hK3 _ _ ?_
          clear hK3 K3
          refine wpAnyIn_ready (rs := [4]) (by kernel_rfl) (by simp) ?_
          refine AllReadyIn.cons rfl (fun K3 hK3 => ?_) AllReadyIn.nil
          · go_simp
            refine hK3 _ _ ?_
            clear hK3 K3
            refine wpAnyIn_done (by kernel_rfl) ?_ _
            refine NoPanic.normal ?_
            refine HQ.out _ ?_ ?_ ?_
            · exact Blk.block (Blk.block (Blk.block S1.out (Below.heap_setCell _ _ _ _ (Ne.symm hne2))) (Below.heap_setCell _ _ _ _ (Ne.symm hne2))) (Below.heap_setCell _ _ _ _ (Ne.symm hne2))
            · exact ((Blk.set (o := 0) S2.out (.int .i64 y.f)).set (o := 1) (.int .i64 y.t)).set (o := 2) (.int .i64 y.i)
            · exact ((Keep.set KS.out (p := ⟨lb, 0, none⟩) (.inr (.inr rfl)) _).set (p := ⟨lb, 1, none⟩) (.inr (.inr rfl)) _).set (p := ⟨lb, 2, none⟩) (.inr (.inr rfl)) _
      · go_simp
        refine hK3 _ _ ?_
        clear hK3 K3
        refine wpAnyIn_ready (rs := [2]) (by kernel_rfl) (by simp) ?_
        refine AllReadyIn.cons rfl (fun K3 hK3 => ?_) AllReadyIn.nil
        · go_simp
          refine hK3 _ _ ?_
          clear hK3 K3
          refine wpAnyIn_ready (rs := [4]) (by kernel_rfl) (by simp) ?_
          refine AllReadyIn.cons rfl (fun K3 hK3 => ?_) AllReadyIn.nil
          · go_simp
            refine hK3 _ _ ?_
            clear hK3 K3
            refine wpAnyIn_done (by kernel_rfl) ?_ _
            refine NoPanic.normal ?_
            refine HQ.out _ ?_ ?_ ?_
            · exact Blk.block (Blk.block (Blk.block S1.out (Below.heap_setCell _ _ _ _ (Ne.symm hne2))) (Below.heap_setCell _ _ _ _ (Ne.symm hne2))) (Below.heap_setCell _ _ _ _ (Ne.symm hne2))
            · exact ((Blk.set (o := 0) S2.out (.int .i64 y.f)).set (o := 1) (.int .i64 y.t)).set (o := 2) (.int .i64 y.i)
            · exact ((Keep.set KS.out (p := ⟨lb, 0, none⟩) (.inr (.inr rfl)) _).set (p := ⟨lb, 1, none⟩) (.inr (.inr rfl)) _).set (p := ⟨lb, 2, none⟩) (.inr (.inr rfl)) _
    · go_simp
      refine hK3 _ _ ?_
      clear hK3 K3
      refine wpAnyIn_ready (rs := [1]) (by kernel_rfl) (by simp) ?_
      refine AllReadyIn.cons rfl (fun K3 hK3 => ?_) AllReadyIn.nil
      · go_simp
        refine hK3 _ _ ?_
        clear hK3 K3
        refine wpAnyIn_ready (rs := [3]) (by kernel_rfl) (by simp) ?_
        refine AllReadyIn.cons rfl (fun K3 hK3 => ?_) AllReadyIn.nil
        · go_simp
          refine hK3 _ _ ?_
          clear hK3 K3
          refine wpAnyIn_ready (rs := [4]) (by kernel_rfl) (by simp) ?_
          refine AllReadyIn.cons rfl (fun K3 hK3 => ?_) AllReadyIn.nil
          · go_simp
            refine hK3 _ _ ?_
            clear hK3 K3
            refine wpAnyIn_done (by kernel_rfl) ?_ _
            refine NoPanic.normal ?_
            refine HQ.out _ ?_ ?_ ?_
            · exact Blk.block (Blk.block (Blk.block S1.out (Below.heap_setCell _ _ _ _ (Ne.symm hne2))) (Below.heap_setCell _ _ _ _ (Ne.symm hne2))) (Below.heap_setCell _ _ _ _ (Ne.symm hne2))
            · exact ((Blk.set (o := 0) S2.out (.int .i64 y.f)).set (o := 1) (.int .i64 y.t)).set (o := 2) (.int .i64 y.i)
            · exact ((Keep.set KS.out (p := ⟨lb, 0, none⟩) (.inr (.inr rfl)) _).set (p := ⟨lb, 1, none⟩) (.inr (.inr rfl)) _).set (p := ⟨lb, 2, none⟩) (.inr (.inr rfl)) _
  · go_simp
    refine hK3 _ _ ?_
    clear hK3 K3
    refine wpAnyIn_ready (rs := [0]) (by kernel_rfl) (by simp) ?_
    refine AllReadyIn.cons rfl (fun K3 hK3 => ?_) AllReadyIn.nil
    · go_simp
      refine hK3 _ _ ?_
      clear hK3 K3
      refine wpAnyIn_ready (rs := [1]) (by kernel_rfl) (by simp) ?_
      refine AllReadyIn.cons rfl (fun K3 hK3 => ?_) AllReadyIn.nil
      · go_simp
        refine hK3 _ _ ?_
        clear hK3 K3
        refine wpAnyIn_ready (rs := [3]) (by kernel_rfl) (by simp) ?_
        refine AllReadyIn.cons rfl (fun K3 hK3 => ?_) AllReadyIn.nil
        · go_simp
          refine hK3 _ _ ?_
          clear hK3 K3
          refine wpAnyIn_ready (rs := [4]) (by kernel_rfl) (by simp) ?_
          refine AllReadyIn.cons rfl (fun K3 hK3 => ?_) AllReadyIn.nil
          · go_simp
            refine hK3 _ _ ?_
            clear hK3 K3
            refine wpAnyIn_done (by kernel_rfl) ?_ _
            refine NoPanic.normal ?_
            refine HQ.out _ ?_ ?_ ?_
            · exact Blk.block (Blk.block (Blk.block S1.out (Below.heap_setCell _ _ _ _ (Ne.symm hne2))) (Below.heap_setCell _ _ _ _ (Ne.symm hne2))) (Below.heap_setCell _ _ _ _ (Ne.symm hne2))
            · exact ((Blk.set (o := 0) S2.out (.int .i64 y.f)).set (o := 1) (.int .i64 y.t)).set (o := 2) (.int .i64 y.i)
            · exact ((Keep.set KS.out (p := ⟨lb, 0, none⟩) (.inr (.inr rfl)) _).set (p := ⟨lb, 1, none⟩) (.inr (.inr rfl)) _).set (p := ⟨lb, 2, none⟩) (.inr (.inr rfl)) _
end Go.Proofs.Ytgglhicpfjihlaa
