/- The document's Put: where a pair is laid in. -/
import Derived.Test.YtgimjjlkniplnaaLh
namespace Go.Proofs.Ytgimjjlkniplnaa
open Go.RowKit Go.Shelf
set_option maxRecDepth 100000
theorem info33' : (Try.prog.info? 33).map (fun i => (i.zero, i.size)) = some (some (.agg #[.string { data := #[] }, .string { data := #[] }]), 2) := by kernel_rfl
set_option maxHeartbeats 4000000 in
theorem preg7 {r k : Nat} {a : Option Addr} {c : Nat} {L : List Pr} {p : Pr} {u3 u4 u5 u6 u8 u9 u10 u11 u12 u13 u14 u15 u16 u17 u18 u19 u20 u21 u22 u23 u24 u25 u26 u27 u28 u29 u30 u31 u32 u33 u34 u35 u36 u37 u38 u39 u40 u41 : Value} {W : World} {Q : Exit → Act → World → Prop}
    (hr : RI W r a c L) (hk : k ≤ L.length) (hl : L.length ≤ 1000)
    (hQ : ∀ v20 v26 v27 v31 v32 v38 v39 w', (∃ a' c', RI w' r a' c' (L.take k ++ p :: L.drop k)) → Keep (fun k => k = r) W w' → Q .normal { tmps := #[.pointer (some ⟨r, 0, none⟩), .string p.1, .string p.2, u3, u4, u5, u6, .int .i64 (k : Int), u8, u9, u10, u11, u12, u13, u14, u15, u16, u17, u18, .pointer (some ⟨r, 0, none⟩), v20, .pointer (some ⟨r, 0, none⟩), .pointer (some ⟨r, 0, none⟩), .pointer (some ⟨r, 0, none⟩), .slice a L.length c, .int .i64 (k : Int), v26, v27, .string p.1, .string p.2, .agg #[.string p.1, .string p.2], v31, v32, .pointer (some ⟨r, 0, none⟩), .pointer (some ⟨r, 0, none⟩), .pointer (some ⟨r, 0, none⟩), .slice a L.length c, .int .i64 (k : Int), v38, v39, .pointer (some ⟨r, 0, none⟩), .pointer (some ⟨r, 0, none⟩)], defers := [] } w') :
    Code.wp Try.prog (Code.region 7 #[{ dst := some 19, op := Op.move (Operand.tmp 0), type := 25, pos := "ref.go:31", after := #[], guard := none }, { dst := some 20, op := Op.buildSlice 37 0 #[], type := 37, pos := "ref.go:31", after := #[], guard := none }, { dst := some 21, op := Op.move (Operand.tmp 0), type := 25, pos := "ref.go:31", after := #[], guard := none }, { dst := some 22, op := Op.nilCheck (Operand.tmp 21), type := 0, pos := "ref.go:31", after := #[{ on := 2, ground := Ground.data }], guard := none }, { dst := some 23, op := Op.fieldAddr 55 (Operand.tmp 22) 0, type := 0, pos := "ref.go:31", after := #[{ on := 3, ground := Ground.data }], guard := none }, { dst := some 24, op := Op.load 37 (Operand.tmp 23), type := 37, pos := "ref.go:31", after := #[{ on := 4, ground := Ground.data }], guard := none }, { dst := some 25, op := Op.move (Operand.tmp 7), type := 3, pos := "ref.go:31", after := #[], guard := none }, { dst := some 26, op := Op.slice 37 (Operand.tmp 24) none (some (Operand.tmp 25)) none, type := 37, pos := "ref.go:31", after := #[{ on := 5, ground := Ground.data }, { on := 6, ground := Ground.data }], guard := none }, { dst := some 27, op := Op.call { callee := Callee.builtin Builtin.append, args := #[Operand.tmp 20, Operand.tmp 26], argTypes := #[37, 37] }, type := 37, pos := "ref.go:31", after := #[{ on := 1, ground := Ground.data }, { on := 7, ground := Ground.data }], guard := none }, { dst := some 28, op := Op.move (Operand.tmp 1), type := 9, pos := "ref.go:31", after := #[], guard := none }, { dst := some 29, op := Op.move (Operand.tmp 2), type := 9, pos := "ref.go:31", after := #[], guard := none }, { dst := some 30, op := Op.build 33 #[(0, Operand.tmp 28), (1, Operand.tmp 29)], type := 33, pos := "ref.go:31", after := #[{ on := 9, ground := Ground.data }, { on := 10, ground := Ground.data }], guard := none }, { dst := some 31, op := Op.buildSlice 37 1 #[(0, Operand.tmp 30)], type := 37, pos := "ref.go:31", after := #[{ on := 11, ground := Ground.data }], guard := none }, { dst := some 32, op := Op.call { callee := Callee.builtin Builtin.append, args := #[Operand.tmp 27, Operand.tmp 31], argTypes := #[37, 37] }, type := 37, pos := "ref.go:31", after := #[{ on := 8, ground := Ground.data }, { on := 12, ground := Ground.data }, { on := 8, ground := Ground.chain }], guard := none }, { dst := some 33, op := Op.move (Operand.tmp 0), type := 25, pos := "ref.go:31", after := #[], guard := none }, { dst := some 34, op := Op.nilCheck (Operand.tmp 33), type := 0, pos := "ref.go:31", after := #[{ on := 14, ground := Ground.data }], guard := none }, { dst := some 35, op := Op.fieldAddr 55 (Operand.tmp 34) 0, type := 0, pos := "ref.go:31", after := #[{ on := 15, ground := Ground.data }], guard := none }, { dst := some 36, op := Op.load 37 (Operand.tmp 35), type := 37, pos := "ref.go:31", after := #[{ on := 16, ground := Ground.data }], guard := none }, { dst := some 37, op := Op.move (Operand.tmp 7), type := 3, pos := "ref.go:31", after := #[], guard := none }, { dst := some 38, op := Op.slice 37 (Operand.tmp 36) (some (Operand.tmp 37)) none none, type := 37, pos := "ref.go:31", after := #[{ on := 17, ground := Ground.data }, { on := 18, ground := Ground.data }], guard := none }, { dst := some 39, op := Op.call { callee := Callee.builtin Builtin.append, args := #[Operand.tmp 32, Operand.tmp 38], argTypes := #[37, 37] }, type := 37, pos := "ref.go:31", after := #[{ on := 13, ground := Ground.data }, { on := 19, ground := Ground.data }, { on := 13, ground := Ground.chain }], guard := none }, { dst := some 40, op := Op.nilCheck (Operand.tmp 19), type := 0, pos := "ref.go:31", after := #[{ on := 0, ground := Ground.data }, { on := 0, ground := Ground.phase }, { on := 1, ground := Ground.phase }, { on := 2, ground := Ground.phase }, { on := 3, ground := Ground.phase }, { on := 4, ground := Ground.phase }, { on := 5, ground := Ground.phase }, { on := 6, ground := Ground.phase }, { on := 7, ground := Ground.phase }, { on := 8, ground := Ground.phase }, { on := 9, ground := Ground.phase }, { on := 10, ground := Ground.phase }, { on := 11, ground := Ground.phase }, { on := 12, ground := Ground.phase }, { on := 13, ground := Ground.phase }, { on := 14, ground := Ground.phase }, { on := 15, ground := Ground.phase }, { on := 16, ground := Ground.phase }, { on := 17, ground := Ground.phase }, { on := 18, ground := Ground.phase }, { on := 19, ground := Ground.phase }, { on := 20, ground := Ground.phase }], guard := none }, { dst := some 41, op := Op.fieldAddr 55 (Operand.tmp 40) 0, type := 0, pos := "ref.go:31", after := #[{ on := 21, ground := Ground.data }, { on := 0, ground := Ground.phase }, { on := 1, ground := Ground.phase }, { on := 2, ground := Ground.phase }, { on := 3, ground := Ground.phase }, { on := 4, ground := Ground.phase }, { on := 5, ground := Ground.phase }, { on := 6, ground := Ground.phase }, { on := 7, ground := Ground.phase }, { on := 8, ground := Ground.phase }, { on := 9, ground := Ground.phase }, { on := 10, ground := Ground.phase }, { on := 11, ground := Ground.phase }, { on := 12, ground := Ground.phase }, { on := 13, ground := Ground.phase }, { on := 14, ground := Ground.phase }, { on := 15, ground := Ground.phase }, { on := 16, ground := Ground.phase }, { on := 17, ground := Ground.phase }, { on := 18, ground := Ground.phase }, { on := 19, ground := Ground.phase }, { on := 20, ground := Ground.phase }], guard := none }, { dst := none, op := Op.store 37 (Operand.tmp 41) (Operand.tmp 39), type := 0, pos := "ref.go:31", after := #[{ on := 22, ground := Ground.data }, { on := 20, ground := Ground.data }, { on := 20, ground := Ground.chain }, { on := 0, ground := Ground.phase }, { on := 1, ground := Ground.phase }, { on := 2, ground := Ground.phase }, { on := 3, ground := Ground.phase }, { on := 4, ground := Ground.phase }, { on := 5, ground := Ground.phase }, { on := 6, ground := Ground.phase }, { on := 7, ground := Ground.phase }, { on := 8, ground := Ground.phase }, { on := 9, ground := Ground.phase }, { on := 10, ground := Ground.phase }, { on := 11, ground := Ground.phase }, { on := 12, ground := Ground.phase }, { on := 13, ground := Ground.phase }, { on := 14, ground := Ground.phase }, { on := 15, ground := Ground.phase }, { on := 16, ground := Ground.phase }, { on := 17, ground := Ground.phase }, { on := 18, ground := Ground.phase }, { on := 19, ground := Ground.phase }, { on := 20, ground := Ground.phase }], guard := none }] true) Q { tmps := #[.pointer (some ⟨r, 0, none⟩), .string p.1, .string p.2, u3, u4, u5, u6, .int .i64 (k : Int), u8, u9, u10, u11, u12, u13, u14, u15, u16, u17, u18, u19, u20, u21, u22, u23, u24, u25, u26, u27, u28, u29, u30, u31, u32, u33, u34, u35, u36, u37, u38, u39, u40, u41], defers := [] } W := by
  obtain ⟨N, hN⟩ : ∃ N, L.length = N := ⟨_, rfl⟩
  have hcap := hr.cap
  have hrl := hr.blk.lt
  have HR : Hid (RI W r a c L) := hr
  have HL : Hid (L.length ≤ 1000) := hl
  have HQ : Hid _ := hQ
  have HN : Hid (L.length = N) := hN
  have HK : Hid (k ≤ L.length) := hk
  rw [hN] at hk hcap
  have g1 : (k : Int) ≤ (c : Int) := by omega
  have g2 : (k : Int) ≤ (N : Int) := by omega
  have g3 : (0 : Int) ≤ (k : Int) := by omega
  have H27 : Hid (∀ w2 b, Below W.heap.size W w2 → W.heap.size ≤ b → b < w2.heap.size → ∃ u w', (Builtin.append_ #[37, 37] 37 #[.slice (some ⟨b, 0, none⟩) 0 0, .slice a k c]).run Try.prog w2 = .ok u w' ∧ RU EP W.heap.size w' u (L.take k) ∧ Below W.heap.size W w' ∧ (∀ e, e ≠ b → Blk w2 e [.string p.1, .string p.2] 33 → Blk w' e [.string p.1, .string p.2] 33)) := fun w2 b q1 q2 q3 => by
    have hU0 : RU EP W.heap.size w2 (.slice (some ⟨b, 0, none⟩) 0 0) [] := .inl ⟨rfl, _, rfl, q2, q3⟩
    obtain ⟨u, w', e1, e2, e3⟩ := run_app hU0 ((RI.below HR.out q1).lv.take (k := k) HK.out c (by omega)) (by have := HL.out; simp; omega) q1.size
    rw [List.nil_append] at e2
    exact ⟨u, w', e1, e2, q1.trans (grown_below hU0 e3 q1.size), fun e he hb => hb.block (e3.block e hb.lt (fun q => he (by simpa [Value.ownBlock] using q)))⟩
  have H32 : Hid (∀ w2 u e, RU EP W.heap.size w2 u (L.take k) → Below W.heap.size W w2 → Blk w2 e [.string p.1, .string p.2] 33 → ∃ u' w', (Builtin.append_ #[37, 37] 37 #[u, .slice (some ⟨e, 0, none⟩) 1 1]).run Try.prog w2 = .ok u' w' ∧ RU EP W.heap.size w' u' (L.take k ++ [p]) ∧ Below W.heap.size W w') := fun w2 u e q1 q2 q3 => by
    obtain ⟨u', w', e1, e2, e3⟩ := run_app q1 (lv_blk EP (L := [p]) q3 1 (Nat.le_refl _)) (by have := HL.out; simp; omega) q2.size
    exact ⟨u', w', e1, e2, q2.trans (grown_below q1 e3 q2.size)⟩
  have H39 : Hid (∀ w2 u, RU EP W.heap.size w2 u (L.take k ++ [p]) → Below W.heap.size W w2 → ∃ u' w', (Builtin.append_ #[37, 37] 37 #[u, .slice (if c = k then a else Option.map (fun x => x.add (k * 2)) a) (N - k) (c - k)]).run Try.prog w2 = .ok u' w' ∧ (∃ a' c', u' = .slice a' (L.length + 1) c' ∧ w'.frozen? ⟨r, 0, none⟩ = false ∧ RI (w'.setCell ⟨r, 0, none⟩ u') r a' c' (L.take k ++ p :: L.drop k)) ∧ Below W.heap.size W w') := fun w2 u h1 h2 => by
    obtain ⟨u', w', e1, e2, e3⟩ := run_app h1 (LV.sliced (RI.below HR.out h2).lv HK.out) (by have := HL.out; simp; omega) h2.size
    have h4 : Below W.heap.size W w' := h2.trans (grown_below h1 e3 h2.size)
    rw [List.append_assoc, List.singleton_append] at e2
    obtain ⟨a', c', rfl, h5⟩ := ri_of e2 (RI.below HR.out h4).blk hrl
    have hle : (L.take k ++ p :: L.drop k).length = L.length + 1 := by have : k ≤ L.length := HK.out; simp; omega
    rw [← HN.out]
    exact ⟨_, w', e1, ⟨a', c', by rw [hle], (RI.below HR.out h4).blk.frozen 0, h5⟩, h4⟩
  have HS : Hid (∀ W', Below W.heap.size W W' → W'.cell? ⟨r, 0, none⟩ = some (.slice a N c)) := fun W' h => by rw [← HN.out]; exact (RI.below HR.out h).blk.cell 0
  clear hr hl hQ hN
  refine wp_region_noPanic ?_
  refine wp_region_L (fun W' => W'.cell? ⟨r, 0, none⟩ = some (.slice a N c)) 23 (by kernel_rfl) ?_
  have B0 : Below W.heap.size W W.drew := (Below.refl _ _).drew
  have S0 := HS.out _ B0
  refine wpAnyL_take 0 (some 19) (.pointer (some ⟨r, 0, none⟩)) rfl rfl (by kernel_rfl) (by kernel_rfl) (by kernel_rfl) (by kernel_rfl) (fun _ _ _ h => h) (Or.inl ⟨by rfl, fun w' hw' => by go_simp⟩) S0 ?_
  simp only [Act.put, List.setIfInBounds_toArray, List.set_cons_zero, List.set_cons_succ]
  refine wpAnyL_take 2 (some 21) (.pointer (some ⟨r, 0, none⟩)) rfl rfl (by kernel_rfl) (by kernel_rfl) (by kernel_rfl) (by kernel_rfl) (fun _ _ _ h => h) (Or.inl ⟨by rfl, fun w' hw' => by go_simp⟩) S0 ?_
  simp only [Act.put, List.setIfInBounds_toArray, List.set_cons_zero, List.set_cons_succ]
  refine wpAnyL_take 3 (some 22) (.pointer (some ⟨r, 0, none⟩)) rfl rfl (by kernel_rfl) (by kernel_rfl) (by kernel_rfl) (by kernel_rfl) (fun _ _ _ h => h) (Or.inl ⟨by rfl, fun w' hw' => by go_simp⟩) S0 ?_
  simp only [Act.put, List.setIfInBounds_toArray, List.set_cons_zero, List.set_cons_succ]
  refine wpAnyL_take 4 (some 23) (.pointer (some ⟨r, 0, none⟩)) rfl rfl (by kernel_rfl) (by kernel_rfl) (by kernel_rfl) (by kernel_rfl) (fun _ _ _ h => h) (Or.inl ⟨by rfl, fun w' hw' => by go_simp⟩) S0 ?_
  simp only [Act.put, List.setIfInBounds_toArray, List.set_cons_zero, List.set_cons_succ]
  refine wpAnyL_take 5 (some 24) (.slice a N c) rfl rfl (by kernel_rfl) (by kernel_rfl) (by kernel_rfl) (by kernel_rfl) (fun _ _ _ h => h) (Or.inl ⟨by rfl, fun w' hw' => by go_simp⟩) S0 ?_
  simp only [Act.put, List.setIfInBounds_toArray, List.set_cons_zero, List.set_cons_succ]
  refine wpAnyL_take 6 (some 25) (.int .i64 (k : Int)) rfl rfl (by kernel_rfl) (by kernel_rfl) (by kernel_rfl) (by kernel_rfl) (fun _ _ _ h => h) (Or.inl ⟨by rfl, fun w' hw' => by go_simp⟩) S0 ?_
  simp only [Act.put, List.setIfInBounds_toArray, List.set_cons_zero, List.set_cons_succ]
  refine wpAnyL_take 7 (some 26) (.slice a k c) rfl rfl (by kernel_rfl) (by kernel_rfl) (by kernel_rfl) (by kernel_rfl) (fun _ _ _ h => h) (Or.inl ⟨by rfl, fun w' hw' => by go_simp⟩) S0 ?_
  simp only [Act.put, List.setIfInBounds_toArray, List.set_cons_zero, List.set_cons_succ]
  refine wpAnyL_take 9 (some 28) (.string p.1) rfl rfl (by kernel_rfl) (by kernel_rfl) (by kernel_rfl) (by kernel_rfl) (fun _ _ _ h => h) (Or.inl ⟨by rfl, fun w' hw' => by go_simp⟩) S0 ?_
  simp only [Act.put, List.setIfInBounds_toArray, List.set_cons_zero, List.set_cons_succ]
  refine wpAnyL_take 10 (some 29) (.string p.2) rfl rfl (by kernel_rfl) (by kernel_rfl) (by kernel_rfl) (by kernel_rfl) (fun _ _ _ h => h) (Or.inl ⟨by rfl, fun w' hw' => by go_simp⟩) S0 ?_
  simp only [Act.put, List.setIfInBounds_toArray, List.set_cons_zero, List.set_cons_succ]
  refine wpAnyL_take 11 (some 30) (.agg #[.string p.1, .string p.2]) rfl rfl (by kernel_rfl) (by kernel_rfl) (by kernel_rfl) (by kernel_rfl) (fun _ _ _ h => h) (Or.inl ⟨by rfl, fun w' hw' => by go_simp⟩) S0 ?_
  simp only [Act.put, List.setIfInBounds_toArray, List.set_cons_zero, List.set_cons_succ]
  refine wpAnyL_take 14 (some 33) (.pointer (some ⟨r, 0, none⟩)) rfl rfl (by kernel_rfl) (by kernel_rfl) (by kernel_rfl) (by kernel_rfl) (fun _ _ _ h => h) (Or.inl ⟨by rfl, fun w' hw' => by go_simp⟩) S0 ?_
  simp only [Act.put, List.setIfInBounds_toArray, List.set_cons_zero, List.set_cons_succ]
  refine wpAnyL_take 15 (some 34) (.pointer (some ⟨r, 0, none⟩)) rfl rfl (by kernel_rfl) (by kernel_rfl) (by kernel_rfl) (by kernel_rfl) (fun _ _ _ h => h) (Or.inl ⟨by rfl, fun w' hw' => by go_simp⟩) S0 ?_
  simp only [Act.put, List.setIfInBounds_toArray, List.set_cons_zero, List.set_cons_succ]
  refine wpAnyL_take 16 (some 35) (.pointer (some ⟨r, 0, none⟩)) rfl rfl (by kernel_rfl) (by kernel_rfl) (by kernel_rfl) (by kernel_rfl) (fun _ _ _ h => h) (Or.inl ⟨by rfl, fun w' hw' => by go_simp⟩) S0 ?_
  simp only [Act.put, List.setIfInBounds_toArray, List.set_cons_zero, List.set_cons_succ]
  refine wpAnyL_take 17 (some 36) (.slice a N c) rfl rfl (by kernel_rfl) (by kernel_rfl) (by kernel_rfl) (by kernel_rfl) (fun _ _ _ h => h) (Or.inl ⟨by rfl, fun w' hw' => by go_simp⟩) S0 ?_
  simp only [Act.put, List.setIfInBounds_toArray, List.set_cons_zero, List.set_cons_succ]
  refine wpAnyL_take 18 (some 37) (.int .i64 (k : Int)) rfl rfl (by kernel_rfl) (by kernel_rfl) (by kernel_rfl) (by kernel_rfl) (fun _ _ _ h => h) (Or.inl ⟨by rfl, fun w' hw' => by go_simp⟩) S0 ?_
  simp only [Act.put, List.setIfInBounds_toArray, List.set_cons_zero, List.set_cons_succ]
  refine wpAnyL_take 19 (some 38) (.slice (if c = k then a else Option.map (fun x => x.add (k * 2)) a) (N - k) (c - k)) rfl rfl (by kernel_rfl) (by kernel_rfl) (by kernel_rfl) (by kernel_rfl) (fun _ _ _ h => h) (Or.inl ⟨by rfl, fun w' hw' => by go_simp⟩) S0 ?_
  simp only [Act.put, List.setIfInBounds_toArray, List.set_cons_zero, List.set_cons_succ]
  clear S0
  refine wpAnyL_ready (rs := [1, 12]) (by kernel_rfl) (by simp) (AllReadyL.cons rfl (fun K hK => ?_) (AllReadyL.cons rfl (fun K hK => ?_) AllReadyL.nil))
  · refine step_b0 rfl (some 20) rfl 37 33 rfl _ 2 Try.underlying37 info33' ?_
    intro g20 w1 hg1 hl1 hb1
    have B1 := bmore B0 hb1
    have hg20 : W.heap.size ≤ g20 := Nat.le_trans (Below.size B0) hg1
    refine hK.out _ _ (fun _ => HS.out _ B1) ?_
    clear hK K
    try simp only [Act.put, List.setIfInBounds_toArray, List.set_cons_zero, List.set_cons_succ]
    refine wpAnyL_ready (rs := [8, 12]) (by kernel_rfl) (by simp) (AllReadyL.cons rfl (fun K hK => ?_) (AllReadyL.cons rfl (fun K hK => ?_) AllReadyL.nil))
    · refine step_append_d rfl (some 27) rfl (.tmp 20) (.tmp 26) 37 rfl rfl _ _ rfl rfl (H27.out _ _ B1 hg20 hl1) ?_
      rintro v27 w2 ⟨U2, B2, X2⟩
      refine hK.out _ _ (fun _ => HS.out _ B2) ?_
      clear hK K
      try simp only [Act.put, List.setIfInBounds_toArray, List.set_cons_zero, List.set_cons_succ]
      refine wpAnyL_ready (rs := [12]) (by kernel_rfl) (by simp) (AllReadyL.cons rfl (fun K hK => ?_) AllReadyL.nil)
      · refine step_b1 rfl (some 31) rfl 37 33 (.tmp 30) rfl (.agg #[.string p.1, .string p.2]) rfl [.string p.1, .string p.2] (b1run p) ?_
        intro g31 w3 hg3 hb3 k3
        have B3 := bmore B2 hb3
        have U3 := RU.below U2 hb3
        refine hK.out _ _ (fun _ => HS.out _ B3) ?_
        clear hK K
        try simp only [Act.put, List.setIfInBounds_toArray, List.set_cons_zero, List.set_cons_succ]
        refine wpAnyL_ready (rs := [13]) (by kernel_rfl) (by simp) (AllReadyL.cons rfl (fun K hK => ?_) AllReadyL.nil)
        · refine step_append_d rfl (some 32) rfl (.tmp 27) (.tmp 31) 37 rfl rfl _ _ rfl rfl (H32.out _ _ _ U3 B3 k3) ?_
          rintro v32 w4 ⟨U4, B4⟩
          refine hK.out _ _ (fun _ => HS.out _ B4) ?_
          clear hK K
          try simp only [Act.put, List.setIfInBounds_toArray, List.set_cons_zero, List.set_cons_succ]
          refine wpAnyL_ready (rs := [20]) (by kernel_rfl) (by simp) (AllReadyL.cons rfl (fun K hK => ?_) AllReadyL.nil)
          · refine step_append_d rfl (some 39) rfl (.tmp 32) (.tmp 38) 37 rfl rfl _ _ rfl rfl (H39.out _ _ U4 B4) ?_
            rintro v39 w5 ⟨I5, B5⟩
            refine hK.out _ _ (fun _ => HS.out _ B5) ?_
            clear hK K
            try simp only [Act.put, List.setIfInBounds_toArray, List.set_cons_zero, List.set_cons_succ]
            refine wpAnyL_ready (rs := [21]) (by kernel_rfl) (by simp) (AllReadyL.cons rfl (fun K hK => ?_) AllReadyL.nil)
            go_simp
            refine hK.out _ _ (fun _ => HS.out _ B5) ?_
            clear hK K
            try simp only [Act.put, List.setIfInBounds_toArray, List.set_cons_zero, List.set_cons_succ]
            refine wpAnyL_take 22 (some 41) (.pointer (some ⟨r, 0, none⟩)) rfl rfl (by kernel_rfl) (by kernel_rfl) (by kernel_rfl) (by kernel_rfl) (fun _ _ _ h => h) (Or.inl ⟨by rfl, fun w' hw' => by go_simp⟩) (HS.out _ B5) ?_
            simp only [Act.put, List.setIfInBounds_toArray, List.set_cons_zero, List.set_cons_succ]
            refine wpAnyL_ready (rs := [23]) (by kernel_rfl) (by simp) (AllReadyL.cons rfl (fun K hK => ?_) AllReadyL.nil)
            obtain ⟨a7, c7, rfl, f7, I7⟩ := I5
            have x7 := HS.out _ B5
            have l7 := Nat.lt_of_lt_of_le hrl (Below.size B5)
            have HI7 : Hid _ := I7
            clear I7
            go_simp
            refine hK.out _ _ (fun h => absurd rfl h) ?_
            clear hK K
            try simp only [Act.put, List.setIfInBounds_toArray, List.set_cons_zero, List.set_cons_succ]
            refine wpAnyL_done (by kernel_rfl) ?_ _
            have q := HQ.out
            rw [HN.out] at q
            exact NoPanic.normal (q _ _ _ _ _ _ _ _ ⟨_, _, HI7.out⟩ (Keep.set (F := fun k => k = r) (Keep.of B5) (.inr rfl) _))
    · refine step_b1 rfl (some 31) rfl 37 33 (.tmp 30) rfl (.agg #[.string p.1, .string p.2]) rfl [.string p.1, .string p.2] (b1run p) ?_
      intro g31 w6 hg6 hb6 k6
      have B6 := bmore B1 hb6
      have hl6 := Nat.lt_of_lt_of_le hl1 (Below.size hb6)
      have hne : g31 ≠ g20 := Nat.ne_of_gt (Nat.lt_of_lt_of_le hl1 hg6)
      refine hK.out _ _ (fun _ => HS.out _ B6) ?_
      clear hK K
      try simp only [Act.put, List.setIfInBounds_toArray, List.set_cons_zero, List.set_cons_succ]
      refine wpAnyL_ready (rs := [8]) (by kernel_rfl) (by simp) (AllReadyL.cons rfl (fun K hK => ?_) AllReadyL.nil)
      · refine step_append_d rfl (some 27) rfl (.tmp 20) (.tmp 26) 37 rfl rfl _ _ rfl rfl (H27.out _ _ B6 hg20 hl6) ?_
        rintro v27 w7 ⟨U7, B7, X7⟩
        have k7 := X7 g31 hne k6
        refine hK.out _ _ (fun _ => HS.out _ B7) ?_
        clear hK K
        try simp only [Act.put, List.setIfInBounds_toArray, List.set_cons_zero, List.set_cons_succ]
        refine wpAnyL_ready (rs := [13]) (by kernel_rfl) (by simp) (AllReadyL.cons rfl (fun K hK => ?_) AllReadyL.nil)
        · refine step_append_d rfl (some 32) rfl (.tmp 27) (.tmp 31) 37 rfl rfl _ _ rfl rfl (H32.out _ _ _ U7 B7 k7) ?_
          rintro v32 w8 ⟨U8, B8⟩
          refine hK.out _ _ (fun _ => HS.out _ B8) ?_
          clear hK K
          try simp only [Act.put, List.setIfInBounds_toArray, List.set_cons_zero, List.set_cons_succ]
          refine wpAnyL_ready (rs := [20]) (by kernel_rfl) (by simp) (AllReadyL.cons rfl (fun K hK => ?_) AllReadyL.nil)
          · refine step_append_d rfl (some 39) rfl (.tmp 32) (.tmp 38) 37 rfl rfl _ _ rfl rfl (H39.out _ _ U8 B8) ?_
            rintro v39 w9 ⟨I9, B9⟩
            refine hK.out _ _ (fun _ => HS.out _ B9) ?_
            clear hK K
            try simp only [Act.put, List.setIfInBounds_toArray, List.set_cons_zero, List.set_cons_succ]
            refine wpAnyL_ready (rs := [21]) (by kernel_rfl) (by simp) (AllReadyL.cons rfl (fun K hK => ?_) AllReadyL.nil)
            go_simp
            refine hK.out _ _ (fun _ => HS.out _ B9) ?_
            clear hK K
            try simp only [Act.put, List.setIfInBounds_toArray, List.set_cons_zero, List.set_cons_succ]
            refine wpAnyL_take 22 (some 41) (.pointer (some ⟨r, 0, none⟩)) rfl rfl (by kernel_rfl) (by kernel_rfl) (by kernel_rfl) (by kernel_rfl) (fun _ _ _ h => h) (Or.inl ⟨by rfl, fun w' hw' => by go_simp⟩) (HS.out _ B9) ?_
            simp only [Act.put, List.setIfInBounds_toArray, List.set_cons_zero, List.set_cons_succ]
            refine wpAnyL_ready (rs := [23]) (by kernel_rfl) (by simp) (AllReadyL.cons rfl (fun K hK => ?_) AllReadyL.nil)
            obtain ⟨a7, c7, rfl, f7, I7⟩ := I9
            have x7 := HS.out _ B9
            have l7 := Nat.lt_of_lt_of_le hrl (Below.size B9)
            have HI7 : Hid _ := I7
            clear I7
            go_simp
            refine hK.out _ _ (fun h => absurd rfl h) ?_
            clear hK K
            try simp only [Act.put, List.setIfInBounds_toArray, List.set_cons_zero, List.set_cons_succ]
            refine wpAnyL_done (by kernel_rfl) ?_ _
            have q := HQ.out
            rw [HN.out] at q
            exact NoPanic.normal (q _ _ _ _ _ _ _ _ ⟨_, _, HI7.out⟩ (Keep.set (F := fun k => k = r) (Keep.of B9) (.inr rfl) _))
  · refine step_b1 rfl (some 31) rfl 37 33 (.tmp 30) rfl (.agg #[.string p.1, .string p.2]) rfl [.string p.1, .string p.2] (b1run p) ?_
    intro g31 w10 hg10 hb10 k10
    have B10 := bmore B0 hb10
    refine hK.out _ _ (fun _ => HS.out _ B10) ?_
    clear hK K
    try simp only [Act.put, List.setIfInBounds_toArray, List.set_cons_zero, List.set_cons_succ]
    refine wpAnyL_ready (rs := [1]) (by kernel_rfl) (by simp) (AllReadyL.cons rfl (fun K hK => ?_) AllReadyL.nil)
    · refine step_b0 rfl (some 20) rfl 37 33 rfl _ 2 Try.underlying37 info33' ?_
      intro g20 w11 hg11 hl11 hb11
      have B11 := bmore B10 hb11
      have hg20 : W.heap.size ≤ g20 := Nat.le_trans (Below.size B10) hg11
      have k11 := Blk.below k10 hb11
      have hne : g31 ≠ g20 := Nat.ne_of_lt (Nat.lt_of_lt_of_le (Blk.lt k10) hg11)
      refine hK.out _ _ (fun _ => HS.out _ B11) ?_
      clear hK K
      try simp only [Act.put, List.setIfInBounds_toArray, List.set_cons_zero, List.set_cons_succ]
      refine wpAnyL_ready (rs := [8]) (by kernel_rfl) (by simp) (AllReadyL.cons rfl (fun K hK => ?_) AllReadyL.nil)
      · refine step_append_d rfl (some 27) rfl (.tmp 20) (.tmp 26) 37 rfl rfl _ _ rfl rfl (H27.out _ _ B11 hg20 hl11) ?_
        rintro v27 w12 ⟨U12, B12, X12⟩
        have k12 := X12 g31 hne k11
        refine hK.out _ _ (fun _ => HS.out _ B12) ?_
        clear hK K
        try simp only [Act.put, List.setIfInBounds_toArray, List.set_cons_zero, List.set_cons_succ]
        refine wpAnyL_ready (rs := [13]) (by kernel_rfl) (by simp) (AllReadyL.cons rfl (fun K hK => ?_) AllReadyL.nil)
        · refine step_append_d rfl (some 32) rfl (.tmp 27) (.tmp 31) 37 rfl rfl _ _ rfl rfl (H32.out _ _ _ U12 B12 k12) ?_
          rintro v32 w13 ⟨U13, B13⟩
          refine hK.out _ _ (fun _ => HS.out _ B13) ?_
          clear hK K
          try simp only [Act.put, List.setIfInBounds_toArray, List.set_cons_zero, List.set_cons_succ]
          refine wpAnyL_ready (rs := [20]) (by kernel_rfl) (by simp) (AllReadyL.cons rfl (fun K hK => ?_) AllReadyL.nil)
          · refine step_append_d rfl (some 39) rfl (.tmp 32) (.tmp 38) 37 rfl rfl _ _ rfl rfl (H39.out _ _ U13 B13) ?_
            rintro v39 w14 ⟨I14, B14⟩
            refine hK.out _ _ (fun _ => HS.out _ B14) ?_
            clear hK K
            try simp only [Act.put, List.setIfInBounds_toArray, List.set_cons_zero, List.set_cons_succ]
            refine wpAnyL_ready (rs := [21]) (by kernel_rfl) (by simp) (AllReadyL.cons rfl (fun K hK => ?_) AllReadyL.nil)
            go_simp
            refine hK.out _ _ (fun _ => HS.out _ B14) ?_
            clear hK K
            try simp only [Act.put, List.setIfInBounds_toArray, List.set_cons_zero, List.set_cons_succ]
            refine wpAnyL_take 22 (some 41) (.pointer (some ⟨r, 0, none⟩)) rfl rfl (by kernel_rfl) (by kernel_rfl) (by kernel_rfl) (by kernel_rfl) (fun _ _ _ h => h) (Or.inl ⟨by rfl, fun w' hw' => by go_simp⟩) (HS.out _ B14) ?_
            simp only [Act.put, List.setIfInBounds_toArray, List.set_cons_zero, List.set_cons_succ]
            refine wpAnyL_ready (rs := [23]) (by kernel_rfl) (by simp) (AllReadyL.cons rfl (fun K hK => ?_) AllReadyL.nil)
            obtain ⟨a7, c7, rfl, f7, I7⟩ := I14
            have x7 := HS.out _ B14
            have l7 := Nat.lt_of_lt_of_le hrl (Below.size B14)
            have HI7 : Hid _ := I7
            clear I7
            go_simp
            refine hK.out _ _ (fun h => absurd rfl h) ?_
            clear hK K
            try simp only [Act.put, List.setIfInBounds_toArray, List.set_cons_zero, List.set_cons_succ]
            refine wpAnyL_done (by kernel_rfl) ?_ _
            have q := HQ.out
            rw [HN.out] at q
            exact NoPanic.normal (q _ _ _ _ _ _ _ _ ⟨_, _, HI7.out⟩ (Keep.set (F := fun k => k = r) (Keep.of B14) (.inr rfl) _))
end Go.Proofs.Ytgimjjlkniplnaa
