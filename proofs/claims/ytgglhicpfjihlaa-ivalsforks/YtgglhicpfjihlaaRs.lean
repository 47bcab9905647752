/- The document's Add: where an item is laid in. -/
import Derived.Test.YtgglhicpfjihlaaLh
namespace Go.Proofs.Ytgglhicpfjihlaa
open Go.RowKit Go.Shelf
set_option maxRecDepth 100000
theorem info74' : (Try.prog.info? 74).map (fun i => (i.zero, i.size)) = some (some (.agg #[.int .i64 0, .int .i64 0, .int .i64 0]), 3) := by kernel_rfl
set_option maxHeartbeats 4000000 in
theorem reg11 {r ib k : Nat} {a : Option Addr} {c : Nat} {L : List St} {s : St} {u1 u2 u3 u4 u5 u6 u9 u10 u11 u12 u13 u14 u15 u16 u17 u18 u19 u20 u21 u22 u23 u24 u25 u26 u27 u28 u29 u30 u31 u32 u33 u34 u35 u36 u37 u38 u39 u40 u41 u42 u43 u44 u45 u46 u47 : Value} {W : World} {Q : Exit → Act → World → Prop}
    (hr : RI W r a c L) (hi : Blk W ib (cellI s) 74) (hk : k ≤ L.length) (hl : L.length ≤ 1000)
    (hQ : ∀ v49 v55 v56 v58 v59 v65 v66 w', (∃ a' c', RI w' r a' c' (L.take k ++ s :: L.drop k)) → Keep (fun k => k = r) W w' → Q .normal { tmps := #[.pointer (some ⟨r, 0, none⟩), u1, u2, u3, u4, u5, u6, .pointer (some ⟨ib, 0, none⟩), .int .i64 (k : Int), u9, u10, u11, u12, u13, u14, u15, u16, u17, u18, u19, u20, u21, u22, u23, u24, u25, u26, u27, u28, u29, u30, u31, u32, u33, u34, u35, u36, u37, u38, u39, u40, u41, u42, u43, u44, u45, u46, u47, .pointer (some ⟨r, 0, none⟩), v49, .pointer (some ⟨r, 0, none⟩), .pointer (some ⟨r, 0, none⟩), .pointer (some ⟨r, 0, none⟩), .slice a L.length c, .int .i64 (k : Int), v55, v56, SV s, v58, v59, .pointer (some ⟨r, 0, none⟩), .pointer (some ⟨r, 0, none⟩), .pointer (some ⟨r, 0, none⟩), .slice a L.length c, .int .i64 (k : Int), v65, v66, .pointer (some ⟨r, 0, none⟩), .pointer (some ⟨r, 0, none⟩)], defers := [] } w') :
    Code.wp Try.prog (Code.region 11 #[{ dst := some 48, op := Go.Op.move (Go.Operand.tmp 0), type := 26, pos := "ref.go:54", after := #[], guard := none }, { dst := some 49, op := Go.Op.buildSlice 59 0 #[], type := 59, pos := "ref.go:54", after := #[], guard := none }, { dst := some 50, op := Go.Op.move (Go.Operand.tmp 0), type := 26, pos := "ref.go:54", after := #[], guard := none }, { dst := some 51, op := Go.Op.nilCheck (Go.Operand.tmp 50), type := 0, pos := "ref.go:54", after := #[{ on := 2, ground := Go.Ground.data }], guard := none }, { dst := some 52, op := Go.Op.fieldAddr 61 (Go.Operand.tmp 51) 0, type := 0, pos := "ref.go:54", after := #[{ on := 3, ground := Go.Ground.data }], guard := none }, { dst := some 53, op := Go.Op.load 59 (Go.Operand.tmp 52), type := 59, pos := "ref.go:54", after := #[{ on := 4, ground := Go.Ground.data }], guard := none }, { dst := some 54, op := Go.Op.move (Go.Operand.tmp 8), type := 3, pos := "ref.go:54", after := #[], guard := none }, { dst := some 55, op := Go.Op.slice 59 (Go.Operand.tmp 53) none (some (Go.Operand.tmp 54)) none, type := 59, pos := "ref.go:54", after := #[{ on := 5, ground := Go.Ground.data }, { on := 6, ground := Go.Ground.data }], guard := none }, { dst := some 56, op := Go.Op.call { callee := Go.Callee.builtin Go.Builtin.append, args := #[Go.Operand.tmp 49, Go.Operand.tmp 55], argTypes := #[59, 59] }, type := 59, pos := "ref.go:54", after := #[{ on := 1, ground := Go.Ground.data }, { on := 7, ground := Go.Ground.data }], guard := none }, { dst := some 57, op := Go.Op.load 74 (Go.Operand.tmp 7), type := 74, pos := "ref.go:54", after := #[], guard := none }, { dst := some 58, op := Go.Op.buildSlice 59 1 #[(0, Go.Operand.tmp 57)], type := 59, pos := "ref.go:54", after := #[{ on := 9, ground := Go.Ground.data }], guard := none }, { dst := some 59, op := Go.Op.call { callee := Go.Callee.builtin Go.Builtin.append, args := #[Go.Operand.tmp 56, Go.Operand.tmp 58], argTypes := #[59, 59] }, type := 59, pos := "ref.go:54", after := #[{ on := 8, ground := Go.Ground.data }, { on := 10, ground := Go.Ground.data }, { on := 8, ground := Go.Ground.chain }], guard := none }, { dst := some 60, op := Go.Op.move (Go.Operand.tmp 0), type := 26, pos := "ref.go:54", after := #[], guard := none }, { dst := some 61, op := Go.Op.nilCheck (Go.Operand.tmp 60), type := 0, pos := "ref.go:54", after := #[{ on := 12, ground := Go.Ground.data }], guard := none }, { dst := some 62, op := Go.Op.fieldAddr 61 (Go.Operand.tmp 61) 0, type := 0, pos := "ref.go:54", after := #[{ on := 13, ground := Go.Ground.data }], guard := none }, { dst := some 63, op := Go.Op.load 59 (Go.Operand.tmp 62), type := 59, pos := "ref.go:54", after := #[{ on := 14, ground := Go.Ground.data }], guard := none }, { dst := some 64, op := Go.Op.move (Go.Operand.tmp 8), type := 3, pos := "ref.go:54", after := #[], guard := none }, { dst := some 65, op := Go.Op.slice 59 (Go.Operand.tmp 63) (some (Go.Operand.tmp 64)) none none, type := 59, pos := "ref.go:54", after := #[{ on := 15, ground := Go.Ground.data }, { on := 16, ground := Go.Ground.data }], guard := none }, { dst := some 66, op := Go.Op.call { callee := Go.Callee.builtin Go.Builtin.append, args := #[Go.Operand.tmp 59, Go.Operand.tmp 65], argTypes := #[59, 59] }, type := 59, pos := "ref.go:54", after := #[{ on := 11, ground := Go.Ground.data }, { on := 17, ground := Go.Ground.data }, { on := 11, ground := Go.Ground.chain }], guard := none }, { dst := some 67, op := Go.Op.nilCheck (Go.Operand.tmp 48), type := 0, pos := "ref.go:54", after := #[{ on := 0, ground := Go.Ground.data }, { on := 0, ground := Go.Ground.phase }, { on := 1, ground := Go.Ground.phase }, { on := 2, ground := Go.Ground.phase }, { on := 3, ground := Go.Ground.phase }, { on := 4, ground := Go.Ground.phase }, { on := 5, ground := Go.Ground.phase }, { on := 6, ground := Go.Ground.phase }, { on := 7, ground := Go.Ground.phase }, { on := 8, ground := Go.Ground.phase }, { on := 9, ground := Go.Ground.phase }, { on := 10, ground := Go.Ground.phase }, { on := 11, ground := Go.Ground.phase }, { on := 12, ground := Go.Ground.phase }, { on := 13, ground := Go.Ground.phase }, { on := 14, ground := Go.Ground.phase }, { on := 15, ground := Go.Ground.phase }, { on := 16, ground := Go.Ground.phase }, { on := 17, ground := Go.Ground.phase }, { on := 18, ground := Go.Ground.phase }], guard := none }, { dst := some 68, op := Go.Op.fieldAddr 61 (Go.Operand.tmp 67) 0, type := 0, pos := "ref.go:54", after := #[{ on := 19, ground := Go.Ground.data }, { on := 0, ground := Go.Ground.phase }, { on := 1, ground := Go.Ground.phase }, { on := 2, ground := Go.Ground.phase }, { on := 3, ground := Go.Ground.phase }, { on := 4, ground := Go.Ground.phase }, { on := 5, ground := Go.Ground.phase }, { on := 6, ground := Go.Ground.phase }, { on := 7, ground := Go.Ground.phase }, { on := 8, ground := Go.Ground.phase }, { on := 9, ground := Go.Ground.phase }, { on := 10, ground := Go.Ground.phase }, { on := 11, ground := Go.Ground.phase }, { on := 12, ground := Go.Ground.phase }, { on := 13, ground := Go.Ground.phase }, { on := 14, ground := Go.Ground.phase }, { on := 15, ground := Go.Ground.phase }, { on := 16, ground := Go.Ground.phase }, { on := 17, ground := Go.Ground.phase }, { on := 18, ground := Go.Ground.phase }], guard := none }, { dst := none, op := Go.Op.store 59 (Go.Operand.tmp 68) (Go.Operand.tmp 66), type := 0, pos := "ref.go:54", after := #[{ on := 20, ground := Go.Ground.data }, { on := 18, ground := Go.Ground.data }, { on := 18, ground := Go.Ground.chain }, { on := 0, ground := Go.Ground.phase }, { on := 1, ground := Go.Ground.phase }, { on := 2, ground := Go.Ground.phase }, { on := 3, ground := Go.Ground.phase }, { on := 4, ground := Go.Ground.phase }, { on := 5, ground := Go.Ground.phase }, { on := 6, ground := Go.Ground.phase }, { on := 7, ground := Go.Ground.phase }, { on := 8, ground := Go.Ground.phase }, { on := 9, ground := Go.Ground.phase }, { on := 10, ground := Go.Ground.phase }, { on := 11, ground := Go.Ground.phase }, { on := 12, ground := Go.Ground.phase }, { on := 13, ground := Go.Ground.phase }, { on := 14, ground := Go.Ground.phase }, { on := 15, ground := Go.Ground.phase }, { on := 16, ground := Go.Ground.phase }, { on := 17, ground := Go.Ground.phase }, { on := 18, ground := Go.Ground.phase }], guard := none }] true) Q { tmps := #[.pointer (some ⟨r, 0, none⟩), u1, u2, u3, u4, u5, u6, .pointer (some ⟨ib, 0, none⟩), .int .i64 (k : Int), u9, u10, u11, u12, u13, u14, u15, u16, u17, u18, u19, u20, u21, u22, u23, u24, u25, u26, u27, u28, u29, u30, u31, u32, u33, u34, u35, u36, u37, u38, u39, u40, u41, u42, u43, u44, u45, u46, u47, undef, undef, undef, undef, undef, undef, undef, undef, undef, undef, undef, undef, undef, undef, undef, undef, undef, undef, undef, undef, undef], defers := [] } W := by
  obtain ⟨N, hN⟩ : ∃ N, L.length = N := ⟨_, rfl⟩
  have hcap := hr.cap
  have hrl := hr.blk.lt
  have hil := hi.lt
  have hne : r ≠ ib := by
    rintro rfl
    have := hr.blk.symm.trans hi
    simp [cellI] at this
  have HR : Hid (RI W r a c L) := hr
  have HI : Hid (Blk W ib (cellI s) 74) := hi
  have HL : Hid _ := hl
  have HQ : Hid _ := hQ
  have HN : Hid _ := hN
  have HK : Hid (k ≤ L.length) := hk
  have HC : Hid (L.length ≤ c) := hcap
  rw [hN] at hk hcap
  have g1 : (k : Int) ≤ (c : Int) := by omega
  have g2 : (k : Int) ≤ (N : Int) := by omega
  have g3 : (0 : Int) ≤ (k : Int) := by omega
  have HF : Hid (∀ W', Below W.heap.size W W' → W'.cell? ⟨ib, 0, none⟩ = some (.int .i64 s.f) ∧ W'.cell? ⟨ib, 1, none⟩ = some (.int .i64 s.t) ∧ W'.cell? ⟨ib, 2, none⟩ = some (.int .i64 s.i)) := fun W' h => ⟨(Blk.below HI.out h).cell 0, (Blk.below HI.out h).cell 1, (Blk.below HI.out h).cell 2⟩
  have HX : Hid (∀ W', Below W.heap.size W W' → W'.cell? ⟨r, 0, none⟩ = some (.slice a N c) ∧ r < W'.heap.size) := fun W' h => ⟨by rw [← HN.out]; exact (RI.below HR.out h).blk.cell 0, (RI.below HR.out h).blk.lt⟩
  have H56 : Hid (∀ w2 b, Below W.heap.size W w2 → W.heap.size ≤ b → b < w2.heap.size → ∃ u w', (Builtin.append_ #[59, 59] 59 #[.slice (some ⟨b, 0, none⟩) 0 0, .slice a k c]).run Try.prog w2 = .ok u w' ∧ RU W.heap.size w' u (L.take k) ∧ Below W.heap.size W w' ∧ (∀ e, e ≠ b → Blk w2 e (cellI s) 74 → Blk w' e (cellI s) 74)) := fun w2 b h1 h2 h3 => by
    have hU0 : RU W.heap.size w2 (.slice (some ⟨b, 0, none⟩) 0 0) [] := .inl ⟨rfl, _, rfl, h2, h3⟩
    obtain ⟨u, w', e1, e2, e3⟩ := run_appI hU0 ((RI.below HR.out h1).lv.take (k := k) HK.out c) (by have := HL.out; simp; omega) h1.size
    exact ⟨u, w', e1, by simpa using e2, h1.grown e3 h1.size (fun k hk => (hU0.at hk).1), fun e he hb => hb.block (e3.block e hb.lt (fun q => he (by simpa [Value.ownBlock] using q)))⟩
  have H59 : Hid (∀ w2 u e, RU W.heap.size w2 u (L.take k) → Below W.heap.size W w2 → Blk w2 e (cellI s) 74 → ∃ u' w', (Builtin.append_ #[59, 59] 59 #[u, .slice (some ⟨e, 0, none⟩) 1 1]).run Try.prog w2 = .ok u' w' ∧ RU W.heap.size w' u' (L.take k ++ [s]) ∧ Below W.heap.size W w') := fun w2 u e h1 h2 h3 => by
    have hV : LV w2 (.slice (some ⟨e, 0, none⟩) 1 1) [s] := ⟨_, 1, rfl, fun _ => ⟨e, 0, rfl, h3.lt, fun i s' hs => by
      cases i with
      | zero =>
        simp at hs
        subst hs
        exact ⟨h3.cell 0, h3.cell 1, h3.cell 2⟩
      | succ i => simp at hs⟩⟩
    obtain ⟨u', w', e1, e2, e3⟩ := run_appI h1 hV (by have := HL.out; simp; omega) h2.size
    exact ⟨u', w', e1, e2, h2.grown e3 h2.size (fun k hk => (h1.at hk).1)⟩
  have H66 : Hid (∀ w2 u, RU W.heap.size w2 u (L.take k ++ [s]) → Below W.heap.size W w2 → ∃ u' w', (Builtin.append_ #[59, 59] 59 #[u, .slice (if c = k then a else Option.map (fun x => x.add (k * 3)) a) (N - k) (c - k)]).run Try.prog w2 = .ok u' w' ∧ (∃ a' c', u' = .slice a' (L.length + 1) c' ∧ w'.frozen? ⟨r, 0, none⟩ = false ∧ RI (w'.setCell ⟨r, 0, none⟩ u') r a' c' (L.take k ++ s :: L.drop k)) ∧ Below W.heap.size W w') := fun w2 u h1 h2 => by
    obtain ⟨u', w', e1, e2, e3⟩ := run_appI h1 (LV.sliced (RI.below HR.out h2).lv HK.out HC.out) (by have := HL.out; simp; omega) h2.size
    have h4 : Below W.heap.size W w' := h2.grown e3 h2.size (fun k hk => (h1.at hk).1)
    rw [List.append_assoc, List.singleton_append] at e2
    obtain ⟨a', c', rfl, h5⟩ := ri_of e2 (RI.below HR.out h4).blk hrl
    have hle : (L.take k ++ s :: L.drop k).length = L.length + 1 := by have : k ≤ L.length := HK.out; simp; omega
    rw [← HN.out]
    exact ⟨_, w', e1, ⟨a', c', by rw [hle], (RI.below HR.out h4).blk.frozen 0, h5⟩, h4⟩
  have HS : Hid (∀ W', Below W.heap.size W W' → W'.cell? ⟨r, 0, none⟩ = some (.slice a N c) ∧ W'.cell? ⟨ib, 0, none⟩ = some (.int .i64 s.f) ∧ W'.cell? ⟨ib, 1, none⟩ = some (.int .i64 s.t) ∧ W'.cell? ⟨ib, 2, none⟩ = some (.int .i64 s.i)) := fun W' h => ⟨(HX.out W' h).1, HF.out W' h⟩
  clear hr hi hl hQ hN
  refine wp_region_noPanic ?_
  refine wp_region_L (fun W' => W'.cell? ⟨r, 0, none⟩ = some (.slice a N c) ∧ W'.cell? ⟨ib, 0, none⟩ = some (.int .i64 s.f) ∧ W'.cell? ⟨ib, 1, none⟩ = some (.int .i64 s.t) ∧ W'.cell? ⟨ib, 2, none⟩ = some (.int .i64 s.i)) 21 (by kernel_rfl) ?_
  have B0 : Below W.heap.size W W.drew := (Below.refl _ _).drew
  have S0 := HS.out _ B0
  refine wpAnyL_take 0 (some 48) (.pointer (some ⟨r, 0, none⟩)) rfl rfl (by kernel_rfl) (by kernel_rfl) (by kernel_rfl) (by kernel_rfl) (fun _ _ _ h => h) (Or.inl ⟨by rfl, fun w' hw' => by obtain ⟨q0, q1, q2, q3⟩ := hw'; go_simp⟩) S0 ?_
  simp only [Act.put, List.setIfInBounds_toArray, List.set_cons_zero, List.set_cons_succ]
  refine wpAnyL_take 2 (some 50) (.pointer (some ⟨r, 0, none⟩)) rfl rfl (by kernel_rfl) (by kernel_rfl) (by kernel_rfl) (by kernel_rfl) (fun _ _ _ h => h) (Or.inl ⟨by rfl, fun w' hw' => by obtain ⟨q0, q1, q2, q3⟩ := hw'; go_simp⟩) S0 ?_
  simp only [Act.put, List.setIfInBounds_toArray, List.set_cons_zero, List.set_cons_succ]
  refine wpAnyL_take 3 (some 51) (.pointer (some ⟨r, 0, none⟩)) rfl rfl (by kernel_rfl) (by kernel_rfl) (by kernel_rfl) (by kernel_rfl) (fun _ _ _ h => h) (Or.inl ⟨by rfl, fun w' hw' => by obtain ⟨q0, q1, q2, q3⟩ := hw'; go_simp⟩) S0 ?_
  simp only [Act.put, List.setIfInBounds_toArray, List.set_cons_zero, List.set_cons_succ]
  refine wpAnyL_take 4 (some 52) (.pointer (some ⟨r, 0, none⟩)) rfl rfl (by kernel_rfl) (by kernel_rfl) (by kernel_rfl) (by kernel_rfl) (fun _ _ _ h => h) (Or.inl ⟨by rfl, fun w' hw' => by obtain ⟨q0, q1, q2, q3⟩ := hw'; go_simp⟩) S0 ?_
  simp only [Act.put, List.setIfInBounds_toArray, List.set_cons_zero, List.set_cons_succ]
  refine wpAnyL_take 5 (some 53) (.slice a N c) rfl rfl (by kernel_rfl) (by kernel_rfl) (by kernel_rfl) (by kernel_rfl) (fun _ _ _ h => h) (Or.inl ⟨by rfl, fun w' hw' => by obtain ⟨q0, q1, q2, q3⟩ := hw'; go_simp⟩) S0 ?_
  simp only [Act.put, List.setIfInBounds_toArray, List.set_cons_zero, List.set_cons_succ]
  refine wpAnyL_take 6 (some 54) (.int .i64 (k : Int)) rfl rfl (by kernel_rfl) (by kernel_rfl) (by kernel_rfl) (by kernel_rfl) (fun _ _ _ h => h) (Or.inl ⟨by rfl, fun w' hw' => by obtain ⟨q0, q1, q2, q3⟩ := hw'; go_simp⟩) S0 ?_
  simp only [Act.put, List.setIfInBounds_toArray, List.set_cons_zero, List.set_cons_succ]
  refine wpAnyL_take 7 (some 55) (.slice a k c) rfl rfl (by kernel_rfl) (by kernel_rfl) (by kernel_rfl) (by kernel_rfl) (fun _ _ _ h => h) (Or.inl ⟨by rfl, fun w' hw' => by obtain ⟨q0, q1, q2, q3⟩ := hw'; go_simp⟩) S0 ?_
  simp only [Act.put, List.setIfInBounds_toArray, List.set_cons_zero, List.set_cons_succ]
  refine wpAnyL_take 9 (some 57) (SV s) rfl rfl (by kernel_rfl) (by kernel_rfl) (by kernel_rfl) (by kernel_rfl) (fun _ _ _ h => h) (Or.inl ⟨by rfl, fun w' hw' => by obtain ⟨q0, q1, q2, q3⟩ := hw'; go_simp⟩) S0 ?_
  simp only [Act.put, List.setIfInBounds_toArray, List.set_cons_zero, List.set_cons_succ]
  refine wpAnyL_take 12 (some 60) (.pointer (some ⟨r, 0, none⟩)) rfl rfl (by kernel_rfl) (by kernel_rfl) (by kernel_rfl) (by kernel_rfl) (fun _ _ _ h => h) (Or.inl ⟨by rfl, fun w' hw' => by obtain ⟨q0, q1, q2, q3⟩ := hw'; go_simp⟩) S0 ?_
  simp only [Act.put, List.setIfInBounds_toArray, List.set_cons_zero, List.set_cons_succ]
  refine wpAnyL_take 13 (some 61) (.pointer (some ⟨r, 0, none⟩)) rfl rfl (by kernel_rfl) (by kernel_rfl) (by kernel_rfl) (by kernel_rfl) (fun _ _ _ h => h) (Or.inl ⟨by rfl, fun w' hw' => by obtain ⟨q0, q1, q2, q3⟩ := hw'; go_simp⟩) S0 ?_
  simp only [Act.put, List.setIfInBounds_toArray, List.set_cons_zero, List.set_cons_succ]
  refine wpAnyL_take 14 (some 62) (.pointer (some ⟨r, 0, none⟩)) rfl rfl (by kernel_rfl) (by kernel_rfl) (by kernel_rfl) (by kernel_rfl) (fun _ _ _ h => h) (Or.inl ⟨by rfl, fun w' hw' => by obtain ⟨q0, q1, q2, q3⟩ := hw'; go_simp⟩) S0 ?_
  simp only [Act.put, List.setIfInBounds_toArray, List.set_cons_zero, List.set_cons_succ]
  refine wpAnyL_take 15 (some 63) (.slice a N c) rfl rfl (by kernel_rfl) (by kernel_rfl) (by kernel_rfl) (by kernel_rfl) (fun _ _ _ h => h) (Or.inl ⟨by rfl, fun w' hw' => by obtain ⟨q0, q1, q2, q3⟩ := hw'; go_simp⟩) S0 ?_
  simp only [Act.put, List.setIfInBounds_toArray, List.set_cons_zero, List.set_cons_succ]
  refine wpAnyL_take 16 (some 64) (.int .i64 (k : Int)) rfl rfl (by kernel_rfl) (by kernel_rfl) (by kernel_rfl) (by kernel_rfl) (fun _ _ _ h => h) (Or.inl ⟨by rfl, fun w' hw' => by obtain ⟨q0, q1, q2, q3⟩ := hw'; go_simp⟩) S0 ?_
  simp only [Act.put, List.setIfInBounds_toArray, List.set_cons_zero, List.set_cons_succ]
  refine wpAnyL_take 17 (some 65) (.slice (if c = k then a else Option.map (fun x => x.add (k * 3)) a) (N - k) (c - k)) rfl rfl (by kernel_rfl) (by kernel_rfl) (by kernel_rfl) (by kernel_rfl) (fun _ _ _ h => h) (Or.inl ⟨by rfl, fun w' hw' => by obtain ⟨q0, q1, q2, q3⟩ := hw'; go_simp⟩) S0 ?_
  simp only [Act.put, List.setIfInBounds_toArray, List.set_cons_zero, List.set_cons_succ]
  clear S0
  refine wpAnyL_ready (rs := [1, 10]) (by kernel_rfl) (by simp) (AllReadyL.cons rfl (fun K hK => ?_) (AllReadyL.cons rfl (fun K hK => ?_) AllReadyL.nil))
  · refine step_b0 rfl (some 49) rfl 59 74 rfl _ 3 Try.underlying59 info74' ?_
    intro g49 w1 hg1 hl1 hb1
    have B1 := bmore B0 hb1
    have hg49 : W.heap.size ≤ g49 := Nat.le_trans (Below.size B0) hg1
    refine hK.out _ _ (fun _ => HS.out _ B1) ?_
    clear hK K
    try simp only [Act.put, List.setIfInBounds_toArray, List.set_cons_zero, List.set_cons_succ]
    refine wpAnyL_ready (rs := [8, 10]) (by kernel_rfl) (by simp) (AllReadyL.cons rfl (fun K hK => ?_) (AllReadyL.cons rfl (fun K hK => ?_) AllReadyL.nil))
    · refine step_append_d rfl (some 56) rfl (.tmp 49) (.tmp 55) 59 rfl rfl _ _ rfl rfl (H56.out _ _ B1 hg49 hl1) ?_
      rintro v56 w2 ⟨U2, B2, X2⟩
      refine hK.out _ _ (fun _ => HS.out _ B2) ?_
      clear hK K
      try simp only [Act.put, List.setIfInBounds_toArray, List.set_cons_zero, List.set_cons_succ]
      refine wpAnyL_ready (rs := [10]) (by kernel_rfl) (by simp) (AllReadyL.cons rfl (fun K hK => ?_) AllReadyL.nil)
      · refine step_b1 rfl (some 58) rfl 59 74 (.tmp 57) rfl (SV s) rfl (cellI s) (b1run s) ?_
        intro g58 w3 hg3 hb3 k3
        have B3 := bmore B2 hb3
        have U3 := RU.below U2 hb3
        refine hK.out _ _ (fun _ => HS.out _ B3) ?_
        clear hK K
        try simp only [Act.put, List.setIfInBounds_toArray, List.set_cons_zero, List.set_cons_succ]
        refine wpAnyL_ready (rs := [11]) (by kernel_rfl) (by simp) (AllReadyL.cons rfl (fun K hK => ?_) AllReadyL.nil)
        · refine step_append_d rfl (some 59) rfl (.tmp 56) (.tmp 58) 59 rfl rfl _ _ rfl rfl (H59.out _ _ _ U3 B3 k3) ?_
          rintro v59 w4 ⟨U4, B4⟩
          refine hK.out _ _ (fun _ => HS.out _ B4) ?_
          clear hK K
          try simp only [Act.put, List.setIfInBounds_toArray, List.set_cons_zero, List.set_cons_succ]
          refine wpAnyL_ready (rs := [18]) (by kernel_rfl) (by simp) (AllReadyL.cons rfl (fun K hK => ?_) AllReadyL.nil)
          · refine step_append_d rfl (some 66) rfl (.tmp 59) (.tmp 65) 59 rfl rfl _ _ rfl rfl (H66.out _ _ U4 B4) ?_
            rintro v66 w5 ⟨I5, B5⟩
            refine hK.out _ _ (fun _ => HS.out _ B5) ?_
            clear hK K
            try simp only [Act.put, List.setIfInBounds_toArray, List.set_cons_zero, List.set_cons_succ]
            refine wpAnyL_ready (rs := [19]) (by kernel_rfl) (by simp) (AllReadyL.cons rfl (fun K hK => ?_) AllReadyL.nil)
            go_simp
            refine hK.out _ _ (fun _ => HS.out _ B5) ?_
            clear hK K
            try simp only [Act.put, List.setIfInBounds_toArray, List.set_cons_zero, List.set_cons_succ]
            refine wpAnyL_take 20 (some 68) (.pointer (some ⟨r, 0, none⟩)) rfl rfl (by kernel_rfl) (by kernel_rfl) (by kernel_rfl) (by kernel_rfl) (fun _ _ _ h => h) (Or.inl ⟨by rfl, fun w' hw' => by obtain ⟨q0, q1, q2, q3⟩ := hw'; go_simp⟩) (HS.out _ B5) ?_
            simp only [Act.put, List.setIfInBounds_toArray, List.set_cons_zero, List.set_cons_succ]
            refine wpAnyL_ready (rs := [21]) (by kernel_rfl) (by simp) (AllReadyL.cons rfl (fun K hK => ?_) AllReadyL.nil)
            obtain ⟨a7, c7, rfl, f7, I7⟩ := I5
            have x7 := (HS.out _ B5).1
            have l7 := Nat.lt_of_lt_of_le hrl (Below.size B5)
            have HI7 : Hid _ := I7
            clear I7
            go_simp
            refine hK.out _ _ (fun h => absurd rfl h) ?_
            clear hK K
            try simp only [Act.put, List.setIfInBounds_toArray, List.set_cons_zero, List.set_cons_succ]
            refine wpAnyL_done (by kernel_rfl) ?_ _
            have q := HQ.out
            rw [HN.out] at q
            exact NoPanic.normal (q _ _ _ _ _ _ _ _ ⟨_, _, HI7.out⟩ (Keep.set (F := fun k => k = r) (Keep.of B5) (.inr rfl) _))
    · refine step_b1 rfl (some 58) rfl 59 74 (.tmp 57) rfl (SV s) rfl (cellI s) (b1run s) ?_
      intro g58 w6 hg6 hb6 k6
      have B6 := bmore B1 hb6
      have hl6 := Nat.lt_of_lt_of_le hl1 (Below.size hb6)
      have hne : g58 ≠ g49 := Nat.ne_of_gt (Nat.lt_of_lt_of_le hl1 hg6)
      refine hK.out _ _ (fun _ => HS.out _ B6) ?_
      clear hK K
      try simp only [Act.put, List.setIfInBounds_toArray, List.set_cons_zero, List.set_cons_succ]
      refine wpAnyL_ready (rs := [8]) (by kernel_rfl) (by simp) (AllReadyL.cons rfl (fun K hK => ?_) AllReadyL.nil)
      · refine step_append_d rfl (some 56) rfl (.tmp 49) (.tmp 55) 59 rfl rfl _ _ rfl rfl (H56.out _ _ B6 hg49 hl6) ?_
        rintro v56 w7 ⟨U7, B7, X7⟩
        have k7 := X7 g58 hne k6
        refine hK.out _ _ (fun _ => HS.out _ B7) ?_
        clear hK K
        try simp only [Act.put, List.setIfInBounds_toArray, List.set_cons_zero, List.set_cons_succ]
        refine wpAnyL_ready (rs := [11]) (by kernel_rfl) (by simp) (AllReadyL.cons rfl (fun K hK => ?_) AllReadyL.nil)
        · refine step_append_d rfl (some 59) rfl (.tmp 56) (.tmp 58) 59 rfl rfl _ _ rfl rfl (H59.out _ _ _ U7 B7 k7) ?_
          rintro v59 w8 ⟨U8, B8⟩
          refine hK.out _ _ (fun _ => HS.out _ B8) ?_
          clear hK K
          try simp only [Act.put, List.setIfInBounds_toArray, List.set_cons_zero, List.set_cons_succ]
          refine wpAnyL_ready (rs := [18]) (by kernel_rfl) (by simp) (AllReadyL.cons rfl (fun K hK => ?_) AllReadyL.nil)
          · refine step_append_d rfl (some 66) rfl (.tmp 59) (.tmp 65) 59 rfl rfl _ _ rfl rfl (H66.out _ _ U8 B8) ?_
            rintro v66 w9 ⟨I9, B9⟩
            refine hK.out _ _ (fun _ => HS.out _ B9) ?_
            clear hK K
            try simp only [Act.put, List.setIfInBounds_toArray, List.set_cons_zero, List.set_cons_succ]
            refine wpAnyL_ready (rs := [19]) (by kernel_rfl) (by simp) (AllReadyL.cons rfl (fun K hK => ?_) AllReadyL.nil)
            go_simp
            refine hK.out _ _ (fun _ => HS.out _ B9) ?_
            clear hK K
            try simp only [Act.put, List.setIfInBounds_toArray, List.set_cons_zero, List.set_cons_succ]
            refine wpAnyL_take 20 (some 68) (.pointer (some ⟨r, 0, none⟩)) rfl rfl (by kernel_rfl) (by kernel_rfl) (by kernel_rfl) (by kernel_rfl) (fun _ _ _ h => h) (Or.inl ⟨by rfl, fun w' hw' => by obtain ⟨q0, q1, q2, q3⟩ := hw'; go_simp⟩) (HS.out _ B9) ?_
            simp only [Act.put, List.setIfInBounds_toArray, List.set_cons_zero, List.set_cons_succ]
            refine wpAnyL_ready (rs := [21]) (by kernel_rfl) (by simp) (AllReadyL.cons rfl (fun K hK => ?_) AllReadyL.nil)
            obtain ⟨a7, c7, rfl, f7, I7⟩ := I9
            have x7 := (HS.out _ B9).1
            have l7 := Nat.lt_of_lt_of_le hrl (Below.size B9)
            have HI7 : Hid _ := I7
            clear I7
            go_simp
            refine hK.out _ _ (fun h => absurd rfl h) ?_
            clear hK K
            try simp only [Act.put, List.setIfInBounds_toArray, List.set_cons_zero, List.set_cons_succ]
            refine wpAnyL_done (by kernel_rfl) ?_ _
            have q := HQ.out
            rw [HN.out] at q
            exact NoPanic.normal (q _ _ _ _ _ _ _ _ ⟨_, _, HI7.out⟩ (Keep.set (F := fun k => k = r) (Keep.of B9) (.inr rfl) _))
  · refine step_b1 rfl (some 58) rfl 59 74 (.tmp 57) rfl (SV s) rfl (cellI s) (b1run s) ?_
    intro g58 w10 hg10 hb10 k10
    have B10 := bmore B0 hb10
    refine hK.out _ _ (fun _ => HS.out _ B10) ?_
    clear hK K
    try simp only [Act.put, List.setIfInBounds_toArray, List.set_cons_zero, List.set_cons_succ]
    refine wpAnyL_ready (rs := [1]) (by kernel_rfl) (by simp) (AllReadyL.cons rfl (fun K hK => ?_) AllReadyL.nil)
    · refine step_b0 rfl (some 49) rfl 59 74 rfl _ 3 Try.underlying59 info74' ?_
      intro g49 w11 hg11 hl11 hb11
      have B11 := bmore B10 hb11
      have hg49 : W.heap.size ≤ g49 := Nat.le_trans (Below.size B10) hg11
      have k11 := Blk.below k10 hb11
      have hne : g58 ≠ g49 := Nat.ne_of_lt (Nat.lt_of_lt_of_le (Blk.lt k10) hg11)
      refine hK.out _ _ (fun _ => HS.out _ B11) ?_
      clear hK K
      try simp only [Act.put, List.setIfInBounds_toArray, List.set_cons_zero, List.set_cons_succ]
      refine wpAnyL_ready (rs := [8]) (by kernel_rfl) (by simp) (AllReadyL.cons rfl (fun K hK => ?_) AllReadyL.nil)
      · refine step_append_d rfl (some 56) rfl (.tmp 49) (.tmp 55) 59 rfl rfl _ _ rfl rfl (H56.out _ _ B11 hg49 hl11) ?_
        rintro v56 w12 ⟨U12, B12, X12⟩
        have k12 := X12 g58 hne k11
        refine hK.out _ _ (fun _ => HS.out _ B12) ?_
        clear hK K
        try simp only [Act.put, List.setIfInBounds_toArray, List.set_cons_zero, List.set_cons_succ]
        refine wpAnyL_ready (rs := [11]) (by kernel_rfl) (by simp) (AllReadyL.cons rfl (fun K hK => ?_) AllReadyL.nil)
        · refine step_append_d rfl (some 59) rfl (.tmp 56) (.tmp 58) 59 rfl rfl _ _ rfl rfl (H59.out _ _ _ U12 B12 k12) ?_
          rintro v59 w13 ⟨U13, B13⟩
          refine hK.out _ _ (fun _ => HS.out _ B13) ?_
          clear hK K
          try simp only [Act.put, List.setIfInBounds_toArray, List.set_cons_zero, List.set_cons_succ]
          refine wpAnyL_ready (rs := [18]) (by kernel_rfl) (by simp) (AllReadyL.cons rfl (fun K hK => ?_) AllReadyL.nil)
          · refine step_append_d rfl (some 66) rfl (.tmp 59) (.tmp 65) 59 rfl rfl _ _ rfl rfl (H66.out _ _ U13 B13) ?_
            rintro v66 w14 ⟨I14, B14⟩
            refine hK.out _ _ (fun _ => HS.out _ B14) ?_
            clear hK K
            try simp only [Act.put, List.setIfInBounds_toArray, List.set_cons_zero, List.set_cons_succ]
            refine wpAnyL_ready (rs := [19]) (by kernel_rfl) (by simp) (AllReadyL.cons rfl (fun K hK => ?_) AllReadyL.nil)
            go_simp
            refine hK.out _ _ (fun _ => HS.out _ B14) ?_
            clear hK K
            try simp only [Act.put, List.setIfInBounds_toArray, List.set_cons_zero, List.set_cons_succ]
            refine wpAnyL_take 20 (some 68) (.pointer (some ⟨r, 0, none⟩)) rfl rfl (by kernel_rfl) (by kernel_rfl) (by kernel_rfl) (by kernel_rfl) (fun _ _ _ h => h) (Or.inl ⟨by rfl, fun w' hw' => by obtain ⟨q0, q1, q2, q3⟩ := hw'; go_simp⟩) (HS.out _ B14) ?_
            simp only [Act.put, List.setIfInBounds_toArray, List.set_cons_zero, List.set_cons_succ]
            refine wpAnyL_ready (rs := [21]) (by kernel_rfl) (by simp) (AllReadyL.cons rfl (fun K hK => ?_) AllReadyL.nil)
            obtain ⟨a7, c7, rfl, f7, I7⟩ := I14
            have x7 := (HS.out _ B14).1
            have l7 := Nat.lt_of_lt_of_le hrl (Below.size B14)
            have HI7 : Hid _ := I7
            clear I7
            go_simp
            refine hK.out _ _ (fun h => absurd rfl h) ?_
            clear hK K
            try simp only [Act.put, List.setIfInBounds_toArray, List.set_cons_zero, List.set_cons_succ]
            refine wpAnyL_done (by kernel_rfl) ?_ _
            have q := HQ.out
            rw [HN.out] at q
            exact NoPanic.normal (q _ _ _ _ _ _ _ _ ⟨_, _, HI7.out⟩ (Keep.set (F := fun k => k = r) (Keep.of B14) (.inr rfl) _))
end Go.Proofs.Ytgglhicpfjihlaa
