/- The document's Commit: a key more is done. -/
import Derived.Test.YtjgdcdeekpeenaaLh
namespace Go.Proofs.Ytjgdcdeekpeenaa
open Go.RowKit Go.Shelf
set_option maxRecDepth 100000
theorem info84' : (Try.prog.info? 84).map (fun i => (i.zero, i.size)) = some (some (.agg #[.string { data := #[] }, .int .i64 0]), 2) := by kernel_rfl
set_option maxHeartbeats 4000000 in
theorem reg8 {r i j N kg ko ck nd cd : Nat} {pd : Option Addr} {x : ByteArray} {n : Int} {L : List (ByteArray × Int)} {u2 u3 u4 u5 u6 u8 u9 u10 u11 u12 u13 u14 u15 u16 u17 u18 u19 u20 u21 u22 u23 u24 u25 u26 u27 u28 u29 u30 u31 u32 u33 u34 u35 u36 u37 u38 u39 u40 u41 u42 u43 u44 u45 u46 u47 u48 u49 u50 u51 u52 u53 u54 u55 u56 u57 u58 u59 u60 u61 u62 u63 u64 u65 u66 u67 u68 u69 u70 u71 u72 u73 u74 : Value} {W : World} {Q : Exit → Act → World → Prop} {Z : World → Prop}
    (hi : i < 4) (hjN : j < N) (hrl : r < W.heap.size) (HS : Hid (∀ W', Below W.heap.size W W' → W'.cell? ⟨r, 14, none⟩ = some (.slice pd nd cd) ∧ W'.cell? ⟨r, 2 + i * 3 + 2, none⟩ = some (.slice (some ⟨kg, ko, none⟩) N ck) ∧ W'.cell? ⟨kg, ko + j, none⟩ = some (.string x) ∧ W'.cell? ⟨r, 1, none⟩ = some (.int .i64 n))) (HZ : Hid (∀ W', Below W.heap.size W W' → W'.frozen? ⟨r, 14, none⟩ = false)) (HLD : Hid (∀ W', Below W.heap.size W W' → LV ED W' (.slice pd nd cd) L)) (hl : L.length ≤ 60000)
    (PF : Hid (∀ (W' : World) (u : Value), Below W.heap.size W W' → LV ED W' u (L ++ [(x, n)]) → Z (W'.setCell ⟨r, 14, none⟩ u)))
    (HQ : Hid (∀ v40 v45 v61 v62 w', Z w' → True → Q .normal { tmps := #[.pointer (some ⟨r, 0, none⟩), .int .i64 (i : Int), u2, u3, u4, u5, u6, .int .i64 (j : Int), u8, u9, u10, u11, u12, u13, u14, u15, u16, u17, u18, u19, u20, u21, u22, u23, u24, u25, u26, u27, u28, u29, u30, u31, u32, u33, u34, u35, u36, u37, u38, .pointer (some ⟨r, 0, none⟩), v40, .pointer (some ⟨r, 0, none⟩), .pointer (some ⟨r, 0, none⟩), .pointer (some ⟨r, 14, none⟩), .slice pd nd cd, v45, .pointer (some ⟨r, 0, none⟩), .int .i64 (i : Int), .pointer (some ⟨r, 0, none⟩), .pointer (some ⟨r, 2, none⟩), .pointer (some ⟨r, 2 + i * 3, none⟩), .pointer (some ⟨r, 2 + i * 3 + 2, none⟩), .slice (some ⟨kg, ko, none⟩) N ck, .int .i64 (j : Int), .pointer (some ⟨kg, ko + j, none⟩), .string x, .pointer (some ⟨r, 0, none⟩), .pointer (some ⟨r, 0, none⟩), .pointer (some ⟨r, 1, none⟩), .int .i64 n, .agg #[.string x, .int .i64 n], v61, v62, .pointer (some ⟨r, 0, none⟩), .pointer (some ⟨r, 14, none⟩), u65, u66, u67, u68, u69, u70, u71, u72, u73, u74], defers := [] } w')) :
    Code.wp Try.prog (Code.region 8 #[{ dst := some 39, op := Op.move (Operand.tmp 0), type := 24, pos := "ref.go:117", after := #[], guard := none }, { dst := some 40, op := Op.buildSlice 73 0 #[], type := 73, pos := "ref.go:117", after := #[], guard := none }, { dst := some 41, op := Op.move (Operand.tmp 0), type := 24, pos := "ref.go:117", after := #[], guard := none }, { dst := some 42, op := Op.nilCheck (Operand.tmp 41), type := 0, pos := "ref.go:117", after := #[{ on := 2, ground := Ground.data }], guard := none }, { dst := some 43, op := Op.fieldAddr 75 (Operand.tmp 42) 3, type := 0, pos := "ref.go:117", after := #[{ on := 3, ground := Ground.data }], guard := none }, { dst := some 44, op := Op.load 73 (Operand.tmp 43), type := 73, pos := "ref.go:117", after := #[{ on := 4, ground := Ground.data }], guard := none }, { dst := some 45, op := Op.call { callee := Callee.builtin Builtin.append, args := #[Operand.tmp 40, Operand.tmp 44], argTypes := #[73, 73] }, type := 73, pos := "ref.go:117", after := #[{ on := 1, ground := Ground.data }, { on := 5, ground := Ground.data }], guard := none }, { dst := some 46, op := Op.move (Operand.tmp 0), type := 24, pos := "ref.go:117", after := #[], guard := none }, { dst := some 47, op := Op.move (Operand.tmp 1), type := 3, pos := "ref.go:117", after := #[], guard := none }, { dst := some 48, op := Op.nilCheck (Operand.tmp 46), type := 0, pos := "ref.go:117", after := #[{ on := 7, ground := Ground.data }], guard := none }, { dst := some 49, op := Op.fieldAddr 75 (Operand.tmp 48) 2, type := 0, pos := "ref.go:117", after := #[{ on := 9, ground := Ground.data }], guard := none }, { dst := some 50, op := Op.indexAddr 72 (Operand.tmp 49) (Operand.tmp 47), type := 0, pos := "ref.go:117", after := #[{ on := 10, ground := Ground.data }, { on := 8, ground := Ground.data }], guard := none }, { dst := some 51, op := Op.fieldAddr 71 (Operand.tmp 50) 2, type := 0, pos := "ref.go:117", after := #[{ on := 11, ground := Ground.data }], guard := none }, { dst := some 52, op := Op.load 43 (Operand.tmp 51), type := 43, pos := "ref.go:117", after := #[{ on := 12, ground := Ground.data }], guard := none }, { dst := some 53, op := Op.move (Operand.tmp 7), type := 3, pos := "ref.go:117", after := #[], guard := none }, { dst := some 54, op := Op.indexAddr 43 (Operand.tmp 52) (Operand.tmp 53), type := 0, pos := "ref.go:117", after := #[{ on := 13, ground := Ground.data }, { on := 14, ground := Ground.data }], guard := none }, { dst := some 55, op := Op.load 9 (Operand.tmp 54), type := 9, pos := "ref.go:117", after := #[{ on := 15, ground := Ground.data }], guard := none }, { dst := some 56, op := Op.move (Operand.tmp 0), type := 24, pos := "ref.go:117", after := #[], guard := none }, { dst := some 57, op := Op.nilCheck (Operand.tmp 56), type := 0, pos := "ref.go:117", after := #[{ on := 17, ground := Ground.data }], guard := none }, { dst := some 58, op := Op.fieldAddr 75 (Operand.tmp 57) 1, type := 0, pos := "ref.go:117", after := #[{ on := 18, ground := Ground.data }], guard := none }, { dst := some 59, op := Op.load 3 (Operand.tmp 58), type := 3, pos := "ref.go:117", after := #[{ on := 19, ground := Ground.data }], guard := none }, { dst := some 60, op := Op.build 84 #[(0, Operand.tmp 55), (1, Operand.tmp 59)], type := 84, pos := "ref.go:117", after := #[{ on := 16, ground := Ground.data }, { on := 20, ground := Ground.data }], guard := none }, { dst := some 61, op := Op.buildSlice 73 1 #[(0, Operand.tmp 60)], type := 73, pos := "ref.go:117", after := #[{ on := 21, ground := Ground.data }], guard := none }, { dst := some 62, op := Op.call { callee := Callee.builtin Builtin.append, args := #[Operand.tmp 45, Operand.tmp 61], argTypes := #[73, 73] }, type := 73, pos := "ref.go:117", after := #[{ on := 6, ground := Ground.data }, { on := 22, ground := Ground.data }, { on := 6, ground := Ground.chain }], guard := none }, { dst := some 63, op := Op.nilCheck (Operand.tmp 39), type := 0, pos := "ref.go:117", after := #[{ on := 0, ground := Ground.data }, { on := 0, ground := Ground.phase }, { on := 1, ground := Ground.phase }, { on := 2, ground := Ground.phase }, { on := 3, ground := Ground.phase }, { on := 4, ground := Ground.phase }, { on := 5, ground := Ground.phase }, { on := 6, ground := Ground.phase }, { on := 7, ground := Ground.phase }, { on := 8, ground := Ground.phase }, { on := 9, ground := Ground.phase }, { on := 10, ground := Ground.phase }, { on := 11, ground := Ground.phase }, { on := 12, ground := Ground.phase }, { on := 13, ground := Ground.phase }, { on := 14, ground := Ground.phase }, { on := 15, ground := Ground.phase }, { on := 16, ground := Ground.phase }, { on := 17, ground := Ground.phase }, { on := 18, ground := Ground.phase }, { on := 19, ground := Ground.phase }, { on := 20, ground := Ground.phase }, { on := 21, ground := Ground.phase }, { on := 22, ground := Ground.phase }, { on := 23, ground := Ground.phase }], guard := none }, { dst := some 64, op := Op.fieldAddr 75 (Operand.tmp 63) 3, type := 0, pos := "ref.go:117", after := #[{ on := 24, ground := Ground.data }, { on := 0, ground := Ground.phase }, { on := 1, ground := Ground.phase }, { on := 2, ground := Ground.phase }, { on := 3, ground := Ground.phase }, { on := 4, ground := Ground.phase }, { on := 5, ground := Ground.phase }, { on := 6, ground := Ground.phase }, { on := 7, ground := Ground.phase }, { on := 8, ground := Ground.phase }, { on := 9, ground := Ground.phase }, { on := 10, ground := Ground.phase }, { on := 11, ground := Ground.phase }, { on := 12, ground := Ground.phase }, { on := 13, ground := Ground.phase }, { on := 14, ground := Ground.phase }, { on := 15, ground := Ground.phase }, { on := 16, ground := Ground.phase }, { on := 17, ground := Ground.phase }, { on := 18, ground := Ground.phase }, { on := 19, ground := Ground.phase }, { on := 20, ground := Ground.phase }, { on := 21, ground := Ground.phase }, { on := 22, ground := Ground.phase }, { on := 23, ground := Ground.phase }], guard := none }, { dst := none, op := Op.store 73 (Operand.tmp 64) (Operand.tmp 62), type := 0, pos := "ref.go:117", after := #[{ on := 25, ground := Ground.data }, { on := 23, ground := Ground.data }, { on := 23, ground := Ground.chain }, { on := 0, ground := Ground.phase }, { on := 1, ground := Ground.phase }, { on := 2, ground := Ground.phase }, { on := 3, ground := Ground.phase }, { on := 4, ground := Ground.phase }, { on := 5, ground := Ground.phase }, { on := 6, ground := Ground.phase }, { on := 7, ground := Ground.phase }, { on := 8, ground := Ground.phase }, { on := 9, ground := Ground.phase }, { on := 10, ground := Ground.phase }, { on := 11, ground := Ground.phase }, { on := 12, ground := Ground.phase }, { on := 13, ground := Ground.phase }, { on := 14, ground := Ground.phase }, { on := 15, ground := Ground.phase }, { on := 16, ground := Ground.phase }, { on := 17, ground := Ground.phase }, { on := 18, ground := Ground.phase }, { on := 19, ground := Ground.phase }, { on := 20, ground := Ground.phase }, { on := 21, ground := Ground.phase }, { on := 22, ground := Ground.phase }, { on := 23, ground := Ground.phase }], guard := none }] true) Q { tmps := #[.pointer (some ⟨r, 0, none⟩), .int .i64 (i : Int), u2, u3, u4, u5, u6, .int .i64 (j : Int), u8, u9, u10, u11, u12, u13, u14, u15, u16, u17, u18, u19, u20, u21, u22, u23, u24, u25, u26, u27, u28, u29, u30, u31, u32, u33, u34, u35, u36, u37, u38, u39, u40, u41, u42, u43, u44, u45, u46, u47, u48, u49, u50, u51, u52, u53, u54, u55, u56, u57, u58, u59, u60, u61, u62, u63, u64, u65, u66, u67, u68, u69, u70, u71, u72, u73, u74], defers := [] } W := by
  have h1 : (0 : Int) ≤ (i : Int) := by omega
  have h2 : (i : Int) < 4 := by omega
  have b1 : (j : Int) < (N : Int) := by omega
  have b2 : (0 : Int) ≤ (j : Int) := by omega
  have H45 : Hid (∀ w2 b, Below W.heap.size W w2 → W.heap.size ≤ b → b < w2.heap.size → ∃ u w', (Builtin.append_ #[73, 73] 73 #[.slice (some ⟨b, 0, none⟩) 0 0, .slice pd nd cd]).run Try.prog w2 = .ok u w' ∧ RU ED W.heap.size w' u L ∧ Below W.heap.size W w' ∧ (∀ e, e ≠ b → Blk w2 e [.string x, .int .i64 n] 84 → Blk w' e [.string x, .int .i64 n] 84)) := fun w2 b q1 q2 q3 => by
    have hU0 : RU ED W.heap.size w2 (.slice (some ⟨b, 0, none⟩) 0 0) [] := .inl ⟨rfl, _, rfl, q2, q3⟩
    obtain ⟨u, w', e1, e2, e3⟩ := run_app hU0 (HLD.out _ q1) (by simp; omega) q1.size
    rw [List.nil_append] at e2
    exact ⟨u, w', e1, e2, q1.trans (grown_below hU0 e3 q1.size), fun e he hb => hb.block (e3.block e hb.lt (fun q => he (by simpa [Value.ownBlock] using q)))⟩
  have H62 : Hid (∀ w2 u e, RU ED W.heap.size w2 u L → Below W.heap.size W w2 → Blk w2 e [.string x, .int .i64 n] 84 → ∃ u' w', (Builtin.append_ #[73, 73] 73 #[u, .slice (some ⟨e, 0, none⟩) 1 1]).run Try.prog w2 = .ok u' w' ∧ (∃ a n' c, u' = .slice a n' c ∧ w'.frozen? ⟨r, 14, none⟩ = false ∧ Z (w'.setCell ⟨r, 14, none⟩ u') ∧ True) ∧ Below W.heap.size W w') := fun w2 u e q1 q2 q3 => by
    obtain ⟨u', w', e1, e2, e3⟩ := run_app q1 (lv_blk ED (L := [(x, n)]) q3 1 (Nat.le_refl _)) (by simp; omega) q2.size
    have hb := q2.trans (grown_below q1 e3 q2.size)
    obtain ⟨a, c, hf⟩ := e2.read.form
    exact ⟨u', w', e1, ⟨a, _, c, hf, HZ.out _ hb, PF.out _ _ hb e2.read, trivial⟩, hb⟩
  refine wp_region_noPanic ?_
  refine wp_region_L (fun W' => W'.cell? ⟨r, 14, none⟩ = some (.slice pd nd cd) ∧ W'.cell? ⟨r, 2 + i * 3 + 2, none⟩ = some (.slice (some ⟨kg, ko, none⟩) N ck) ∧ W'.cell? ⟨kg, ko + j, none⟩ = some (.string x) ∧ W'.cell? ⟨r, 1, none⟩ = some (.int .i64 n)) 26 (by kernel_rfl) ?_
  have B0 : Below W.heap.size W W.drew := (Below.refl _ _).drew
  have S0 := HS.out _ B0
  refine wpAnyL_take 0 (some 39) (.pointer (some ⟨r, 0, none⟩)) rfl rfl (by kernel_rfl) (by kernel_rfl) (by kernel_rfl) (by kernel_rfl) (fun _ _ _ h => h) (Or.inl ⟨by rfl, fun w' hw' => by obtain ⟨q0, q1, q2, q3⟩ := hw'; go_simp⟩) S0 ?_
  simp only [Act.put, List.setIfInBounds_toArray, List.set_cons_zero, List.set_cons_succ]
  refine wpAnyL_take 2 (some 41) (.pointer (some ⟨r, 0, none⟩)) rfl rfl (by kernel_rfl) (by kernel_rfl) (by kernel_rfl) (by kernel_rfl) (fun _ _ _ h => h) (Or.inl ⟨by rfl, fun w' hw' => by obtain ⟨q0, q1, q2, q3⟩ := hw'; go_simp⟩) S0 ?_
  simp only [Act.put, List.setIfInBounds_toArray, List.set_cons_zero, List.set_cons_succ]
  refine wpAnyL_take 3 (some 42) (.pointer (some ⟨r, 0, none⟩)) rfl rfl (by kernel_rfl) (by kernel_rfl) (by kernel_rfl) (by kernel_rfl) (fun _ _ _ h => h) (Or.inl ⟨by rfl, fun w' hw' => by obtain ⟨q0, q1, q2, q3⟩ := hw'; go_simp⟩) S0 ?_
  simp only [Act.put, List.setIfInBounds_toArray, List.set_cons_zero, List.set_cons_succ]
  refine wpAnyL_take 4 (some 43) (.pointer (some ⟨r, 14, none⟩)) rfl rfl (by kernel_rfl) (by kernel_rfl) (by kernel_rfl) (by kernel_rfl) (fun _ _ _ h => h) (Or.inl ⟨by rfl, fun w' hw' => by obtain ⟨q0, q1, q2, q3⟩ := hw'; go_simp⟩) S0 ?_
  simp only [Act.put, List.setIfInBounds_toArray, List.set_cons_zero, List.set_cons_succ]
  refine wpAnyL_take 5 (some 44) (.slice pd nd cd) rfl rfl (by kernel_rfl) (by kernel_rfl) (by kernel_rfl) (by kernel_rfl) (fun _ _ _ h => h) (Or.inl ⟨by rfl, fun w' hw' => by obtain ⟨q0, q1, q2, q3⟩ := hw'; go_simp⟩) S0 ?_
  simp only [Act.put, List.setIfInBounds_toArray, List.set_cons_zero, List.set_cons_succ]
  refine wpAnyL_take 7 (some 46) (.pointer (some ⟨r, 0, none⟩)) rfl rfl (by kernel_rfl) (by kernel_rfl) (by kernel_rfl) (by kernel_rfl) (fun _ _ _ h => h) (Or.inl ⟨by rfl, fun w' hw' => by obtain ⟨q0, q1, q2, q3⟩ := hw'; go_simp⟩) S0 ?_
  simp only [Act.put, List.setIfInBounds_toArray, List.set_cons_zero, List.set_cons_succ]
  refine wpAnyL_take 8 (some 47) (.int .i64 (i : Int)) rfl rfl (by kernel_rfl) (by kernel_rfl) (by kernel_rfl) (by kernel_rfl) (fun _ _ _ h => h) (Or.inl ⟨by rfl, fun w' hw' => by obtain ⟨q0, q1, q2, q3⟩ := hw'; go_simp⟩) S0 ?_
  simp only [Act.put, List.setIfInBounds_toArray, List.set_cons_zero, List.set_cons_succ]
  refine wpAnyL_take 9 (some 48) (.pointer (some ⟨r, 0, none⟩)) rfl rfl (by kernel_rfl) (by kernel_rfl) (by kernel_rfl) (by kernel_rfl) (fun _ _ _ h => h) (Or.inl ⟨by rfl, fun w' hw' => by obtain ⟨q0, q1, q2, q3⟩ := hw'; go_simp⟩) S0 ?_
  simp only [Act.put, List.setIfInBounds_toArray, List.set_cons_zero, List.set_cons_succ]
  refine wpAnyL_take 10 (some 49) (.pointer (some ⟨r, 2, none⟩)) rfl rfl (by kernel_rfl) (by kernel_rfl) (by kernel_rfl) (by kernel_rfl) (fun _ _ _ h => h) (Or.inl ⟨by rfl, fun w' hw' => by obtain ⟨q0, q1, q2, q3⟩ := hw'; go_simp⟩) S0 ?_
  simp only [Act.put, List.setIfInBounds_toArray, List.set_cons_zero, List.set_cons_succ]
  refine wpAnyL_take 11 (some 50) (.pointer (some ⟨r, 2 + i * 3, none⟩)) rfl rfl (by kernel_rfl) (by kernel_rfl) (by kernel_rfl) (by kernel_rfl) (fun _ _ _ h => h) (Or.inl ⟨by rfl, fun w' hw' => by obtain ⟨q0, q1, q2, q3⟩ := hw'; go_simp⟩) S0 ?_
  simp only [Act.put, List.setIfInBounds_toArray, List.set_cons_zero, List.set_cons_succ]
  refine wpAnyL_take 12 (some 51) (.pointer (some ⟨r, 2 + i * 3 + 2, none⟩)) rfl rfl (by kernel_rfl) (by kernel_rfl) (by kernel_rfl) (by kernel_rfl) (fun _ _ _ h => h) (Or.inl ⟨by rfl, fun w' hw' => by obtain ⟨q0, q1, q2, q3⟩ := hw'; go_simp⟩) S0 ?_
  simp only [Act.put, List.setIfInBounds_toArray, List.set_cons_zero, List.set_cons_succ]
  refine wpAnyL_take 13 (some 52) (.slice (some ⟨kg, ko, none⟩) N ck) rfl rfl (by kernel_rfl) (by kernel_rfl) (by kernel_rfl) (by kernel_rfl) (fun _ _ _ h => h) (Or.inl ⟨by rfl, fun w' hw' => by obtain ⟨q0, q1, q2, q3⟩ := hw'; go_simp⟩) S0 ?_
  simp only [Act.put, List.setIfInBounds_toArray, List.set_cons_zero, List.set_cons_succ]
  refine wpAnyL_take 14 (some 53) (.int .i64 (j : Int)) rfl rfl (by kernel_rfl) (by kernel_rfl) (by kernel_rfl) (by kernel_rfl) (fun _ _ _ h => h) (Or.inl ⟨by rfl, fun w' hw' => by obtain ⟨q0, q1, q2, q3⟩ := hw'; go_simp⟩) S0 ?_
  simp only [Act.put, List.setIfInBounds_toArray, List.set_cons_zero, List.set_cons_succ]
  refine wpAnyL_take 15 (some 54) (.pointer (some ⟨kg, ko + j, none⟩)) rfl rfl (by kernel_rfl) (by kernel_rfl) (by kernel_rfl) (by kernel_rfl) (fun _ _ _ h => h) (Or.inl ⟨by rfl, fun w' hw' => by obtain ⟨q0, q1, q2, q3⟩ := hw'; go_simp⟩) S0 ?_
  simp only [Act.put, List.setIfInBounds_toArray, List.set_cons_zero, List.set_cons_succ]
  refine wpAnyL_take 16 (some 55) (.string x) rfl rfl (by kernel_rfl) (by kernel_rfl) (by kernel_rfl) (by kernel_rfl) (fun _ _ _ h => h) (Or.inl ⟨by rfl, fun w' hw' => by obtain ⟨q0, q1, q2, q3⟩ := hw'; go_simp⟩) S0 ?_
  simp only [Act.put, List.setIfInBounds_toArray, List.set_cons_zero, List.set_cons_succ]
  refine wpAnyL_take 17 (some 56) (.pointer (some ⟨r, 0, none⟩)) rfl rfl (by kernel_rfl) (by kernel_rfl) (by kernel_rfl) (by kernel_rfl) (fun _ _ _ h => h) (Or.inl ⟨by rfl, fun w' hw' => by obtain ⟨q0, q1, q2, q3⟩ := hw'; go_simp⟩) S0 ?_
  simp only [Act.put, List.setIfInBounds_toArray, List.set_cons_zero, List.set_cons_succ]
  refine wpAnyL_take 18 (some 57) (.pointer (some ⟨r, 0, none⟩)) rfl rfl (by kernel_rfl) (by kernel_rfl) (by kernel_rfl) (by kernel_rfl) (fun _ _ _ h => h) (Or.inl ⟨by rfl, fun w' hw' => by obtain ⟨q0, q1, q2, q3⟩ := hw'; go_simp⟩) S0 ?_
  simp only [Act.put, List.setIfInBounds_toArray, List.set_cons_zero, List.set_cons_succ]
  refine wpAnyL_take 19 (some 58) (.pointer (some ⟨r, 1, none⟩)) rfl rfl (by kernel_rfl) (by kernel_rfl) (by kernel_rfl) (by kernel_rfl) (fun _ _ _ h => h) (Or.inl ⟨by rfl, fun w' hw' => by obtain ⟨q0, q1, q2, q3⟩ := hw'; go_simp⟩) S0 ?_
  simp only [Act.put, List.setIfInBounds_toArray, List.set_cons_zero, List.set_cons_succ]
  refine wpAnyL_take 20 (some 59) (.int .i64 n) rfl rfl (by kernel_rfl) (by kernel_rfl) (by kernel_rfl) (by kernel_rfl) (fun _ _ _ h => h) (Or.inl ⟨by rfl, fun w' hw' => by obtain ⟨q0, q1, q2, q3⟩ := hw'; go_simp⟩) S0 ?_
  simp only [Act.put, List.setIfInBounds_toArray, List.set_cons_zero, List.set_cons_succ]
  refine wpAnyL_take 21 (some 60) (.agg #[.string x, .int .i64 n]) rfl rfl (by kernel_rfl) (by kernel_rfl) (by kernel_rfl) (by kernel_rfl) (fun _ _ _ h => h) (Or.inl ⟨by rfl, fun w' hw' => by obtain ⟨q0, q1, q2, q3⟩ := hw'; go_simp⟩) S0 ?_
  simp only [Act.put, List.setIfInBounds_toArray, List.set_cons_zero, List.set_cons_succ]
  clear S0
  refine wpAnyL_ready (rs := [1, 22]) (by kernel_rfl) (by simp) (AllReadyL.cons rfl (fun K hK => ?_) (AllReadyL.cons rfl (fun K hK => ?_) AllReadyL.nil))
  · refine step_b0 rfl (some 40) rfl 73 84 rfl _ 2 Try.underlying73 info84' ?_
    intro g40 w1 hg1 hl1 hb1
    have B1 := bmore B0 hb1
    have hg40 : W.heap.size ≤ g40 := Nat.le_trans (Below.size B0) hg1
    refine hK.out _ _ (fun _ => HS.out _ B1) ?_
    clear hK K
    try simp only [Act.put, List.setIfInBounds_toArray, List.set_cons_zero, List.set_cons_succ]
    refine wpAnyL_ready (rs := [6, 22]) (by kernel_rfl) (by simp) (AllReadyL.cons rfl (fun K hK => ?_) (AllReadyL.cons rfl (fun K hK => ?_) AllReadyL.nil))
    · refine step_append_d rfl (some 45) rfl (.tmp 40) (.tmp 44) 73 rfl rfl _ _ rfl rfl (H45.out _ _ B1 hg40 hl1) ?_
      rintro v45 w2 ⟨U2, B2, X2⟩
      refine hK.out _ _ (fun _ => HS.out _ B2) ?_
      clear hK K
      try simp only [Act.put, List.setIfInBounds_toArray, List.set_cons_zero, List.set_cons_succ]
      refine wpAnyL_ready (rs := [22]) (by kernel_rfl) (by simp) (AllReadyL.cons rfl (fun K hK => ?_) AllReadyL.nil)
      · refine step_b1 rfl (some 61) rfl 73 84 (.tmp 60) rfl (.agg #[.string x, .int .i64 n]) rfl [.string x, .int .i64 n] (b1run x n) ?_
        intro g61 w3 hg3 hb3 k3
        have B3 := bmore B2 hb3
        have U3 := RU.below U2 hb3
        refine hK.out _ _ (fun _ => HS.out _ B3) ?_
        clear hK K
        try simp only [Act.put, List.setIfInBounds_toArray, List.set_cons_zero, List.set_cons_succ]
        refine wpAnyL_ready (rs := [23]) (by kernel_rfl) (by simp) (AllReadyL.cons rfl (fun K hK => ?_) AllReadyL.nil)
        · refine step_append_d rfl (some 62) rfl (.tmp 45) (.tmp 61) 73 rfl rfl _ _ rfl rfl (H62.out _ _ _ U3 B3 k3) ?_
          rintro v62 w4 ⟨I4, B4⟩
          refine hK.out _ _ (fun _ => HS.out _ B4) ?_
          clear hK K
          try simp only [Act.put, List.setIfInBounds_toArray, List.set_cons_zero, List.set_cons_succ]
          refine wpAnyL_ready (rs := [24]) (by kernel_rfl) (by simp) (AllReadyL.cons rfl (fun K hK => ?_) AllReadyL.nil)
          go_simp
          refine hK.out _ _ (fun _ => HS.out _ B4) ?_
          clear hK K
          try simp only [Act.put, List.setIfInBounds_toArray, List.set_cons_zero, List.set_cons_succ]
          refine wpAnyL_take 25 (some 64) (.pointer (some ⟨r, 14, none⟩)) rfl rfl (by kernel_rfl) (by kernel_rfl) (by kernel_rfl) (by kernel_rfl) (fun _ _ _ h => h) (Or.inl ⟨by rfl, fun w' hw' => by obtain ⟨q0, q1, q2, q3⟩ := hw'; go_simp⟩) (HS.out _ B4) ?_
          simp only [Act.put, List.setIfInBounds_toArray, List.set_cons_zero, List.set_cons_succ]
          refine wpAnyL_ready (rs := [26]) (by kernel_rfl) (by simp) (AllReadyL.cons rfl (fun K hK => ?_) AllReadyL.nil)
          obtain ⟨a7, n7, c7, rfl, f7, I7⟩ := I4
          have x7 := (HS.out _ B4).1
          have l7 := Nat.lt_of_lt_of_le hrl (Below.size B4)
          have HI7 : Hid _ := I7
          clear I7
          go_simp
          refine hK.out _ _ (fun h => absurd rfl h) ?_
          clear hK K
          try simp only [Act.put, List.setIfInBounds_toArray, List.set_cons_zero, List.set_cons_succ]
          refine wpAnyL_done (by kernel_rfl) ?_ _
          exact NoPanic.normal (HQ.out _ _ _ _ _ HI7.out.1 HI7.out.2)
    · refine step_b1 rfl (some 61) rfl 73 84 (.tmp 60) rfl (.agg #[.string x, .int .i64 n]) rfl [.string x, .int .i64 n] (b1run x n) ?_
      intro g61 w5 hg5 hb5 k5
      have B5 := bmore B1 hb5
      have hl5 := Nat.lt_of_lt_of_le hl1 (Below.size hb5)
      have hne : g61 ≠ g40 := Nat.ne_of_gt (Nat.lt_of_lt_of_le hl1 hg5)
      refine hK.out _ _ (fun _ => HS.out _ B5) ?_
      clear hK K
      try simp only [Act.put, List.setIfInBounds_toArray, List.set_cons_zero, List.set_cons_succ]
      refine wpAnyL_ready (rs := [6]) (by kernel_rfl) (by simp) (AllReadyL.cons rfl (fun K hK => ?_) AllReadyL.nil)
      · refine step_append_d rfl (some 45) rfl (.tmp 40) (.tmp 44) 73 rfl rfl _ _ rfl rfl (H45.out _ _ B5 hg40 hl5) ?_
        rintro v45 w6 ⟨U6, B6, X6⟩
        have k6 := X6 g61 hne k5
        refine hK.out _ _ (fun _ => HS.out _ B6) ?_
        clear hK K
        try simp only [Act.put, List.setIfInBounds_toArray, List.set_cons_zero, List.set_cons_succ]
        refine wpAnyL_ready (rs := [23]) (by kernel_rfl) (by simp) (AllReadyL.cons rfl (fun K hK => ?_) AllReadyL.nil)
        · refine step_append_d rfl (some 62) rfl (.tmp 45) (.tmp 61) 73 rfl rfl _ _ rfl rfl (H62.out _ _ _ U6 B6 k6) ?_
          rintro v62 w7 ⟨I7, B7⟩
          refine hK.out _ _ (fun _ => HS.out _ B7) ?_
          clear hK K
          try simp only [Act.put, List.setIfInBounds_toArray, List.set_cons_zero, List.set_cons_succ]
          refine wpAnyL_ready (rs := [24]) (by kernel_rfl) (by simp) (AllReadyL.cons rfl (fun K hK => ?_) AllReadyL.nil)
          go_simp
          refine hK.out _ _ (fun _ => HS.out _ B7) ?_
          clear hK K
          try simp only [Act.put, List.setIfInBounds_toArray, List.set_cons_zero, List.set_cons_succ]
          refine wpAnyL_take 25 (some 64) (.pointer (some ⟨r, 14, none⟩)) rfl rfl (by kernel_rfl) (by kernel_rfl) (by kernel_rfl) (by kernel_rfl) (fun _ _ _ h => h) (Or.inl ⟨by rfl, fun w' hw' => by obtain ⟨q0, q1, q2, q3⟩ := hw'; go_simp⟩) (HS.out _ B7) ?_
          simp only [Act.put, List.setIfInBounds_toArray, List.set_cons_zero, List.set_cons_succ]
          refine wpAnyL_ready (rs := [26]) (by kernel_rfl) (by simp) (AllReadyL.cons rfl (fun K hK => ?_) AllReadyL.nil)
          obtain ⟨a7, n7, c7, rfl, f7, I7⟩ := I7
          have x7 := (HS.out _ B7).1
          have l7 := Nat.lt_of_lt_of_le hrl (Below.size B7)
          have HI7 : Hid _ := I7
          clear I7
          go_simp
          refine hK.out _ _ (fun h => absurd rfl h) ?_
          clear hK K
          try simp only [Act.put, List.setIfInBounds_toArray, List.set_cons_zero, List.set_cons_succ]
          refine wpAnyL_done (by kernel_rfl) ?_ _
          exact NoPanic.normal (HQ.out _ _ _ _ _ HI7.out.1 HI7.out.2)
  · refine step_b1 rfl (some 61) rfl 73 84 (.tmp 60) rfl (.agg #[.string x, .int .i64 n]) rfl [.string x, .int .i64 n] (b1run x n) ?_
    intro g61 w8 hg8 hb8 k8
    have B8 := bmore B0 hb8
    refine hK.out _ _ (fun _ => HS.out _ B8) ?_
    clear hK K
    try simp only [Act.put, List.setIfInBounds_toArray, List.set_cons_zero, List.set_cons_succ]
    refine wpAnyL_ready (rs := [1]) (by kernel_rfl) (by simp) (AllReadyL.cons rfl (fun K hK => ?_) AllReadyL.nil)
    · refine step_b0 rfl (some 40) rfl 73 84 rfl _ 2 Try.underlying73 info84' ?_
      intro g40 w9 hg9 hl9 hb9
      have B9 := bmore B8 hb9
      have hg40 : W.heap.size ≤ g40 := Nat.le_trans (Below.size B8) hg9
      have k9 := Blk.below k8 hb9
      have hne : g61 ≠ g40 := Nat.ne_of_lt (Nat.lt_of_lt_of_le (Blk.lt k8) hg9)
      refine hK.out _ _ (fun _ => HS.out _ B9) ?_
      clear hK K
      try simp only [Act.put, List.setIfInBounds_toArray, List.set_cons_zero, List.set_cons_succ]
      refine wpAnyL_ready (rs := [6]) (by kernel_rfl) (by simp) (AllReadyL.cons rfl (fun K hK => ?_) AllReadyL.nil)
      · refine step_append_d rfl (some 45) rfl (.tmp 40) (.tmp 44) 73 rfl rfl _ _ rfl rfl (H45.out _ _ B9 hg40 hl9) ?_
        rintro v45 w10 ⟨U10, B10, X10⟩
        have k10 := X10 g61 hne k9
        refine hK.out _ _ (fun _ => HS.out _ B10) ?_
        clear hK K
        try simp only [Act.put, List.setIfInBounds_toArray, List.set_cons_zero, List.set_cons_succ]
        refine wpAnyL_ready (rs := [23]) (by kernel_rfl) (by simp) (AllReadyL.cons rfl (fun K hK => ?_) AllReadyL.nil)
        · refine step_append_d rfl (some 62) rfl (.tmp 45) (.tmp 61) 73 rfl rfl _ _ rfl rfl (H62.out _ _ _ U10 B10 k10) ?_
          rintro v62 w11 ⟨I11, B11⟩
          refine hK.out _ _ (fun _ => HS.out _ B11) ?_
          clear hK K
          try simp only [Act.put, List.setIfInBounds_toArray, List.set_cons_zero, List.set_cons_succ]
          refine wpAnyL_ready (rs := [24]) (by kernel_rfl) (by simp) (AllReadyL.cons rfl (fun K hK => ?_) AllReadyL.nil)
          go_simp
          refine hK.out _ _ (fun _ => HS.out _ B11) ?_
          clear hK K
          try simp only [Act.put, List.setIfInBounds_toArray, List.set_cons_zero, List.set_cons_succ]
          refine wpAnyL_take 25 (some 64) (.pointer (some ⟨r, 14, none⟩)) rfl rfl (by kernel_rfl) (by kernel_rfl) (by kernel_rfl) (by kernel_rfl) (fun _ _ _ h => h) (Or.inl ⟨by rfl, fun w' hw' => by obtain ⟨q0, q1, q2, q3⟩ := hw'; go_simp⟩) (HS.out _ B11) ?_
          simp only [Act.put, List.setIfInBounds_toArray, List.set_cons_zero, List.set_cons_succ]
          refine wpAnyL_ready (rs := [26]) (by kernel_rfl) (by simp) (AllReadyL.cons rfl (fun K hK => ?_) AllReadyL.nil)
          obtain ⟨a7, n7, c7, rfl, f7, I7⟩ := I11
          have x7 := (HS.out _ B11).1
          have l7 := Nat.lt_of_lt_of_le hrl (Below.size B11)
          have HI7 : Hid _ := I7
          clear I7
          go_simp
          refine hK.out _ _ (fun h => absurd rfl h) ?_
          clear hK K
          try simp only [Act.put, List.setIfInBounds_toArray, List.set_cons_zero, List.set_cons_succ]
          refine wpAnyL_done (by kernel_rfl) ?_ _
          exact NoPanic.normal (HQ.out _ _ _ _ _ HI7.out.1 HI7.out.2)
end Go.Proofs.Ytjgdcdeekpeenaa
