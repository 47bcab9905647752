/- At: a list of values is laid on. -/
import Derived.Test.YtpagnphabchfcaaCb
namespace Go.Proofs.Ytpagnphabchfcaa
open Go.RowKit Go.Shelf
set_option maxRecDepth 100000
theorem rowForm {w : World} {B e m n : Nat} {v : Value} {xs : List Value} (h : w.ownsRow B e m v n xs) : ∃ a n c, v = .slice a n c := by
  obtain ⟨_, ⟨h, _⟩ | ⟨g, cap, cur, h, _⟩⟩ := h
  · exact ⟨_, _, _, h⟩
  · exact ⟨_, _, _, h⟩
theorem info30 : (Try.prog.info? 30).map (fun i => (i.zero, i.size, i.bytes)) = some (some (.slice none 0 0), 1, 24) := by kernel_rfl
theorem b1runA (a : Option Addr) (n c : Nat) (w : World) : (Instr.buildSlice 25 1 #[(0, .slice a n c)]).run Try.prog w = .ok (.slice (some ⟨w.heap.size, 0, none⟩) 1 1) (w.alloc (.cells #[.slice a n c] 30)) := by
  go_simp
set_option maxHeartbeats 4000000 in
theorem reg11 {l N tb g o m c B n : Nat} {av : Value} {xs : List Value} {pa : Option Addr} {vn ca : Nat} {u0 u1 u2 u3 u4 u5 u6 u7 u10 u11 u12 u13 u14 u15 u16 u17 u18 u19 u20 u21 u22 u23 u24 u25 u26 u27 u28 u29 u30 u31 u32 u33 u34 u35 u36 : Value} {ds : List Deferred} {w : World} {Q : Exit → Act → World → Prop}
    (htb : Blk w tb [av] 25) (hown : w.ownsRow B 30 1 av n xs) (hB : B ≤ w.heap.size) (hlen : n ≤ 100000) (hne : some tb ≠ av.ownBlock) (hm : (0 : Int) < (m : Int))
    (hg : g < w.heap.size) (hgn : some g ≠ av.ownBlock) (hgo : w.cell? ⟨g, o, none⟩ = some (.slice pa vn ca))
    (hQ : ∀ v34 v35 w', Blk w' tb [v35] 25 → w'.ownsRow B 30 1 v35 (n + 1) (xs ++ [.slice pa vn ca]) → some tb ≠ v35.ownBlock → Keep (fun b => b = tb ∨ av.ownBlock = some b) w w' → (∀ k, v35.ownBlock = some k → av.ownBlock = some k ∨ w.heap.size ≤ k) → Q .normal { tmps := #[u0, u1, u2, u3, u4, u5, u6, u7, .pointer (some ⟨tb, 0, none⟩), .slice (some ⟨g, o, none⟩) m c, u10, u11, u12, u13, u14, u15, u16, u17, u18, u19, u20, u21, u22, u23, u24, u25, u26, u27, u28, av, .slice (some ⟨g, o, none⟩) m c, .pointer (some ⟨g, o, none⟩), .pointer (some ⟨g, o, none⟩), .slice pa vn ca, v34, v35, u36], defers := ds } w') :
    Code.wpIn (Fence.wide.inRound l) N Try.prog (Code.region 11 #[{ dst := some 29, op := Op.load 25 (Operand.tmp 8), type := 25, pos := "rows.go:47", after := #[], guard := none }, { dst := some 30, op := Op.move (Operand.tmp 9), type := 22, pos := "rows.go:47", after := #[], guard := none }, { dst := some 31, op := Op.indexAddr 22 (Operand.tmp 30) (Operand.const (Value.int IntKind.i64 0)), type := 0, pos := "rows.go:47", after := #[{ on := 1, ground := Ground.data }], guard := none }, { dst := some 32, op := Op.fieldAddr 34 (Operand.tmp 31) 0, type := 0, pos := "rows.go:47", after := #[{ on := 2, ground := Ground.data }], guard := none }, { dst := some 33, op := Op.load 30 (Operand.tmp 32), type := 30, pos := "rows.go:47", after := #[{ on := 3, ground := Ground.data }], guard := none }, { dst := some 34, op := Op.buildSlice 25 1 #[(0, Operand.tmp 33)], type := 25, pos := "rows.go:47", after := #[{ on := 4, ground := Ground.data }], guard := none }, { dst := some 35, op := Op.call { callee := Callee.builtin Builtin.append, args := #[Operand.tmp 29, Operand.tmp 34], argTypes := #[25, 25] }, type := 25, pos := "rows.go:47", after := #[{ on := 0, ground := Ground.data }, { on := 5, ground := Ground.data }], guard := none }, { dst := none, op := Op.store 25 (Operand.tmp 8) (Operand.tmp 35), type := 0, pos := "rows.go:47", after := #[{ on := 6, ground := Ground.data }, { on := 6, ground := Ground.chain }, { on := 0, ground := Ground.phase }, { on := 1, ground := Ground.phase }, { on := 2, ground := Ground.phase }, { on := 3, ground := Ground.phase }, { on := 4, ground := Ground.phase }, { on := 5, ground := Ground.phase }, { on := 6, ground := Ground.phase }], guard := none }] true) Q { tmps := #[u0, u1, u2, u3, u4, u5, u6, u7, .pointer (some ⟨tb, 0, none⟩), .slice (some ⟨g, o, none⟩) m c, u10, u11, u12, u13, u14, u15, u16, u17, u18, u19, u20, u21, u22, u23, u24, u25, u26, u27, u28, u29, u30, u31, u32, u33, u34, u35, u36], defers := ds } w := by
  have HS : Hid (∀ W', Below w.heap.size w W' → W'.cell? ⟨tb, 0, none⟩ = some av ∧ W'.cell? ⟨g, o, none⟩ = some (.slice pa vn ca)) := fun W' h => ⟨(htb.below h).cell 0, (h.cell (p := ⟨g, o, none⟩) hg).trans hgo⟩
  have HT : Hid (Blk w tb [av] 25) := htb
  have HO : Hid (w.ownsRow B 30 1 av n xs) := hown
  have HQ : Hid _ := hQ
  have HNT : Hid (some tb ≠ av.ownBlock) := hne
  obtain ⟨ac, nc, cc, rfl⟩ : ∃ a n c, av = .slice a n c := rowForm hown
  clear htb hown hQ hgo hne
  refine Code.wpIn_mono Nrm.imp ?_
  refine wpIn_region_round (fun W' => W'.cell? ⟨tb, 0, none⟩ = some (.slice ac nc cc) ∧ W'.cell? ⟨g, o, none⟩ = some (.slice pa vn ca)) 7 (by kernel_rfl) (by kernel_rfl) (fun ⟨_, _, h⟩ => h) ?_
  have hm0 : ¬ m = 0 := by omega
  have B0 : Below w.heap.size w w.drew := (Below.refl _ _).drew
  have S0 := HS.out _ B0
  refine wpAnyL_take 0 (some 29) (.slice ac nc cc) rfl rfl (by kernel_rfl) (by kernel_rfl) (by kernel_rfl) (by kernel_rfl) (fun _ _ _ h => h) (Or.inl ⟨by rfl, fun w' hw' => by obtain ⟨q0, q1⟩ := hw'; go_simp⟩) S0 ?_
  simp only [Act.put, List.setIfInBounds_toArray, List.set_cons_zero, List.set_cons_succ]
  refine wpAnyL_take 1 (some 30) (.slice (some ⟨g, o, none⟩) m c) rfl rfl (by kernel_rfl) (by kernel_rfl) (by kernel_rfl) (by kernel_rfl) (fun _ _ _ h => h) (Or.inl ⟨by rfl, fun w' hw' => by obtain ⟨q0, q1⟩ := hw'; go_simp⟩) S0 ?_
  simp only [Act.put, List.setIfInBounds_toArray, List.set_cons_zero, List.set_cons_succ]
  refine wpAnyL_take 2 (some 31) (.pointer (some ⟨g, o, none⟩)) rfl rfl (by kernel_rfl) (by kernel_rfl) (by kernel_rfl) (by kernel_rfl) (fun _ _ _ h => h) (Or.inl ⟨by rfl, fun w' hw' => by obtain ⟨q0, q1⟩ := hw'; go_simp⟩) S0 ?_
  simp only [Act.put, List.setIfInBounds_toArray, List.set_cons_zero, List.set_cons_succ]
  refine wpAnyL_take 3 (some 32) (.pointer (some ⟨g, o, none⟩)) rfl rfl (by kernel_rfl) (by kernel_rfl) (by kernel_rfl) (by kernel_rfl) (fun _ _ _ h => h) (Or.inl ⟨by rfl, fun w' hw' => by obtain ⟨q0, q1⟩ := hw'; go_simp⟩) S0 ?_
  simp only [Act.put, List.setIfInBounds_toArray, List.set_cons_zero, List.set_cons_succ]
  refine wpAnyL_take 4 (some 33) (.slice pa vn ca) rfl rfl (by kernel_rfl) (by kernel_rfl) (by kernel_rfl) (by kernel_rfl) (fun _ _ _ h => h) (Or.inl ⟨by rfl, fun w' hw' => by obtain ⟨q0, q1⟩ := hw'; go_simp⟩) S0 ?_
  simp only [Act.put, List.setIfInBounds_toArray, List.set_cons_zero, List.set_cons_succ]
  refine wpAnyL_ready (rs := [5]) (by kernel_rfl) (by simp) (AllReadyL.cons rfl (fun K hK => ?_) AllReadyL.nil)
  clear S0
  refine step_b1 rfl (some 34) rfl 25 30 (.tmp 33) rfl (.slice pa vn ca) rfl [.slice pa vn ca] (fun w => b1runA _ _ _ w) ?_
  intro g34 w8 hg34 B8 b34
  have B2 := bmore B0 B8
  refine hK.out _ _ (fun _ => HS.out _ B2) ?_
  clear hK K
  try simp only [Act.put, List.setIfInBounds_toArray, List.set_cons_zero, List.set_cons_succ]
  refine wpAnyL_ready (rs := [6]) (by kernel_rfl) (by simp) (AllReadyL.cons rfl (fun K hK => ?_) AllReadyL.nil)
  have O8 : w8.ownsRow B 30 1 (.slice ac nc cc) n xs := owns_keep HO.out (fun j hj => B2.block j (World.ownsRow.lt HO.out j hj).2)
  obtain ⟨i0, hi, hz0, hz1, hz2⟩ := info_parts' info30
  obtain ⟨v35, w9, hr9, r1, r2, r3, r4⟩ := run_append_own_at (P := Try.prog) w8 B 25 25 30 i0 (.slice none 0 0) 1 24 Try.underlying25 hi hz0 hz1 hz2 rfl (by decide) (.slice ac nc cc) n xs O8 ⟨g34, 0, none⟩ 1 1 [.slice pa vn ca] rfl (fun j x hx => by rw [Addr.add_mid, Nat.zero_add]; exact (b34.cell j).trans hx) (by intro u hu; simp at hu; subst hu; rfl) (by unfold maxLen; omega) (by omega) (Nat.le_trans hB B2.size)
  have hnew : ∀ k, v35.ownBlock = some k → (Value.slice ac nc cc).ownBlock = some k ∨ w8.heap.size ≤ k := fun k hk => r4.elim (fun q => .inl (q ▸ hk)) (fun q => .inr (by rw [q] at hk; cases hk; exact Nat.le_refl _))
  refine step_append_d rfl (some 35) rfl (.tmp 29) (.tmp 34) 25 rfl rfl _ _ rfl rfl (R := fun u w' => v35 = u ∧ w9 = w') ⟨v35, w9, hr9, rfl, rfl⟩ ?_
  rintro _ _ ⟨rfl, rfl⟩
  have k9 : Keep (fun b => (Value.slice ac nc cc).ownBlock = some b) w w9 := (Keep.of B2).trans (keep_of_grown r2) (fun _ _ h => h)
  have ht9 : Blk w9 tb [.slice ac nc cc] 25 := Blk.keep HT.out k9 (fun h => HNT.out h.symm)
  have S9 : w9.cell? ⟨tb, 0, none⟩ = some (.slice ac nc cc) ∧ w9.cell? ⟨g, o, none⟩ = some (.slice pa vn ca) := ⟨ht9.cell 0, (cell_block (r2.block g (Nat.lt_of_lt_of_le hg B2.size) hgn)).trans (HS.out _ B2).2⟩
  refine hK.out _ _ (fun _ => S9) ?_
  clear hK K
  try simp only [Act.put, List.setIfInBounds_toArray, List.set_cons_zero, List.set_cons_succ]
  refine wpAnyL_ready (rs := [7]) (by kernel_rfl) (by simp) (AllReadyL.cons rfl (fun K hK => ?_) AllReadyL.nil)
  obtain ⟨a9, n9, c9, rfl⟩ : ∃ a n c, v35 = .slice a n c := rowForm r1
  have z9 := ht9.cell 0
  have y9 := ht9.frozen 0
  have x9 := ht9.lt
  simp only [List.getElem?_cons_zero] at z9
  have HA9 : Hid (w9.ownsRow B 30 1 (.slice a9 n9 c9) (n + 1) (xs ++ [.slice pa vn ca])) := r1
  have HNew : Hid _ := hnew
  have HT9 : Hid (Blk w9 tb [.slice ac nc cc] 25) := ht9
  have HK9 : Hid _ := k9
  have HB2 : Hid _ := B2
  clear r1 r2 r3 r4 hnew ht9 k9 S9 O8 b34 hr9 hi hz0 hz1 hz2
  go_simp
  refine hK.out _ _ (fun h => absurd rfl h) ?_
  clear hK K
  try simp only [Act.put, List.setIfInBounds_toArray, List.set_cons_zero, List.set_cons_succ]
  refine wpAnyL_done (by kernel_rfl) ?_ _
  have hnt : Value.ownBlock (.slice a9 n9 c9) ≠ some tb := fun h => (HNew.out tb h).elim (fun q => HNT.out q.symm) (fun q => by have := Blk.lt HT.out; have := HB2.out.size; omega)
  have kt : Keep (fun b => b = tb) w9 (w9.setCell ⟨tb, 0, none⟩ (.slice a9 n9 c9)) := Keep.set (F := fun b => b = tb) (Keep.refl _ w9) (p := ⟨tb, 0, none⟩) (.inr rfl) _
  refine Nrm.normal (HQ.out _ _ _ (HT9.out.set _) (owns_keep HA9.out (fun j hj => kt.block j (World.ownsRow.lt HA9.out j hj).2 (fun e => hnt (e ▸ hj)))) (fun h => hnt h.symm) ?_ ?_)
  · exact (HK9.out.mono (fun b _ h => .inr h)).set (.inr (.inl rfl)) _
  · exact fun k h => (HNew.out k h).imp id (fun q => Nat.le_trans HB2.out.size q)
end Go.Proofs.Ytpagnphabchfcaa
