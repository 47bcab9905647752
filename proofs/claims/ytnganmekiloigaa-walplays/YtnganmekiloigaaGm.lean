/- Pieces in memory; a sector as a piece. -/
import Derived.Test.YtnganmekiloigaaJg
import Derived.Test.YtnganmekiloigaaGr
import Derived.Test.YtnganmekiloigaaCr
import Derived.Laws.BitsAllLaws
namespace Go.Proofs.Ytnganmekiloigaa
open Go.RowKit
set_option maxRecDepth 100000
variable {w w' : World}

def fix57 (b : Bs) : Bs := (b ++ List.replicate 57 0).take 57
theorem fix57_length (b : Bs) : (fix57 b).length = 57 := by simp [fix57]
theorem fix57_eq {b : Bs} (h : b.length = 57) : fix57 b = b := by simp [fix57, ← h]
def headC (x : Pc) : List Value := [.int .i64 (x.e : Int), .int .i64 (x.p : Int), .int .i64 (x.k : Int), .int .i64 (x.n : Int)]
def encPc (x : Pc) : List Value := headC x ++ (.int .i64 (x.z : Int) :: cellsB (fix57 x.b))
theorem encPc_length (x : Pc) : (encPc x).length = 62 := by simp [encPc, headC, cellsB_length, fix57_length]
theorem encPc_one (x : Pc) : ∀ u ∈ encPc x, u.oneCell' = true := by
  intro u hu
  simp only [encPc, headC, List.cons_append, List.nil_append, List.mem_cons] at hu
  rcases hu with rfl | rfl | rfl | rfl | rfl | h
  · rfl
  · rfl
  · rfl
  · rfl
  · rfl
  · exact cellsB_one _ u h
theorem und106 : Try.prog.underlying 106 = some (.slice 141) := by kernel_rfl
def zPc : Pc := ⟨0, 0, 0, 0, 0, []⟩
theorem info141z : (Try.prog.info? 141).map (fun i => (i.zero, i.size, i.bytes)) = some (some ((.agg (encPc zPc).toArray)), 62, 104) := by kernel_rfl
theorem info141s : (Try.prog.info? 141).map (·.size) = some 62 := by kernel_rfl
theorem info139s : (Try.prog.info? 139).map (·.size) = some 57 := by kernel_rfl
theorem info138s : (Try.prog.info? 138).map (·.size) = some 4 := by kernel_rfl
def EPc : Ety Pc := ⟨62, encPc, 141, 106, (.agg (encPc zPc).toArray), 104, encPc_length, encPc_one, und106, info141z, by simp [Value.cells, encPc_length], by decide, by decide⟩

theorem or8 (a b : Nat) (hb : b < 256) : (a <<< 8) ||| b = 256 * a + b := by
  rw [← Nat.shiftLeft_add_eq_or_of_lt (i := 8) (by omega), Nat.shiftLeft_eq]
  omega
theorem or_i64 (a b : Nat) (ha : a < 65536) (hb : b < 256) : bits .or .i64 (a : Int) (b : Int) = ((a ||| b : Nat) : Int) := by
  have hx : a ||| b < 2 ^ 16 := Nat.or_lt_two_pow (by omega) (by omega)
  have h1 : ∀ n : Nat, n < 65536 → (BitVec.ofInt 64 (n : Int)).toNat = n := fun n hn => by
    rw [BitVec.toNat_ofInt]; omega
  show IntKind.i64.wrap ((BitVec.ofInt 64 (a : Int) ||| BitVec.ofInt 64 (b : Int)).toNat : Int) = _
  rw [BitVec.toNat_or, h1 a ha, h1 b (by omega)]
  rw [IntKind.wrap_i64]
  omega
theorem or_bytes (a b : Nat) (ha : a < 256) (hb : b < 256) : bits .or .i64 (IntKind.i64.wrap (IntKind.i64.wrap (a : Int) * 256)) (IntKind.i64.wrap (b : Int)) = ((256 * a + b : Nat) : Int) := by
  have e1 : IntKind.i64.wrap (a : Int) = (a : Int) := by rw [IntKind.wrap_i64]; omega
  have e2 : IntKind.i64.wrap (b : Int) = (b : Int) := by rw [IntKind.wrap_i64]; omega
  have e3 : IntKind.i64.wrap ((a : Int) * 256) = ((a * 256 : Nat) : Int) := by rw [IntKind.wrap_i64]; omega
  have e4 := or8 a b hb
  rw [Nat.shiftLeft_eq] at e4
  rw [e1, e2, e3, or_i64 _ _ (by omega) hb, e4]
set_option maxHeartbeats 400000 in
theorem two108 {g o n c : Nat} {a b : Nat} (h0 : w.cell? ⟨g, o, none⟩ = some (.int .u8 (a : Int))) (h1 : w.cell? ⟨g, o + 1, none⟩ = some (.int .u8 (b : Int))) (ha : a < 256) (hb : b < 256) (hn : 2 ≤ n) :
    Calls Try.prog 108 #[.slice (some ⟨g, o, none⟩) n c] w fun e w' => e = .returned (.int .i64 ((256 * a + b : Nat) : Int)) ∧ Below w.heap.size w w' := by
  have hn0 : (0 : Int) < (n : Int) := by omega
  have hn2 : 0 < n := by omega
  have hn3 : 1 < n := by omega
  have hn1 : (1 : Int) < (n : Int) := by omega
  have hS0 : w.drew.cell? ⟨g, o, none⟩ = some (.int .u8 (a : Int)) ∧ w.drew.cell? ⟨g, o + 1, none⟩ = some (.int .u8 (b : Int)) := ⟨h0, h1⟩
  go_enter Try.func108, Try.ntmps108
  go_wp2
  go_region_held3 (fun W => W.cell? ⟨g, o, none⟩ = some (.int .u8 (a : Int)) ∧ W.cell? ⟨g, o + 1, none⟩ = some (.int .u8 (b : Int))) (first | exact hS0) (skip)
  go_wp2
  go_ret
  refine ⟨?_, (Below.refl _ _).drew⟩
  show Ending.returned (Value.int IntKind.i64 (bits BinOp.or IntKind.i64 (IntKind.i64.wrap (IntKind.i64.wrap (a : Int) * 256)) (IntKind.i64.wrap (b : Int)))) = _
  rw [or_bytes a b ha hb]

theorem info141a : (Try.prog.info? 141).map (fun i => (i.zero, i.size, i.bytes)) = some (some (.agg (encPc zPc).toArray), 62, 104) := info141z
theorem results_cell2 {fn : Func} {t u : Tmp} {ty : TypeId} (h : fn.results = #[.cell t ty, .tmp u]) (tmps : Array Value) (P : Program) (w : World) (b : Nat) (l : List Value) (t' : TypeId) (hb : Blk w b l t') (ht : tmps.getD t undef = .pointer (some ⟨b, 0, none⟩)) (d : TypeDesc) (hu : P.underlying ty = some d) (hd : d.isRow = true) (hi : (P.info? ty).map (·.size) = some l.length) :
    (results fn tmps).run P w = .ok (.tuple #[.agg l.toArray, tmps.getD u undef]) w := by
  have ht' : tmps[t]?.getD undef = .pointer (some ⟨b, 0, none⟩) := by simpa using ht
  simp [results, h, ht', asAddr, run_loadVar_mid w b 0 ty l d hb.whole hu hd hi]
theorem wpList_build {P : Program} {ops : Array Oper} {rest : List Oper} {o : Oper} {a : Act} {w : World} {Q : Exit → Act → World → Prop} (hg : o.guard = none) (t : TypeId) (fs : Array (Nat × Operand)) (hop : o.op = .build t fs) (ps : Array (Nat × Value)) (hps : (fs.map fun (i, x) => (i, a.eval x)) = ps) (cs : List Value) (hb : P.built t ps.toList = some cs.toArray)
    (h : wpList P ops Q rest (a.put o.dst (.agg cs.toArray)) w) : wpList P ops Q (o :: rest) a w := by
  refine wpList_plain hg fun K hK' => ?_
  unfold Oper.wp
  simp only [execOp, hop, hps, Sem.run_bind, run_build w t ps cs.toArray hb, Result.andThen_ok, Sem.run_pure]
  exact hK' _ _ h
theorem built141 (z : Nat) : Try.prog.built 141 [(1, .int .i64 (z : Int))] = some (encPc ⟨0, 0, 0, 0, z, []⟩).toArray := by kernel_rfl
theorem kbel {b B : Nat} {w0 w w' : World} (h : Below B w0 w) (k : Keep (fun k => k = b) w w') (hb : B ≤ b) (hB : B ≤ w0.heap.size) : Below B w0 w' := h.trans (k.below (Nat.le_trans hB h.size) (fun _ e => e ▸ hb))
/-- What a cell holds. -/
def got (W : World) (a : Addr) : Value := (W.cell? a).getD undef
theorem Blk.got {W : World} {b j : Nat} {l : List Value} {t : TypeId} (h : Blk W b l t) (hj : j < l.length) : W.cell? ⟨b, j, none⟩ = some (Ytnganmekiloigaa.got W ⟨b, j, none⟩) := by
  unfold Ytnganmekiloigaa.got
  rw [h.cell, List.getElem?_eq_getElem hj]; rfl
theorem Blk.other {W : World} {b : Nat} {l : List Value} {t : TypeId} (h : Blk W b l t) {p : Addr} (hp : b ≠ p.block) (v : Value) : Blk (W.setCell p v) b l t := h.block (Below.heap_setCell _ _ _ _ hp)
theorem bset {B : Nat} {w w1 : World} (h : Below B w w1) {p : Addr} (hp : B ≤ p.block) (v : Value) : Below B w (w1.setCell p v) := h.trans ⟨rfl, rfl, rfl, by simp [World.setCell], fun k hk => Below.heap_setCell _ _ _ _ (by omega)⟩
theorem splice_bytes (x : Pc) (b : Bs) (hb : b.length = 57) : splice (encPc x) 5 (cellsB b) = encPc { x with b := b } := by
  have e : encPc x = (headC x ++ [.int .i64 (x.z : Int)]) ++ cellsB (fix57 x.b) := by simp [encPc]
  rw [e]
  unfold splice
  rw [List.take_append_of_le_length (by simp [headC]), List.take_of_length_le (by simp [headC]), List.drop_of_length_le (by simp [headC, cellsB_length, fix57_length, hb]), List.append_nil]
  simp [encPc, headC, fix57_eq hb]
set_option maxHeartbeats 1000000 in
theorem pieceIn99 {g : Nat} {x : Bs} (hx : x.length = 64) (hb : Blk w g (cellsB x) 5) :
    Calls Try.prog 99 #[.slice (some ⟨g, 0, none⟩) 64 64] w fun e w' => e = .returned (.agg (encPc (pcOf x)).toArray) ∧ Below w.heap.size w w' := by
  have hc : ∀ W, Below w.heap.size w W → ∀ i, i < 64 → W.cell? ⟨g, i, none⟩ = some (.int .u8 ((u8 x i : Nat) : Int)) := fun W k i hi => ((hb.below k).cell i).trans (by rw [cellsB_get x i (by omega)]; rfl)
  have HC : Hid (∀ W, Below w.heap.size w W → ∀ i, i < 64 → W.cell? ⟨g, i, none⟩ = some (.int .u8 ((u8 x i : Nat) : Int))) := hc
  have hz6 : IntKind.i64.wrap ((u8 x 6 : Nat) : Int) = ((u8 x 6 : Nat) : Int) := by have := u8_lt x 6; rw [IntKind.wrap_i64]; omega
  clear hc
  go_enter Try.func99, Try.ntmps99
  go_wp2_with (first
    | (refine wpList_alloc_row rfl 141 rfl (encPc zPc) info141a ?_; first
        | (intro w2 b2 k2 s2; have q2 : Below w.heap.size w w2 := bmore k1 k2)
        | (intro w1 b1 k1 s1; have q6 := HC.out _ k1 6 (by omega)))
    | (refine wpList_build rfl 141 _ rfl #[(1, .int .i64 ((u8 x 6 : Nat) : Int))] (by simp [Act.eval]) _ (built141 _) ?_)
    | (refine wpList_store_whole rfl 141 (.tmp 3) (.tmp 8) rfl w1.heap.size (encPc ⟨0, 0, 0, 0, u8 x 6, []⟩) rfl rfl (encPc zPc) 141 b2 (by rw [encPc_length, encPc_length]) (by rw [encPc_length]; exact info141s) (encPc_one _) ?_; intro w3 b3 k3 s3))
  have hB1 : w1.heap.size = w.heap.size + 1 := s1
  have q3 : Below w.heap.size w w3 := kbel q2 k3 (by omega) (Nat.le_refl _)
  have hgz := hb.lt
  have r1 : Blk w3 w.heap.size (encPc zPc) 141 := (b1.below k2).block (k3.block _ (by omega) (by omega))
  have hs3 : w3.heap.size = w.heap.size + 2 := by omega
  clear b1 k1 k2 k3 s1 s2 s3 q2 q6 b2
  generalize w1.heap.size = B at *
  have HQ3 : Hid (Below w.heap.size w w3) := q3
  have K0 : Below w3.heap.size w3 w3.drew := (Below.refl _ _).drew
  have HL : Hid (∀ W l, Blk W B l 141 → l.length = 62 → Below w.heap.size w W → W.cell? ⟨g, 4, none⟩ = some (.int .u8 ((u8 x 4 : Nat) : Int)) ∧ W.cell? ⟨g, 5, none⟩ = some (.int .u8 ((u8 x 5 : Nat) : Int)) ∧ W.cell? ⟨B, 0, none⟩ = some (got W ⟨B, 0, none⟩) ∧ W.cell? ⟨B, 1, none⟩ = some (got W ⟨B, 1, none⟩) ∧ W.cell? ⟨B, 2, none⟩ = some (got W ⟨B, 2, none⟩) ∧ W.cell? ⟨B, 3, none⟩ = some (got W ⟨B, 3, none⟩) ∧ W.frozen? ⟨B, 0, none⟩ = false ∧ W.frozen? ⟨B, 1, none⟩ = false ∧ W.frozen? ⟨B, 2, none⟩ = false ∧ W.frozen? ⟨B, 3, none⟩ = false) := fun W l h hl k => ⟨HC.out _ k 4 (by omega), HC.out _ k 5 (by omega), h.got (by omega), h.got (by omega), h.got (by omega), h.got (by omega), h.frozen _, h.frozen _, h.frozen _, h.frozen _⟩
  have H108 : Hid (∀ W o n, Below w3.heap.size w3 W → o + 1 < 64 → 2 ≤ n → Calls Try.prog 108 #[.slice (some ⟨g, o, none⟩) n n] W fun e w' => e = .returned (.int .i64 ((256 * u8 x o + u8 x (o + 1) : Nat) : Int)) ∧ Below W.heap.size W w') := fun W o n k ho hn => two108 (HC.out _ (bmore q3 k) o (by omega)) (HC.out _ (bmore q3 k) (o + 1) (by omega)) (u8_lt _ _) (u8_lt _ _) hn
  have k108 := H108.out _ 0 64 K0 (by omega) (by omega)
  have hl3 : (encPc ⟨0, 0, 0, 0, u8 x 6, []⟩).length = 62 := encPc_length _
  have HS : Hid (∀ W, Below w3.heap.size w3 W → W.cell? ⟨g, 4, none⟩ = some (.int .u8 ((u8 x 4 : Nat) : Int)) ∧ W.cell? ⟨g, 5, none⟩ = some (.int .u8 ((u8 x 5 : Nat) : Int)) ∧ W.cell? ⟨B, 0, none⟩ = some (got W ⟨B, 0, none⟩) ∧ W.cell? ⟨B, 1, none⟩ = some (got W ⟨B, 1, none⟩) ∧ W.cell? ⟨B, 2, none⟩ = some (got W ⟨B, 2, none⟩) ∧ W.cell? ⟨B, 3, none⟩ = some (got W ⟨B, 3, none⟩) ∧ W.frozen? ⟨B, 0, none⟩ = false ∧ W.frozen? ⟨B, 1, none⟩ = false ∧ W.frozen? ⟨B, 2, none⟩ = false ∧ W.frozen? ⟨B, 3, none⟩ = false) := fun W k => HL.out W _ (b3.below k) hl3 (bmore q3 k)
  have hS0 := HS.out _ K0
  have HB3 : Hid (∀ W, Below w3.heap.size w3 W → Blk W B (encPc ⟨0, 0, 0, 0, u8 x 6, []⟩) 141) := fun W k => b3.below k
  generalize hp3 : encPc ⟨0, 0, 0, 0, u8 x 6, []⟩ = p3 at *
  have HL2 : Hid (∀ W (v0 v1 v2 v3 : Value), Below w3.heap.size w3 W → Below w.heap.size w ((((W.setCell ⟨B, 0, none⟩ v0).setCell ⟨B, 1, none⟩ v1).setCell ⟨B, 2, none⟩ v2).setCell ⟨B, 3, none⟩ v3)) := fun W v0 v1 v2 v3 k => bset (bset (bset (bset (bmore q3 k) (by show _ ≤ B; omega) _) (by show _ ≤ B; omega) _) (by show _ ≤ B; omega) _) (by show _ ≤ B; omega) _
  have HL3 : Hid (∀ W (v0 v1 v2 v3 : Value), Below w3.heap.size w3 W → Blk ((((W.setCell ⟨B, 0, none⟩ v0).setCell ⟨B, 1, none⟩ v1).setCell ⟨B, 2, none⟩ v2).setCell ⟨B, 3, none⟩ v3) B ((((p3.set 0 v0).set 1 v1).set 2 v2).set 3 v3) 141) := fun W v0 v1 v2 v3 k => (((((HB3.out _ k).set v0).set v1).set v2).set v3)
  have hz4 : IntKind.i64.wrap ((u8 x 4 : Nat) : Int) = ((u8 x 4 : Nat) : Int) := by have := u8_lt x 4; rw [IntKind.wrap_i64]; omega
  have hz5 : IntKind.i64.wrap ((u8 x 5 : Nat) : Int) = ((u8 x 5 : Nat) : Int) := by have := u8_lt x 5; rw [IntKind.wrap_i64]; omega
  have HB1 : Hid (B = w.heap.size + 1 ∧ w3.heap.size = w.heap.size + 2) := ⟨hB1, hs3⟩
  clear hB1 hs3
  go_region_held3 (fun W => W.cell? ⟨g, 4, none⟩ = some (.int .u8 ((u8 x 4 : Nat) : Int)) ∧ W.cell? ⟨g, 5, none⟩ = some (.int .u8 ((u8 x 5 : Nat) : Int)) ∧ W.cell? ⟨B, 0, none⟩ = some (got W ⟨B, 0, none⟩) ∧ W.cell? ⟨B, 1, none⟩ = some (got W ⟨B, 1, none⟩) ∧ W.cell? ⟨B, 2, none⟩ = some (got W ⟨B, 2, none⟩) ∧ W.cell? ⟨B, 3, none⟩ = some (got W ⟨B, 3, none⟩) ∧ W.frozen? ⟨B, 0, none⟩ = false ∧ W.frozen? ⟨B, 1, none⟩ = false ∧ W.frozen? ⟨B, 2, none⟩ = false ∧ W.frozen? ⟨B, 3, none⟩ = false) (first | exact hS0 | exact HS.out _ KK | exact HL.out _ _ (HL3.out _ _ _ _ _ KK) (by simp [hl3]) (HL2.out _ _ _ _ _ KK)) (first
    | (go_at_call 108; (with_reducible refine k108.mono ?_); rintro e y1 ⟨rfl, C1⟩; have KK := bmore K0 C1; have k109 := H108.out _ 2 62 KK (by omega) (by omega); clear C1 K0 hS0 k108)
    | (go_at_call 108; (with_reducible refine k109.mono ?_); rintro e y2 ⟨rfl, C1⟩; replace KK := bmore KK C1; clear C1 k109))
  obtain ⟨hB1, hs3⟩ := HB1.out
  have b6 := HL3.out _ (.int .i64 (256 * ((u8 x 0 : Nat) : Int) + ((u8 x 1 : Nat) : Int))) (.int .i64 (256 * ((u8 x 2 : Nat) : Int) + ((u8 x 3 : Nat) : Int))) (.int .i64 ((u8 x 4 : Nat) : Int)) (.int .i64 ((u8 x 5 : Nat) : Int)) KK
  have q6 := HL2.out _ (.int .i64 (256 * ((u8 x 0 : Nat) : Int) + ((u8 x 1 : Nat) : Int))) (.int .i64 (256 * ((u8 x 2 : Nat) : Int) + ((u8 x 3 : Nat) : Int))) (.int .i64 ((u8 x 4 : Nat) : Int)) (.int .i64 ((u8 x 5 : Nat) : Int)) KK
  have r6 : Blk ((((y2.setCell ⟨B, 0, none⟩ (.int .i64 (256 * ((u8 x 0 : Nat) : Int) + ((u8 x 1 : Nat) : Int)))).setCell ⟨B, 1, none⟩ (.int .i64 (256 * ((u8 x 2 : Nat) : Int) + ((u8 x 3 : Nat) : Int)))).setCell ⟨B, 2, none⟩ (.int .i64 ((u8 x 4 : Nat) : Int))).setCell ⟨B, 3, none⟩ (.int .i64 ((u8 x 5 : Nat) : Int))) w.heap.size (encPc zPc) 141 := ((((r1.below KK).other (by show _ ≠ B; omega) _).other (by show _ ≠ B; omega) _).other (by show _ ≠ B; omega) _).other (by show _ ≠ B; omega) _
  generalize ((((y2.setCell ⟨B, 0, none⟩ (.int .i64 (256 * ((u8 x 0 : Nat) : Int) + ((u8 x 1 : Nat) : Int)))).setCell ⟨B, 1, none⟩ (.int .i64 (256 * ((u8 x 2 : Nat) : Int) + ((u8 x 3 : Nat) : Int)))).setCell ⟨B, 2, none⟩ (.int .i64 ((u8 x 4 : Nat) : Int))).setCell ⟨B, 3, none⟩ (.int .i64 ((u8 x 5 : Nat) : Int))) = w6 at *
  clear hB1 hs3
  have hlt6 := b6.lt
  have e6 : ((((p3.set 0 (.int .i64 (256 * ((u8 x 0 : Nat) : Int) + ((u8 x 1 : Nat) : Int)))).set 1 (.int .i64 (256 * ((u8 x 2 : Nat) : Int) + ((u8 x 3 : Nat) : Int)))).set 2 (.int .i64 ((u8 x 4 : Nat) : Int))).set 3 (.int .i64 ((u8 x 5 : Nat) : Int))) = encPc ⟨(pcOf x).e, (pcOf x).p, (pcOf x).k, (pcOf x).n, u8 x 6, []⟩ := by rw [← hp3]; simp [encPc, headC, pcOf]
  simp only [e6] at b6
  have hb57 : (x.drop 7).length = 57 := by simp [hx]
  have b7 := b6.below (Below.refl _ _).drew
  have q7 : Below w.heap.size w w6.drew := bmore q6 (Below.refl _ _).drew
  have HSRC : Hid (∀ j v, (cellsB (x.drop 7))[j]? = some v → w6.drew.cell? ((⟨g, 7, none⟩ : Addr).add j) = some v) := fun j v hv => by
    have hj := (List.getElem?_eq_some_iff.1 hv).1
    rw [cellsB_length] at hj
    rw [show (⟨g, 7, none⟩ : Addr).add j = ⟨g, 7 + j, none⟩ by unfold Addr.add; split <;> simp_all, HC.out _ q7 (7 + j) (by omega)]
    rw [cellsB_get _ _ hj] at hv
    rw [← hv]
    simp [u8, List.getD_eq_getElem?_getD]
  have hcl : (cellsB (x.drop 7)).length = 57 := by rw [cellsB_length]; exact hb57
  have hc1 := cellsB_one (x.drop 7)
  have e7 := splice_bytes ⟨(pcOf x).e, (pcOf x).p, (pcOf x).k, (pcOf x).n, u8 x 6, []⟩ (x.drop 7) hb57
  have hl7 := encPc_length ⟨(pcOf x).e, (pcOf x).p, (pcOf x).k, (pcOf x).n, u8 x 6, []⟩
  clear b6 e6 hp3
  generalize encPc ⟨(pcOf x).e, (pcOf x).p, (pcOf x).k, (pcOf x).n, u8 x 6, []⟩ = p7 at *
  generalize cellsB (x.drop 7) = cb at *
  obtain ⟨p7', hp7⟩ : ∃ l, encPc { e := (pcOf x).e, p := (pcOf x).p, k := (pcOf x).k, n := (pcOf x).n, z := u8 x 6, b := x.drop 7 } = l := ⟨_, rfl⟩
  rw [hp7] at e7
  have HP7 : Hid (encPc { e := (pcOf x).e, p := (pcOf x).p, k := (pcOf x).k, n := (pcOf x).n, z := u8 x 6, b := x.drop 7 } = p7') := hp7
  clear hp7
  go_wp2_with fail
  go_region_held3 (fun _ => True) (exact trivial) ((refine step_copy_splice rfl (.tmp 26) (.tmp 28) 33 33 rfl 5 Try.underlying33 info5s (some ⟨B, 5, none⟩) (some ⟨g, 7, none⟩) 57 57 57 57 (by rfl) (by rfl) B 5 p7 141 b7 cb (by rw [hcl]; rfl) (fun _ => ⟨rfl, _, rfl, HSRC.out⟩) (by omega) hc1 B w6.drew (Below.refl _ _) (Nat.le_refl _) ?_; intro w8 h8 k8))
  obtain ⟨hB1, hs3⟩ := HB1.out
  have b8 : Blk w8 B p7' 141 := by rw [← e7]; exact h8.out
  have q8 : Below w.heap.size w w8 := q7.trans (k8.mono (by omega))
  have r8 : Blk w8 w.heap.size (encPc zPc) 141 := (r6.below (Below.refl _ _).drew).block (k8.block _ (by omega))
  have hz8 : (encPc zPc).length = 62 := encPc_length _
  have hl8 : p7'.length = 62 := by rw [← HP7.out]; exact encPc_length _
  have ho8 : ∀ u ∈ p7', u.oneCell' = true := by rw [← HP7.out]; exact encPc_one _
  have hr8 := b8.whole
  generalize encPc zPc = z0 at *
  clear hB1 hs3
  go_wp2_with (first
    | (refine wpList_load_mid rfl 141 (.tmp 3) rfl B 0 rfl p7' _ hr8 Try.underlying141 rfl (by rw [hl8]; exact info141s) ?_)
    | (refine wpList_store_whole rfl 141 (.tmp 2) (.tmp 30) rfl w.heap.size p7' rfl rfl z0 141 r8 (by omega) (by rw [hl8]; exact info141s) ho8 ?_; intro w9 b9 k9 s9))
  refine bodyPost_ret (v := .agg p7'.toArray) (results_cell rfl _ _ _ _ _ _ b9 rfl _ Try.underlying141 rfl (by rw [hl8]; exact info141s)) rfl ⟨?_, kbel q8 k9 (Nat.le_refl _) (Nat.le_refl _)⟩
  rw [← HP7.out]
  rfl
end Go.Proofs.Ytnganmekiloigaa
