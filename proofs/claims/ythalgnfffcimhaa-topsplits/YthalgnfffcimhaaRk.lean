/- Canon: a row is laid on. -/
import Derived.Test.YthalgnfffcimhaaLr
namespace Go.Proofs.Ythalgnfffcimhaa
open Go.RowKit Go.Shelf
set_option maxRecDepth 100000
theorem sv_both {w w' : World} {X F : Nat → Prop} {v : Value} {vs : List Vt} (h : SV w X v vs) (h' : SV w F v vs) (k : Keep F w w') : SV w' X v vs := by
  obtain ⟨a, c, rfl, hh⟩ := h
  obtain ⟨a', c', hv, hh'⟩ := h'
  simp only [Value.slice.injEq] at hv
  obtain ⟨rfl, -, rfl⟩ := hv
  refine ⟨a, c, rfl, fun h0 => ?_⟩
  obtain ⟨g, o, rfl, hg, hx, hc⟩ := hh h0
  obtain ⟨g', o', hq, _, hf, _⟩ := hh' h0
  simp only [Option.some.injEq, Addr.mk.injEq] at hq
  obtain ⟨rfl, rfl, _⟩ := hq
  exact ⟨g, o, rfl, Nat.lt_of_lt_of_le hg k.size, hx, fun i s hs => ⟨(k.cell hg hf).trans (hc i s hs).1, (k.cell hg hf).trans (hc i s hs).2.1, (k.cell hg hf).trans (hc i s hs).2.2⟩⟩
theorem cell_block {w w' : World} {b o : Nat} (h : w'.heap[b]? = w.heap[b]?) : w'.cell? ⟨b, o, none⟩ = w.cell? ⟨b, o, none⟩ := by simp only [World.cell?, h]
theorem b1run (v : Value) (f t : Int) (w : World) (a : Option Addr) (n c : Nat) (hv : v = .slice a n c) : (Instr.buildSlice 31 1 #[(0, .agg #[v, .int .i64 f, .int .i64 t])]).run Try.prog w = .ok (.slice (some ⟨w.heap.size, 0, none⟩) 1 1) (w.alloc (.cells #[v, .int .i64 f, .int .i64 t] 30)) := by
  subst hv
  go_simp
theorem OwnR.form {w : World} {B : Nat} {v : Value} {es : List El} (h : OwnR w B v es) : ∃ a n c, v = .slice a n c := by
  obtain ⟨_, ⟨h, _⟩ | ⟨g, cap, cur, h, _⟩⟩ := h.row
  · exact ⟨_, _, _, h⟩
  · exact ⟨_, _, _, h⟩
/-- Q at a common end, and nothing else. -/
def Nrm (Q : Exit → Act → World → Prop) : Exit → Act → World → Prop
  | .normal, a, w => Q .normal a w
  | _, _, _ => False
theorem Nrm.normal {Q : Exit → Act → World → Prop} {a : Act} {w : World} (h : Q .normal a w) : Nrm Q .normal a w := h
theorem Nrm.imp {Q : Exit → Act → World → Prop} : ∀ (e : Exit) (a : Act) (w : World), Nrm Q e a w → Q e a w := fun e a w h => by
  cases e <;> first | exact h | exact (h : False).elim
/-- The list that grows, in a variable in the block tb. -/
structure CI (w : World) (tb B : Nat) (cv : Value) (ce : List El) : Prop where
  blk : Blk w tb [cv] 31
  own : OwnR w B cv ce
  ne : some tb ≠ cv.ownBlock
  vals : ∀ e ∈ ce, SV w (fun b => b = tb ∨ cv.ownBlock = some b) e.1 e.2.1
theorem CI.keep {w w' : World} {tb B : Nat} {cv : Value} {ce : List El} {F : Nat → Prop} (h : CI w tb B cv ce) (k : Keep F w w') (h1 : ¬ F tb) (h2 : ∀ b, cv.ownBlock = some b → ¬ F b) (h3 : ∀ e ∈ ce, SV w F e.1 e.2.1) : CI w' tb B cv ce := by
  refine ⟨h.blk.keep k h1, ⟨owns_keep h.own.row (fun j hj => k.block j (h.own.row.lt j hj).2 (h2 j hj)), fun e he => ?_⟩, h.ne, fun e he => ?_⟩
  · exact sv_both (h.own.vals e he) (h3 e he) k
  · exact sv_both (h.vals e he) (h3 e he) k
theorem CI.below {w w' : World} {tb B : Nat} {cv : Value} {ce : List El} (h : CI w tb B cv ce) (k : Below w.heap.size w w') : CI w' tb B cv ce := ⟨h.blk.below k, h.own.below k, h.ne, fun e he => (h.vals e he).below k⟩
theorem CI.set {w : World} {tb B : Nat} {cv u : Value} {ce : List El} (hb : Blk w tb [cv] 31) (ho : OwnR w B u ce) (hn : some tb ≠ u.ownBlock) (hv : ∀ e ∈ ce, SV w (fun b => b = tb ∨ u.ownBlock = some b) e.1 e.2.1) : CI (w.setCell ⟨tb, 0, none⟩ u) tb B u ce := by
  have k : Keep (fun b => b = tb) w (w.setCell ⟨tb, 0, none⟩ u) := Keep.set (F := fun b => b = tb) (Keep.refl _ w) (p := ⟨tb, 0, none⟩) (.inr rfl) u
  have k' : Keep (fun b => b = tb ∨ u.ownBlock = some b) w (w.setCell ⟨tb, 0, none⟩ u) := k.mono (fun b _ h => .inl h)
  refine ⟨hb.set u, ⟨owns_keep ho.row (fun j hj => k.block j (ho.row.lt j hj).2 (fun e => hn (by rw [← e, hj]))), fun e he => (hv e he).keep k' (fun b _ h => .inr h)⟩, hn, fun e he => (hv e he).keep k' (fun b _ h => h)⟩
set_option maxHeartbeats 4000000 in
theorem reg7 {l n tb sb g o m c B : Nat} {X : Nat → Prop} {cv : Value} {ce : List El} {pa : Option Addr} {ca : Nat} {vs : List Vt} {f t : Int} {u0 u1 u2 u5 u7 u8 u9 u10 u11 u12 u13 u14 u15 u16 u17 u18 u19 u20 u21 u22 u23 u24 u25 u26 u27 u28 u29 u30 : Value} {ds : List Deferred} {w : World} {Q : Exit → Act → World → Prop}
    (hI : CI w tb B cv ce) (hB : B ≤ w.heap.size) (hlen : ce.length ≤ 100000) (hm : (0 : Int) < (m : Int))
    (hg : g < w.heap.size) (hgn : some g ≠ cv.ownBlock) (hgo : w.cell? ⟨g, o, none⟩ = some (.slice pa vs.length ca)) (hsb : Blk w sb [.int .i64 f, .int .i64 t] 27) (hsl : sb < w.heap.size) (hsn : some sb ≠ cv.ownBlock)
    (hsv : SV w X (.slice pa vs.length ca) vs) (hvl : vs.length ≤ 1000)
    (hQ : ∀ v24 v26 v27 v28 w' (e : El), e.2 = (vs, f, t) → CI w' tb B v28 (ce ++ [e]) → SV w' (fun b => b < w.heap.size) e.1 e.2.1 → Keep (fun b => b = tb ∨ cv.ownBlock = some b) w w' → (∀ k, v28.ownBlock = some k → cv.ownBlock = some k ∨ w.heap.size ≤ k) → Q .normal { tmps := #[u0, u1, u2, .pointer (some ⟨tb, 0, none⟩), .slice (some ⟨g, o, none⟩) m c, u5, .pointer (some ⟨sb, 0, none⟩), u7, u8, u9, u10, u11, u12, u13, u14, u15, u16, u17, u18, cv, .slice (some ⟨g, o, none⟩) m c, .pointer (some ⟨g, o, none⟩), .pointer (some ⟨g, o, none⟩), .slice pa vs.length ca, v24, .agg #[.int .i64 f, .int .i64 t], v26, v27, v28, u29, u30], defers := ds } w') :
    Code.wpIn (Fence.wide.inRound l) n Try.prog (Code.region 7 #[{ dst := some 19, op := Op.load 31 (Operand.tmp 3), type := 31, pos := "rows.go:31", after := #[], guard := none }, { dst := some 20, op := Op.move (Operand.tmp 4), type := 31, pos := "rows.go:31", after := #[], guard := none }, { dst := some 21, op := Op.indexAddr 31 (Operand.tmp 20) (Operand.const (Value.int IntKind.i64 0)), type := 0, pos := "rows.go:31", after := #[{ on := 1, ground := Ground.data }], guard := none }, { dst := some 22, op := Op.fieldAddr 30 (Operand.tmp 21) 0, type := 0, pos := "rows.go:31", after := #[{ on := 2, ground := Ground.data }], guard := none }, { dst := some 23, op := Op.load 28 (Operand.tmp 22), type := 28, pos := "rows.go:31", after := #[{ on := 3, ground := Ground.data }], guard := none }, { dst := some 24, op := Op.call { callee := Callee.value (Operand.func 14), args := #[Operand.tmp 23], argTypes := #[28] }, type := 28, pos := "rows.go:31", after := #[{ on := 4, ground := Ground.data }], guard := none }, { dst := some 25, op := Op.load 27 (Operand.tmp 6), type := 27, pos := "rows.go:31", after := #[], guard := none }, { dst := some 26, op := Op.build 30 #[(0, Operand.tmp 24), (1, Operand.tmp 25)], type := 30, pos := "rows.go:31", after := #[{ on := 5, ground := Ground.data }, { on := 6, ground := Ground.data }], guard := none }, { dst := some 27, op := Op.buildSlice 31 1 #[(0, Operand.tmp 26)], type := 31, pos := "rows.go:31", after := #[{ on := 7, ground := Ground.data }], guard := none }, { dst := some 28, op := Op.call { callee := Callee.builtin Builtin.append, args := #[Operand.tmp 19, Operand.tmp 27], argTypes := #[31, 31] }, type := 31, pos := "rows.go:31", after := #[{ on := 0, ground := Ground.data }, { on := 8, ground := Ground.data }, { on := 5, ground := Ground.chain }], guard := none }, { dst := none, op := Op.store 31 (Operand.tmp 3) (Operand.tmp 28), type := 0, pos := "rows.go:31", after := #[{ on := 9, ground := Ground.data }, { on := 9, ground := Ground.chain }, { on := 0, ground := Ground.phase }, { on := 1, ground := Ground.phase }, { on := 2, ground := Ground.phase }, { on := 3, ground := Ground.phase }, { on := 4, ground := Ground.phase }, { on := 5, ground := Ground.phase }, { on := 6, ground := Ground.phase }, { on := 7, ground := Ground.phase }, { on := 8, ground := Ground.phase }, { on := 9, ground := Ground.phase }], guard := none }] true) Q { tmps := #[u0, u1, u2, .pointer (some ⟨tb, 0, none⟩), .slice (some ⟨g, o, none⟩) m c, u5, .pointer (some ⟨sb, 0, none⟩), u7, u8, u9, u10, u11, u12, u13, u14, u15, u16, u17, u18, u19, u20, u21, u22, u23, u24, u25, u26, u27, u28, u29, u30], defers := ds } w := by
  obtain ⟨htb, hown, hne, hvt⟩ := hI
  have HVT : Hid (∀ e ∈ ce, SV w (fun b => b = tb ∨ cv.ownBlock = some b) e.1 e.2.1) := hvt
  have HS : Hid (∀ W', Below w.heap.size w W' → W'.cell? ⟨tb, 0, none⟩ = some cv ∧ W'.cell? ⟨g, o, none⟩ = some (.slice pa vs.length ca) ∧ W'.cell? ⟨sb, 0, none⟩ = some (.int .i64 f) ∧ W'.cell? ⟨sb, 1, none⟩ = some (.int .i64 t)) := fun W' h => ⟨(htb.below h).cell 0, (h.cell (p := ⟨g, o, none⟩) hg).trans hgo, (hsb.below h).cell 0, (hsb.below h).cell 1⟩
  have HT : Hid (Blk w tb [cv] 31) := htb
  have HO : Hid _ := hown
  have HV : Hid (SV w X (.slice pa vs.length ca) vs) := hsv
  have HQ : Hid _ := hQ
  have HNT : Hid (some tb ≠ cv.ownBlock) := hne
  obtain ⟨ac, nc, cc, rfl⟩ : ∃ a n c, cv = .slice a n c := hown.form
  clear htb hown hsv hQ hgo hsb hne hvt
  refine Code.wpIn_mono Nrm.imp ?_
  refine wpIn_region_round (fun W' => W'.cell? ⟨tb, 0, none⟩ = some (.slice ac nc cc) ∧ W'.cell? ⟨g, o, none⟩ = some (.slice pa vs.length ca) ∧ W'.cell? ⟨sb, 0, none⟩ = some (.int .i64 f) ∧ W'.cell? ⟨sb, 1, none⟩ = some (.int .i64 t)) 10 (by kernel_rfl) (by kernel_rfl) (fun ⟨_, _, h⟩ => h) ?_
  have hm0 : ¬ m = 0 := by omega
  have B0 : Below w.heap.size w w.drew := (Below.refl _ _).drew
  have S0 := HS.out _ B0
  refine wpAnyL_take 0 (some 19) (.slice ac nc cc) rfl rfl (by kernel_rfl) (by kernel_rfl) (by kernel_rfl) (by kernel_rfl) (fun _ _ _ h => h) (Or.inl ⟨by rfl, fun w' hw' => by obtain ⟨q0, q1, q2, q3⟩ := hw'; go_simp⟩) S0 ?_
  simp only [Act.put, List.setIfInBounds_toArray, List.set_cons_zero, List.set_cons_succ]
  refine wpAnyL_take 1 (some 20) (.slice (some ⟨g, o, none⟩) m c) rfl rfl (by kernel_rfl) (by kernel_rfl) (by kernel_rfl) (by kernel_rfl) (fun _ _ _ h => h) (Or.inl ⟨by rfl, fun w' hw' => by obtain ⟨q0, q1, q2, q3⟩ := hw'; go_simp⟩) S0 ?_
  simp only [Act.put, List.setIfInBounds_toArray, List.set_cons_zero, List.set_cons_succ]
  refine wpAnyL_take 2 (some 21) (.pointer (some ⟨g, o, none⟩)) rfl rfl (by kernel_rfl) (by kernel_rfl) (by kernel_rfl) (by kernel_rfl) (fun _ _ _ h => h) (Or.inl ⟨by rfl, fun w' hw' => by obtain ⟨q0, q1, q2, q3⟩ := hw'; go_simp⟩) S0 ?_
  simp only [Act.put, List.setIfInBounds_toArray, List.set_cons_zero, List.set_cons_succ]
  refine wpAnyL_take 3 (some 22) (.pointer (some ⟨g, o, none⟩)) rfl rfl (by kernel_rfl) (by kernel_rfl) (by kernel_rfl) (by kernel_rfl) (fun _ _ _ h => h) (Or.inl ⟨by rfl, fun w' hw' => by obtain ⟨q0, q1, q2, q3⟩ := hw'; go_simp⟩) S0 ?_
  simp only [Act.put, List.setIfInBounds_toArray, List.set_cons_zero, List.set_cons_succ]
  refine wpAnyL_take 4 (some 23) (.slice pa vs.length ca) rfl rfl (by kernel_rfl) (by kernel_rfl) (by kernel_rfl) (by kernel_rfl) (fun _ _ _ h => h) (Or.inl ⟨by rfl, fun w' hw' => by obtain ⟨q0, q1, q2, q3⟩ := hw'; go_simp⟩) S0 ?_
  simp only [Act.put, List.setIfInBounds_toArray, List.set_cons_zero, List.set_cons_succ]
  refine wpAnyL_take 6 (some 25) (.agg #[.int .i64 f, .int .i64 t]) rfl rfl (by kernel_rfl) (by kernel_rfl) (by kernel_rfl) (by kernel_rfl) (fun _ _ _ h => h) (Or.inl ⟨by rfl, fun w' hw' => by obtain ⟨q0, q1, q2, q3⟩ := hw'; go_simp⟩) S0 ?_
  simp only [Act.put, List.setIfInBounds_toArray, List.set_cons_zero, List.set_cons_succ]
  refine wpAnyL_ready (rs := [5]) (by kernel_rfl) (by simp) (AllReadyL.cons rfl (fun K hK => ?_) AllReadyL.nil)
  have k20 := copied20 (w := w.drew) (SV.below HV.out B0) hvl
  clear S0
  go_simp
  go_at_call 14
  (with_reducible refine k20.mono ?_)
  rintro e w6 ⟨g6, rfl, hg6, hb6, B6⟩
  have B1 := bmore B0 B6
  try go_simp
  refine hK.out _ _ (fun _ => HS.out _ B1) ?_
  clear hK K
  try simp only [Act.put, List.setIfInBounds_toArray, List.set_cons_zero, List.set_cons_succ]
  refine wpAnyL_take 7 (some 26) (.agg #[.slice (some ⟨g6, 0, none⟩) vs.length vs.length, .int .i64 f, .int .i64 t]) rfl rfl (by kernel_rfl) (by kernel_rfl) (by kernel_rfl) (by kernel_rfl) (fun _ _ _ h => h) (Or.inl ⟨by rfl, fun w' hw' => by obtain ⟨q0, q1, q2, q3⟩ := hw'; go_simp⟩) (HS.out _ B1) ?_
  simp only [Act.put, List.setIfInBounds_toArray, List.set_cons_zero, List.set_cons_succ]
  refine wpAnyL_ready (rs := [8]) (by kernel_rfl) (by simp) (AllReadyL.cons rfl (fun K hK => ?_) AllReadyL.nil)
  refine step_b1 rfl (some 27) rfl 31 30 (.tmp 26) rfl (.agg #[.slice (some ⟨g6, 0, none⟩) vs.length vs.length, .int .i64 f, .int .i64 t]) rfl [.slice (some ⟨g6, 0, none⟩) vs.length vs.length, .int .i64 f, .int .i64 t] (fun w => b1run _ _ _ w _ _ _ rfl) ?_
  intro g27 w8 hg27 B8 b27
  have B2 := bmore B1 B8
  refine hK.out _ _ (fun _ => HS.out _ B2) ?_
  clear hK K
  try simp only [Act.put, List.setIfInBounds_toArray, List.set_cons_zero, List.set_cons_succ]
  refine wpAnyL_ready (rs := [9]) (by kernel_rfl) (by simp) (AllReadyL.cons rfl (fun K hK => ?_) AllReadyL.nil)
  have hb8 := hb6.below B8
  have O8 := OwnR.below HO.out B2
  have hg6' : w.heap.size ≤ g6 := hg6
  have HV8 : SV w8 (fun b => (Value.slice ac nc cc).ownBlock = some b) (.slice (some ⟨g6, 0, none⟩) vs.length vs.length) vs := SV.blk hb8 (fun q => by have := (HO.out.row.lt _ q).2; omega)
  obtain ⟨v28, w9, hr9, A9⟩ := OwnR.app O8 hlen (Nat.le_trans hB B2.size) 31 (gb := g27) (c := 1) (e := (.slice (some ⟨g6, 0, none⟩) vs.length vs.length, vs, f, t)) HV8 (b27.cell 0) (b27.cell 1) (b27.cell 2)
  refine step_append_d rfl (some 28) rfl (.tmp 19) (.tmp 27) 31 rfl rfl _ _ rfl rfl (R := fun u w' => v28 = u ∧ w9 = w') ⟨v28, w9, hr9, rfl, rfl⟩ ?_
  rintro _ _ ⟨rfl, rfl⟩
  have k9 : Keep (fun b => (Value.slice ac nc cc).ownBlock = some b) w w9 := (Keep.of B2).trans (keep_of_grown A9.grown) (fun _ _ h => h)
  have ht9 : Blk w9 tb [.slice ac nc cc] 31 := Blk.keep HT.out k9 (fun h => HNT.out h.symm)
  have S9 : w9.cell? ⟨tb, 0, none⟩ = some (.slice ac nc cc) ∧ w9.cell? ⟨g, o, none⟩ = some (.slice pa vs.length ca) ∧ w9.cell? ⟨sb, 0, none⟩ = some (.int .i64 f) ∧ w9.cell? ⟨sb, 1, none⟩ = some (.int .i64 t) := ⟨ht9.cell 0, (cell_block (A9.grown.block g (Nat.lt_of_lt_of_le hg B2.size) hgn)).trans (HS.out _ B2).2.1, (cell_block (A9.grown.block sb (Nat.lt_of_lt_of_le hsl B2.size) hsn)).trans (HS.out _ B2).2.2.1, (cell_block (A9.grown.block sb (Nat.lt_of_lt_of_le hsl B2.size) hsn)).trans (HS.out _ B2).2.2.2⟩
  refine hK.out _ _ (fun _ => S9) ?_
  clear hK K
  try simp only [Act.put, List.setIfInBounds_toArray, List.set_cons_zero, List.set_cons_succ]
  refine wpAnyL_ready (rs := [10]) (by kernel_rfl) (by simp) (AllReadyL.cons rfl (fun K hK => ?_) AllReadyL.nil)
  obtain ⟨a9, n9, c9, rfl⟩ : ∃ a n c, v28 = .slice a n c := A9.own.form
  have z9 := ht9.cell 0
  have y9 := ht9.frozen 0
  have x9 := ht9.lt
  simp only [List.getElem?_cons_zero] at z9
  have HA9 : Hid _ := A9
  have HT9 : Hid (Blk w9 tb [.slice ac nc cc] 31) := ht9
  have HK9 : Hid _ := k9
  have HB2 : Hid _ := B2
  clear A9 ht9 k9 S9 O8 HV8 hb8 b27 hb6 hr9
  go_simp
  refine hK.out _ _ (fun h => absurd rfl h) ?_
  clear hK K
  try simp only [Act.put, List.setIfInBounds_toArray, List.set_cons_zero, List.set_cons_succ]
  refine wpAnyL_done (by kernel_rfl) ?_ _
  have hnt : some tb ≠ Value.ownBlock (.slice a9 n9 c9) := fun h => (HA9.out.new tb h.symm).elim (fun q => HNT.out q.symm) (fun q => by have := Blk.lt HT.out; have := HB2.out.size; omega)
  have hCI : CI (w9.setCell ⟨tb, 0, none⟩ (.slice a9 n9 c9)) tb B (.slice a9 n9 c9) (ce ++ [(.slice (some ⟨g6, 0, none⟩) vs.length vs.length, vs, f, t)]) := CI.set HT9.out HA9.out.own hnt (by
      intro e he
      rcases List.mem_append.1 he with he | he
      · exact (HVT.out e he).keep (HK9.out.mono (fun b _ h => .inr h)) (fun b hb h => h.imp id (fun q => (HA9.out.new b q).elim id (fun q => by have := HB2.out.size; omega)))
      · simp only [List.mem_singleton] at he
        subst he
        have h6 := HA9.out.own.vals (.slice (some ⟨g6, 0, none⟩) vs.length vs.length, vs, f, t) (by simp)
        obtain ⟨a6, c6, q6, hh6⟩ := h6
        refine ⟨a6, c6, q6, fun h0 => ?_⟩
        obtain ⟨g', o', rfl, q1, q2, q3⟩ := hh6 h0
        simp only [Value.slice.injEq, Option.some.injEq, Addr.mk.injEq] at q6
        refine ⟨g', o', rfl, q1, fun h => h.elim (fun h => ?_) q2, q3⟩
        have := Blk.lt HT.out
        omega)
  refine Nrm.normal (HQ.out _ _ _ _ _ (.slice (some ⟨g6, 0, none⟩) vs.length vs.length, vs, f, t) rfl hCI ?_ ?_ ?_)
  · obtain ⟨a6, c6, q6, hh6⟩ := hCI.vals (.slice (some ⟨g6, 0, none⟩) vs.length vs.length, vs, f, t) (by simp)
    refine ⟨a6, c6, q6, fun h0 => ?_⟩
    obtain ⟨g', o', rfl, q1, q2, q3⟩ := hh6 h0
    simp only [Value.slice.injEq, Option.some.injEq, Addr.mk.injEq] at q6
    exact ⟨g', o', rfl, q1, fun h => by omega, q3⟩
  · exact (HK9.out.mono (fun b _ h => .inr h)).set (.inr (.inl rfl)) _
  · exact fun k h => (HA9.out.new k h).imp id (fun q => Nat.le_trans HB2.out.size q)
end Go.Proofs.Ythalgnfffcimhaa
