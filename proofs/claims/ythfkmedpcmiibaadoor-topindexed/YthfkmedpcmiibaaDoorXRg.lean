/- Range. -/
import Derived.Test.YthfkmedpcmiibaaDoorXIu
namespace Go.Proofs.YthfkmedpcmiibaaDoor.T
open Go.RowKit Go.Shelf
set_option maxRecDepth 100000
attribute [local go_sem] Oper.semAt_some
theorem wpListIn_append_ex {F : Fence} {n : Nat} {P : Program} {ops : Array Oper} {rest : List Oper} {o : Oper} {a : Act} {w : World} {Q : Exit → Act → World → Prop} (hgd : o.guard = none) (s x : Operand) (t : TypeId)
    (ho : o.op = .call { callee := .builtin .append, args := #[s, x], argTypes := #[t, t] }) (v y : Value) (hs : a.eval s = v) (hx : a.eval x = y) {R : Value → World → Prop} (hrun : ∃ u w', (Builtin.append_ #[t, t] o.type #[v, y]).run P w = .ok u w' ∧ R u w')
    (h : ∀ u w', R u w' → wpListIn F n P ops Q rest (a.put o.dst u) w') : wpListIn F n P ops Q (o :: rest) a w := by
  refine wpListIn_plain hgd fun K hK' => ?_
  obtain ⟨u, w', h1, h2⟩ := hrun
  unfold Oper.wpIn
  refine ⟨?_, ?_⟩
  · simp [Oper.about, ho, resolve, Target.leads, Sem.run_pure]
  · rw [Oper.semAt_plain F _ _ (by rw [ho]; intro c hc'; cases hc')]
    simp only [execOp, ho, resolve, invoke, builtin, Sem.run_bind, Sem.run_pure, Result.andThen_ok, List.map_toArray, List.map_cons, List.map_nil, hs, hx, h1]
    exact hK' _ _ (h u w' h2)
/-- A tree, or none: its root. -/
structure Tp (w : World) (tp : Value) (h n : Nat) (x : Bx) (kv : List Pr) : Prop where
  top : ∀ W, Below w.heap.size w W → Calls Tryd.prog 20 #[tp] W fun e w' => e = .returned (.iface x.1 x.2) ∧ W = w'
  part : Part w h n x kv
  srt : Srt kv
  few : kv.length ≤ 800
theorem TT.tp {w : World} {t : Nat} {kv : List Pr} (h : TT w t kv) : ∃ hh n x, Tp w (.pointer (some ⟨t, 0, none⟩)) hh n x kv := by
  obtain ⟨hh, n, x, h1, h2, h3⟩ := h.ex
  exact ⟨hh, n, x, fun W hW => top35 (h1.below hW), h2, h.srt, h.few⟩
theorem tp_nil (w : World) : Tp w (.pointer none) 0 0 (47, .slice none 0 0) [] := ⟨fun W _ => top35_nil W, leaf_of (LV.nil EP w none 0), List.Pairwise.nil, by simp⟩
/-- May a pair be told? -/
def okR (tu : ByteArray) (p : Pr) : Bool := decide (tu.size = 0) || lt p.1 tu
def rangeP (kv : List Pr) (fr tu : ByteArray) (mo : Int) : List Pr := ((ge kv fr).filter (okR tu)).take mo.toNat
theorem range_all {xs : List Pr} {tu : ByteArray} {n : Nat} (h : ∀ p ∈ xs, okR tu p = true) (hn : xs.length ≤ n) : (xs.filter (okR tu)).take n = xs := by
  rw [filter_all h, List.take_of_length_le hn]
theorem range_full {q rest : List Pr} {tu : ByteArray} {n : Nat} (h : ∀ p ∈ q, okR tu p = true) (hn : q.length = n) : ((q ++ rest).filter (okR tu)).take n = q := by
  rw [List.filter_append, filter_all h, ← hn, List.take_left]
theorem range_stop {q rest : List Pr} {x : Pr} {tu : ByteArray} {n : Nat} (hs : Srt (q ++ x :: rest)) (h : ∀ p ∈ q, okR tu p = true) (hx : okR tu x = false) (hn : q.length ≤ n) : ((q ++ x :: rest).filter (okR tu)).take n = q := by
  have hr : ∀ p ∈ x :: rest, okR tu p = false := fun p hp => by
    rcases List.mem_cons.1 hp with rfl | hp
    · exact hx
    · have h1 := (List.pairwise_cons.1 (Srt.append.1 hs).2.1).1 p hp
      simp only [okR, Bool.or_eq_false_iff, decide_eq_false_iff_not] at hx ⊢
      refine ⟨hx.1, ?_⟩
      cases hz : lt p.1 tu
      · rfl
      · have := lt_trans h1 hz
        rw [hx.2] at this; cases this
  rw [List.filter_append, filter_all h, filter_none hr, List.append_nil, List.take_of_length_le hn]
/-- The slice that grows, the boxes, and who owns what. -/
structure Iw (w : World) (tu : ByteArray) (mo : Int) (O' : Nat → Prop) (q : List Pr) (W' : World) (v : Value) : Prop where
  own : ∀ b, O' b ↔ b = w.heap.size + 1 + 1 ∨ v.ownBlock = some b
  told : Blk W' (w.heap.size + 1 + 1) [v] 37
  row : RW EP w.heap.size W' v q
  below : Below w.heap.size w W'
  bto : Blk W' w.heap.size [.string tu] 9
  bmo : Blk W' (w.heap.size + 1) [.int .i64 mo] 3
  ok : ∀ p ∈ q, okR tu p = true
  len : q.length ≤ mo.toNat
theorem RW.ne {w : World} {tb B : Nat} {l : List Value} {t : TypeId} (hb : Blk w tb l t) (ht : t ≠ 42) {v : Value} {q : List Pr} (h : RW EP B w v q) : v.ownBlock ≠ some tb := fun e => by
  rcases h.2 with ⟨rfl, _⟩ | ⟨g, cap, cur, rfl, _, hg, _⟩
  · cases e
  · have e2 : g = tb := by simpa [Value.ownBlock] using e
    subst e2
    unfold Blk at hb
    rw [hb] at hg
    simp at hg
    exact ht hg.2
theorem RW.keepO {w w' : World} {B : Nat} {v : Value} {q : List Pr} (h : RW EP B w v q) (hk : ∀ g, v.ownBlock = some g → w'.heap[g]? = w.heap[g]?) : RW EP B w' v q := by
  refine ⟨h.1, h.2.imp id ?_⟩
  rintro ⟨g, cap, cur, rfl, h2, h3, h4⟩
  exact ⟨g, cap, cur, rfl, h2, (hk g rfl).trans h3, h4⟩
theorem Iw.lt {w W' : World} {tu : ByteArray} {mo : Int} {O' : Nat → Prop} {q : List Pr} {v : Value} (h : Iw w tu mo O' q W' v) : ∀ b, O' b → b < W'.heap.size := fun b hb => by
  rcases (h.own b).1 hb with rfl | hb
  · exact h.told.lt
  · exact (h.row.at hb).2
theorem Iw.keep {w : World} {tu : ByteArray} {mo : Int} {B : Nat} (hB : w.heap.size + 3 ≤ B) {O' : Nat → Prop} {q : List Pr} {W1 W2 : World} {v : Value} (h : Iw w tu mo O' q W1 v) (k : Keep (fun b => ¬ O' b ∧ B ≤ b) W1 W2) : Iw w tu mo O' q W2 v := by
  refine ⟨h.own, h.told.keep k (fun hn => hn.1 ((h.own _).2 (.inl rfl))), h.row.keepO fun g hg => k.block g (h.row.at hg).2 (fun hn => hn.1 ((h.own g).2 (.inr hg))), h.below.trans (k.below (by have := h.below.size; omega) (fun i hi hn => by omega)), h.bto.keep k (by omega), h.bmo.keep k (by omega), h.ok, h.len⟩
def Ixr (w : World) (tu : ByteArray) (mo : Int) (c : Code) (O' : Nat → Prop) (q : List Pr) (W' : World) : Prop := c = .exit 0 ∧ ∃ q0 x0 v, q = q0 ++ [x0] ∧ Iw w tu mo O' q0 W' v ∧ (mo ≤ (q0.length : Int) ∨ okR tu x0 = false)
def RgPost (w : World) (L : List Pr) (e : Ending) (w' : World) : Prop := ∃ v, e = .returned v ∧ LV EP w' v L ∧ Below w.heap.size w w'
set_option maxHeartbeats 1000000 in
theorem range17 {w : World} {tp : Value} {h n : Nat} {x : Bx} {kv : List Pr} (ht : Tp w tp h n x kv) (fr tu : ByteArray) (mo : Int) : Calls Tryd.prog 8 #[tp, .string fr, .string tu, .int .i64 mo] w (RgPost w (rangeP kv fr tu mo)) := by
  have kA : Below w.heap.size w (((w.alloc (.cells #[.string tu] 9)).alloc (.cells #[.int .i64 mo] 3)).alloc (.cells #[.slice none 0 0] 37)) := bal (bal (al _ _) _) _
  have k35 := ht.top _ kA
  have b0 : Blk (((w.alloc (.cells #[.string tu] 9)).alloc (.cells #[.int .i64 mo] 3)).alloc (.cells #[.slice none 0 0] 37)) w.heap.size [.string tu] 9 := ((blk_new w [.string tu] 9).below (al _ _)).below (al _ _)
  have b1 : Blk (((w.alloc (.cells #[.string tu] 9)).alloc (.cells #[.int .i64 mo] 3)).alloc (.cells #[.slice none 0 0] 37)) (w.heap.size + 1) [.int .i64 mo] 3 := (blk_at (w.alloc (.cells #[.string tu] 9)) [.int .i64 mo] 3 (by simp)).below (al _ _)
  have b2 : Blk (((w.alloc (.cells #[.string tu] 9)).alloc (.cells #[.int .i64 mo] 3)).alloc (.cells #[.slice none 0 0] 37)) (w.heap.size + 1 + 1) [.slice none 0 0] 37 := blk_at ((w.alloc (.cells #[.string tu] 9)).alloc (.cells #[.int .i64 mo] 3)) [.slice none 0 0] 37 (by simp)
  have s1 : (((w.alloc (.cells #[.string tu] 9)).alloc (.cells #[.int .i64 mo] 3)).alloc (.cells #[.slice none 0 0] 37)).heap.size = w.heap.size + 3 := by simp
  have hge : (ge kv fr).length ≤ 800 := Nat.le_trans (List.length_filter_le _ _) ht.few
  have HT : Hid _ := ht
  have HGS : Hid (Srt (ge kv fr)) := ht.srt.filter _
  have HL : Hid _ := hge
  refine (callsIn_wide (n := 0)).1 (callsIn_of_wp_marks Tryd.func8 rfl trivial (wpIn_wide.2 ?_) rfl)
  simp only [Tryd.ntmps8, List.size_toArray, List.length_cons, List.length_nil, Nat.reduceAdd, Nat.reduceSub, Array.replicate_succ, Array.replicate_zero, List.push_toArray, List.append_toArray, List.nil_append, List.cons_append]
  clear ht hge
  go_wp2_with (first
    | (go_at_call 20; (with_reducible refine k35.mono ?_); rintro e w1 ⟨rfl, rfl⟩)
    | (go_at_call 19; (with_reducible refine (pairs34 _ _ _).mono ?_); rintro e w1 ⟨rfl, rfl⟩))
  generalize ((w.alloc (.cells #[.string tu] 9)).alloc (.cells #[.int .i64 mo] 3)).alloc (.cells #[.slice none 0 0] 37) = W2 at *
  have hB3 : Below W2.heap.size W2 ((W2.alloc (.cells #[.iface x.1 x.2] 49)).alloc (.cells #[.string fr] 9)) := bal (al _ _) _
  have hbq3 := bq_new x fr W2
  have hs3 : ((W2.alloc (.cells #[.iface x.1 x.2] 49)).alloc (.cells #[.string fr] 9)).heap.size = w.heap.size + 5 := by simp [s1]
  have c0 := b0.below hB3
  have c1 := b1.below hB3
  have c2 := b2.below hB3
  have kB := bmore kA hB3
  generalize (W2.alloc (.cells #[.iface x.1 x.2] 49)).alloc (.cells #[.string fr] 9) = W3 at *
  obtain ⟨B3, hB3e⟩ : ∃ B3, w.heap.size + 1 + 1 + 1 = B3 := ⟨_, rfl⟩
  rw [s1, show w.heap.size + 3 = B3 from hB3e] at hbq3
  rw [hB3e]
  have HS3 : Hid (W3.heap.size = w.heap.size + 5) := hs3
  have HB3e : Hid (B3 = w.heap.size + 3) := hB3e.symm
  have HBq3 : Hid _ := hbq3
  have HK3 : Hid (Below w.heap.size w W3) := kB
  have HI0 : Hid (Iw w tu mo (fun b => b = w.heap.size + 1 + 1) [] W3 (.slice none 0 0)) := ⟨fun b => by simp [Value.ownBlock], c2, RW.nil _ _ _, kB, c0, c1, by simp, by simp⟩
  have hag3 : Ag w W3 := ⟨kB.size, fun k hk => kB.block k hk⟩
  have HAg : Hid _ := hag3
  clear hs3 s1 hbq3 kB b0 b1 b2 c0 c1 c2 kA k35 hB3 hB3e hag3
  refine wpIn_wide.1 (wpIn_range (a := { tmps := #[tp, .string fr, .string tu, .int .i64 mo, undef, undef, .pointer (some ⟨w.heap.size, 0, none⟩), .pointer (some ⟨w.heap.size + 1, 0, none⟩), .slice none 0 0, .pointer (some ⟨w.heap.size + 1 + 1, 0, none⟩), undef, tp, .iface x.1 x.2, .string fr, .func (.func 38) #[] #[.pointer (some ⟨B3, 0, none⟩), .pointer (some ⟨B3 + 1, 0, none⟩)], undef, undef, undef, undef, undef, undef, undef, undef, undef, undef, undef, undef, undef, undef, undef, undef, undef, undef, undef, undef], defers := [] }) (gf := 38) (lb := #[.pointer (some ⟨B3, 0, none⟩), .pointer (some ⟨B3 + 1, 0, none⟩)]) rfl eg47 rfl (enc := prV) (xs := ge kv fr) (G := Gq w.heap.size B3)
    (fun W' k' => all47 h W' w n x kv B3 fr HT.out.part HT.out.srt HT.out.few (HAg.out.keep (O := fun _ => False) (Keep.of k') (fun _ _ => id)) (by have := HB3e.out; omega) (Bq.keep (O := fun _ => False) HBq3.out (Keep.of k') id id)) (fun q hq => by have := HB3e.out; have := HS3.out; unfold Gq at hq; omega)
    (fun O' q W' => ∃ v, Iw w tu mo O' q W' v) (Ixr w tu mo) (fun O' q W' ⟨v, hv⟩ => hv.lt) (fun O' q W1 W2 ⟨v, hv⟩ k => ⟨v, hv.keep (by have := HS3.out; omega) k⟩) (fun c => fun O' q W1 W2 ⟨hc, q0, x0, v, e, hv, hd⟩ k => ⟨hc, q0, x0, v, e, hv.keep (by have := HS3.out; omega) k, hd⟩)
    (fun b => b = w.heap.size + 1 + 1) (fun q hq => by have := HB3e.out; have := HS3.out; unfold Gq; omega) ⟨_, HI0.out⟩ (fun p blk => { tmps := #[tp, .string fr, .string tu, .int .i64 mo, undef, undef, .pointer (some ⟨w.heap.size, 0, none⟩), .pointer (some ⟨w.heap.size + 1, 0, none⟩), .slice none 0 0, .pointer (some ⟨w.heap.size + 1 + 1, 0, none⟩), .pointer (some ⟨blk, 0, none⟩), tp, .iface x.1 x.2, .string fr, .func (.func 38) #[] #[.pointer (some ⟨B3, 0, none⟩), .pointer (some ⟨B3 + 1, 0, none⟩)], prV p, undef, undef, undef, undef, undef, undef, undef, undef, undef, undef, undef, undef, undef, undef, undef, undef, undef, undef, undef], defers := [] }) (fun p => [.string p.1, .string p.2]) 42 ?assign ?body ?done ?stop)
  case assign =>
    intro l' x' W' K hK
    gi_wp2
    exact hK
  case body =>
    intro l' O' pre p W' blk hI hnb hle hsz hblk hpre
    obtain ⟨v, hI⟩ := hI
    have hbl : Blk W' blk [.string p.1, .string p.2] 42 := hblk
    obtain ⟨z0, z1, -, -⟩ := Blk.c2 hbl
    have t0 := hI.told.cell 0
    have tf := hI.told.frozen 0
    have t1 := hI.bto.cell 0
    have t2 := hI.bmo.cell 0
    simp only [List.getElem?_cons_zero] at t0 t1 t2
    obtain ⟨av, cv, rfl, hcap⟩ := hI.row.form
    have HI : Hid (Iw w tu mo O' pre W' (.slice av pre.length cv)) := hI
    have hpl : pre.length ≤ 800 := by have := hpre.length_le; have := HL.out; simp at *; omega
    have HP : Hid _ := hpl
    have hA : ∃ u' w', (Builtin.append_ #[37, 37] 37 #[.slice av pre.length cv, .slice (some ⟨W'.heap.size, 0, none⟩) 1 1]).run Tryd.prog (W'.alloc (.cells #[.string p.1, .string p.2] 42)) = .ok u' w' ∧ ∃ g' c', u' = .slice (some ⟨g', 0, none⟩) (pre.length + 1) c' ∧ RW EP w.heap.size w' u' (pre ++ [p]) ∧ Keep O' W' w' ∧ (O' g' ∨ W'.heap.size ≤ g') ∧ Hid (∃ u, Blk w' (w.heap.size + 1 + 1) [u] 37) ∧ w'.cell? ⟨w.heap.size + 1 + 1, 0, none⟩ = some (.slice av pre.length cv) ∧ w'.frozen? ⟨w.heap.size + 1 + 1, 0, none⟩ = false := by
      obtain ⟨i, hi, hzz⟩ := Option.map_eq_some_iff.1 EP.info
      simp only [Prod.mk.injEq] at hzz
      obtain ⟨hz, hs, hb⟩ := hzz
      have hU : RW EP w.heap.size (W'.alloc (.cells #[.string p.1, .string p.2] 42)) (.slice av pre.length cv) pre := HI.out.row.keepO fun g hg => Below.heap_alloc _ _ _ (HI.out.row.at hg).2
      obtain ⟨a2, c2, hv2, hc2, hat⟩ := lv_one (w := W') p
      cases hv2
      obtain ⟨g, o, cs, e1, hbk, hta⟩ := hat (by simp)
      cases e1
      obtain ⟨g', cap, w', q1, q2, q3, q4, q5⟩ := run_append_lies (P := Tryd.prog) (W'.alloc (.cells #[.string p.1, .string p.2] 42)) EP.tS EP.tS w.heap.size EP.tE i EP.z EP.m EP.bytes EP.und hi hz hs hb EP.zs EP.pos (.slice av pre.length cv) pre.length (EP.cells pre) hU ⟨W'.heap.size, 0, none⟩ 1 1 (EP.cells [p]) (cells_len EP [p]) (news_of hbk hta) (cells_one EP [p]) (by decide) (by unfold maxLen; omega) (by show (pre.length + 1) * 32 ≤ _; omega) (by have := HI.out.below.size; simp; omega) _ rfl
      have kk : Keep O' W' w' := (Keep.of (F := O') (al _ _)).trans ⟨q3.os, q3.tape, q3.output, q3.size, fun j hj hn => q3.block j hj (fun e => hn ((HI.out.own j).2 (.inr e.symm)))⟩ (fun _ _ h => h)
      have hne := RW.ne HI.out.told (by decide) HI.out.row
      have ht2 : Blk w' (w.heap.size + 1 + 1) [.slice av pre.length cv] 37 := (HI.out.told.below (al _ (.cells #[.string p.1, .string p.2] 42))).block (q3.block _ (HI.out.told.below (al _ (.cells #[.string p.1, .string p.2] 42))).lt (fun e => hne e.symm))
      refine ⟨_, w', q1, g', cap, rfl, ?_, kk, ?_, ⟨_, ht2⟩, ht2.cell 0, ht2.frozen 0⟩
      · unfold RW
        rw [List.length_append, cells_app]
        exact q2
      · rcases q4 with q4 | q4
        · exact .inl ((HI.out.own g').2 (.inr q4))
        · exact .inr (by rw [q4]; simp)
    clear hI hbl hblk hnb hle hsz
    have HNext : Hid (okR tu p = true → ¬ mo ≤ (pre.length : Int) → ∀ (g' c' : Nat) (w7 : World), RW EP w.heap.size w7 (.slice (some ⟨g', 0, none⟩) (pre.length + 1) c') (pre ++ [p]) → Keep O' W' w7 → (O' g' ∨ W'.heap.size ≤ g') → (∃ u, Blk w7 (w.heap.size + 1 + 1) [u] 37) → ∃ O2, (∃ v, Iw w tu mo O2 (pre ++ [p]) (w7.setCell ⟨w.heap.size + 1 + 1, 0, none⟩ (.slice (some ⟨g', 0, none⟩) (pre.length + 1) c')) v) ∧ Grew O' O2 W' ∧ Keep O' W' (w7.setCell ⟨w.heap.size + 1 + 1, 0, none⟩ (.slice (some ⟨g', 0, none⟩) (pre.length + 1) c'))) := fun hok hm g' c' w7 hR hK hO hBt => by
      have hi := HI.out
      have hb7 : ∃ u, Blk w7 (w.heap.size + 1 + 1) [u] 37 := hBt
      obtain ⟨u7, hb7⟩ := hb7
      have hne := RW.ne hb7 (by decide) hR
      have o1 : ¬ O' w.heap.size := fun hq => by
        rcases (hi.own _).1 hq with e | e
        · omega
        · exact RW.ne hi.bto (by decide) hi.row e
      have o2 : ¬ O' (w.heap.size + 1) := fun hq => by
        rcases (hi.own _).1 hq with e | e
        · omega
        · exact RW.ne hi.bmo (by decide) hi.row e
      have hk2 : Keep O' W' (w7.setCell ⟨w.heap.size + 1 + 1, 0, none⟩ (.slice (some ⟨g', 0, none⟩) (pre.length + 1) c')) := hK.set (.inr ((hi.own _).2 (.inl rfl))) _
      refine ⟨fun b => b = w.heap.size + 1 + 1 ∨ b = g', ⟨_, ⟨fun b => by simp [Value.ownBlock, eq_comm], hb7.set (o := 0) _, ?_, ?_, hi.bto.keep hk2 o1, hi.bmo.keep hk2 o2, ?_, ?_⟩⟩, ?_, hk2⟩
      · refine hR.keepO fun g hg => Below.heap_setCell _ _ _ _ ?_
        intro e
        exact hne (by rw [hg]; simpa using e)
      · exact hi.below.trans (hk2.below hi.below.size (fun i hi' hq => by
          rcases (hi.own _).1 hq with e | e
          · omega
          · have := (hi.row.at e).1; omega))
      · intro q hq
        rcases List.mem_append.1 hq with hq | hq
        · exact hi.ok q hq
        · simp at hq; subst hq; exact hok
      · have := hi.len
        rw [List.length_append]
        simp
        omega
      · rintro b (rfl | rfl)
        · exact .inl ((hi.own _).2 (.inl rfl))
        · exact hO
    by_cases hm : mo ≤ (pre.length : Int)
    · gi_wp2
      exact ⟨O', ⟨rfl, pre, p, _, rfl, HI.out, .inl hm⟩, Grew.refl _ _, Keep.refl _ _⟩
    · by_cases hz : tu.size = 0
      · have hbe : tu = ByteArray.empty := by
          obtain ⟨d⟩ := tu
          have : d = #[] := Array.size_eq_zero_iff.1 hz
          rw [this]; rfl
        have hok : okR tu p = true := by simp [okR, hz]
        have HN2 : Hid _ := HNext.out hok hm
        subst hbe
        clear HNext hok hz
        gi_wp2_with (gi_at_builtin; refine wpListIn_append_ex (by rfl) (.tmp 30) (.tmp 32) 37 (by rfl) _ _ (by rfl) (by rfl) hA ?_; rintro u w7 ⟨g', c', rfl, hR7, hK7, hO7, HB7, y0, yf⟩; have HR7 : Hid _ := hR7; have HK7 : Hid _ := hK7; have HO7 : Hid _ := hO7; clear hR7 hK7 hO7 hA)
        exact HN2.out _ _ _ HR7.out HK7.out HO7.out HB7.out
      · have hbe : ¬ (tu = ByteArray.empty) := fun e => hz (by rw [e]; rfl)
        have hbt : (tu.toList == ([] : List UInt8)) = false := by
          have e1 : tu.toList = bs tu := Lib.toList_data tu
          rw [e1]
          cases hq : bs tu with
          | nil => exact absurd (by have := congrArg List.length hq; simpa [bs] using this) hz
          | cons c l => rfl
        cases hlt : lt p.1 tu with
        | true =>
          have hok : okR tu p = true := by simp [okR, hlt]
          have hbl : Op.bytesLess p.1.toList tu.toList = true := by rw [less_lt]; exact hlt
          have HN2 : Hid _ := HNext.out hok hm
          clear HNext hok hlt
          gi_wp2_with (gi_at_builtin; refine wpListIn_append_ex (by rfl) (.tmp 30) (.tmp 32) 37 (by rfl) _ _ (by rfl) (by rfl) hA ?_; rintro u w7 ⟨g', c', rfl, hR7, hK7, hO7, HB7, y0, yf⟩; have HR7 : Hid _ := hR7; have HK7 : Hid _ := hK7; have HO7 : Hid _ := hO7; clear hR7 hK7 hO7 hA)
          exact HN2.out _ _ _ HR7.out HK7.out HO7.out HB7.out
        | false =>
          have hok : okR tu p = false := by simp [okR, hlt, hz]
          have hbl : Op.bytesLess p.1.toList tu.toList = false := by rw [less_lt]; exact hlt
          have HOK : Hid _ := hok
          clear HNext hok hlt
          gi_wp2
          exact ⟨O', ⟨rfl, pre, p, _, rfl, HI.out, .inr HOK.out⟩, Grew.refl _ _, Keep.refl _ _⟩
  case stop =>
    rintro D c O' pre W' hD nD hpre ⟨rfl, q0, x0, v, rfl, hI, hd0⟩ hgr hk hd
    have HR : Hid (rangeP kv fr tu mo = q0) := by
      show _ = _
      obtain ⟨rest, hrest⟩ := hpre
      rw [List.append_assoc] at hrest
      unfold rangeP
      rw [← hrest]
      have hl := hI.len
      rcases hd0 with hd0 | hd0
      · exact range_full hI.ok (by omega)
      · refine range_stop ?_ hI.ok hd0 hl
        have := HGS.out
        rw [← hrest] at this
        exact this
    have t0 := hI.told.cell 0
    simp only [List.getElem?_cons_zero] at t0
    have HI : Hid _ := hI
    have HDn : Hid (D ≠ w.heap.size + 1 + 1 ∧ ∀ g, v.ownBlock = some g → g ≠ D) := ⟨fun e => nD ((hI.own _).2 (.inl e)), fun g hg e => nD ((hI.own _).2 (.inr (e ▸ hg)))⟩
    have Hd : Hid _ := hd
    have HD : Hid _ := hD
    clear hI hgr hk hd hD hd0 hpre
    refine wpIn_wide.2 ?_
    go_wp2
    refine leave_marks [D] _ (fun w' k => ⟨results_tmp rfl _ _ _, v, rfl, ?_, HI.out.below.trans (k.below (by have := HI.out.below.size; omega) (fun i hi h => by have := HD.out; have := HS3.out; simp at h; omega))⟩) (fun D' h => by simp at h; subst h; exact Hd.out) (by simp)
    rw [HR.out]
    exact (HI.out.row.keepO fun g hg => k.block g (HI.out.row.at hg).2 (by simpa using HDn.out.2 g hg)).read
  case done =>
    rintro D O' W' hD nD ⟨v, hI⟩ hgr hk hd
    have HR : Hid (rangeP kv fr tu mo = ge kv fr) := range_all hI.ok hI.len
    have t0 := hI.told.cell 0
    simp only [List.getElem?_cons_zero] at t0
    have HI : Hid _ := hI
    have HDn : Hid (∀ g, v.ownBlock = some g → g ≠ D) := fun g hg e => nD ((hI.own _).2 (.inr (e ▸ hg)))
    have Hd : Hid _ := hd
    have HD : Hid _ := hD
    clear hI hgr hk hd hD
    go_wp2
    refine leave_marks [D] _ (fun w' k => ⟨results_tmp rfl _ _ _, v, rfl, ?_, HI.out.below.trans (k.below (by have := HI.out.below.size; omega) (fun i hi h => by have := HD.out; have := HS3.out; simp at h; omega))⟩) (fun D' h => by simp at h; subst h; exact Hd.out) (by simp)
    rw [HR.out]
    exact (HI.out.row.keepO fun g hg => k.block g (HI.out.row.at hg).2 (by simpa using HDn.out g hg)).read
end Go.Proofs.YthfkmedpcmiibaaDoor.T
