/- inOrder, Sound. -/
import Derived.Test.YthfkmedpcmiibaaDoorXLr
namespace Go.Proofs.YthfkmedpcmiibaaDoor.T
open Go.RowKit Go.Shelf
set_option maxRecDepth 100000
attribute [local go_sem] Oper.semAt_some
def Nrm (Q : Exit → Act → World → Prop) : Exit → Act → World → Prop
  | .normal, a, w => Q .normal a w
  | _, _, _ => False
theorem Nrm.imp {Q : Exit → Act → World → Prop} : ∀ (e : Exit) (a : Act) (w : World), Nrm Q e a w → Q e a w := fun e a w h => by
  cases e <;> first | exact h | exact (h : False).elim
set_option maxHeartbeats 1000000 in
theorem reg6 {wb lb blk l' : Nat} {N : Int} {pk lk : ByteArray} {u0 u1 u2 u6 u7 u8 u9 u10 u11 u12 u13 u14 u15 u16 u17 u18 u19 u20 u21 u22 u27 u28 u29 u30 : Value} {W : World} {Q : Exit → Act → World → Prop} (hne1 : blk ≠ wb) (hne2 : lb ≠ wb) (hN : wrap64 (N + 1) = N + 1)
    (hw : Blk W wb [.int .i64 N] 3) (hl : Blk W lb [.string lk] 9) (hb : W.cell? ⟨blk, 0, none⟩ = some (.string pk))
    (hQ : ∀ W', Blk W' wb [.int .i64 (N + 1)] 3 → Blk W' lb [.string pk] 9 → Keep (fun k => k = wb ∨ k = lb) W W' → Q .normal { tmps := #[u0, u1, u2, .pointer (some ⟨wb, 0, none⟩), .pointer (some ⟨lb, 0, none⟩), .pointer (some ⟨blk, 0, none⟩), u6, u7, u8, u9, u10, u11, u12, u13, u14, u15, u16, u17, u18, u19, u20, u21, u22, .int .i64 N, .int .i64 (N + 1), .pointer (some ⟨blk, 0, none⟩), .string pk, u27, u28, u29, u30], defers := [] } W') :
    Code.wpIn (Fence.wide.inRound l') 0 Tryd.prog (Code.region 6 #[{ dst := some 23, op := Op.load 3 (Operand.tmp 3), type := 3, pos := "tree.go:361", after := #[], guard := none }, { dst := some 24, op := Op.binOp BinOp.add 3 (Operand.tmp 23) (Operand.const (Value.int IntKind.i64 1)) 3, type := 3, pos := "tree.go:361", after := #[{ on := 0, ground := Ground.data }], guard := none }, { dst := some 25, op := Op.fieldAddr 42 (Operand.tmp 5) 0, type := 0, pos := "tree.go:361", after := #[{ on := 4, ground := Ground.gcOnly Departure.lateStores }], guard := none }, { dst := some 26, op := Op.load 9 (Operand.tmp 25), type := 9, pos := "tree.go:361", after := #[{ on := 2, ground := Ground.data }, { on := 4, ground := Ground.gcOnly Departure.lateStores }], guard := none }, { dst := none, op := Op.store 3 (Operand.tmp 3) (Operand.tmp 24), type := 0, pos := "tree.go:361", after := #[{ on := 1, ground := Ground.data }, { on := 0, ground := Ground.phase }, { on := 1, ground := Ground.phase }, { on := 2, ground := Ground.textOnly Departure.lateStores }, { on := 3, ground := Ground.textOnly Departure.lateStores }], guard := none }, { dst := none, op := Op.store 9 (Operand.tmp 4) (Operand.tmp 26), type := 0, pos := "tree.go:361", after := #[{ on := 3, ground := Ground.data }, { on := 4, ground := Ground.chain }, { on := 0, ground := Ground.phase }, { on := 1, ground := Ground.phase }, { on := 2, ground := Ground.phase }, { on := 3, ground := Ground.phase }, { on := 4, ground := Ground.phase }], guard := none }] true) Q { tmps := #[u0, u1, u2, .pointer (some ⟨wb, 0, none⟩), .pointer (some ⟨lb, 0, none⟩), .pointer (some ⟨blk, 0, none⟩), u6, u7, u8, u9, u10, u11, u12, u13, u14, u15, u16, u17, u18, u19, u20, u21, u22, undef, undef, undef, undef, u27, u28, u29, u30], defers := [] } W := by
  have hN2 : IntKind.i64.wrap (N + 1) = N + 1 := (IntWalk.i64_left _).trans hN
  refine Code.wpIn_mono Nrm.imp ?_
  refine wpIn_region_round (fun W' => W'.cell? ⟨blk, 0, none⟩ = some (.string pk)) 5 (by kernel_rfl) (by kernel_rfl) (fun ⟨_, _, h⟩ => h) ?_
  have S0 : W.drew.cell? ⟨blk, 0, none⟩ = some (.string pk) := hb
  have HQ : Hid _ := hQ
  have hw2 : Blk W.drew wb [.int .i64 N] 3 := hw
  have hl2 : Blk W.drew lb [.string lk] 9 := hl
  have kk : Keep (fun k => k = wb ∨ k = lb) W W.drew := (Keep.refl _ W).drew
  clear hQ hw hl hb
  generalize W.drew = W2 at *
  have s1 := hw2.set (o := 0) (.int .i64 (N + 1))
  have s2 : Blk (W2.setCell ⟨wb, 0, none⟩ (.int .i64 (N + 1))) lb [.string lk] 9 := hl2.block (Below.heap_setCell _ _ _ _ hne2)
  have s3 : (W2.setCell ⟨wb, 0, none⟩ (.int .i64 (N + 1))).cell? ⟨blk, 0, none⟩ = some (.string pk) := ((Keep.set (F := fun k => k = wb) (p := ⟨wb, 0, none⟩) (Keep.refl _ W2) (.inr rfl) _).cell (World.block_lt_of_cell? W2 _ S0) hne1).trans S0
  have ks := kk.set (p := ⟨wb, 0, none⟩) (.inr (.inl rfl)) (.int .i64 (N + 1))
  have a0 := hw2.cell 0
  have af := hw2.frozen 0
  have d0 := s2.cell 0
  have e0 := s2.frozen 0
  simp only [List.getElem?_cons_zero] at a0 d0
  have HF : Hid (Nrm Q .normal { tmps := #[u0, u1, u2, .pointer (some ⟨wb, 0, none⟩), .pointer (some ⟨lb, 0, none⟩), .pointer (some ⟨blk, 0, none⟩), u6, u7, u8, u9, u10, u11, u12, u13, u14, u15, u16, u17, u18, u19, u20, u21, u22, .int .i64 N, .int .i64 (N + 1), .pointer (some ⟨blk, 0, none⟩), .string pk, u27, u28, u29, u30], defers := [] } ((W2.setCell ⟨wb, 0, none⟩ (.int .i64 (N + 1))).setCell ⟨lb, 0, none⟩ (.string pk))) := HQ.out _ (s1.other (p := ⟨lb, 0, none⟩) (Ne.symm hne2) _) (s2.set (o := 0) _) (ks.set (p := ⟨lb, 0, none⟩) (.inr (.inr rfl)) _)
  have S3 : Hid _ := s3
  clear s1 s2 s3 ks hw2 hl2 HQ kk
  refine wpAnyL_take 2 (some 25) (.pointer (some ⟨blk, 0, none⟩)) rfl rfl (by kernel_rfl) (by kernel_rfl) (by kernel_rfl) (by kernel_rfl) (fun _ _ _ h => h) (Or.inl ⟨by rfl, fun w' hw' => by go_simp⟩) S0 ?_
  simp only [Act.put, List.setIfInBounds_toArray, List.set_cons_zero, List.set_cons_succ]
  refine wpAnyL_take 3 (some 26) (.string pk) rfl rfl (by kernel_rfl) (by kernel_rfl) (by kernel_rfl) (by kernel_rfl) (fun _ _ _ h => h) (Or.inl ⟨by rfl, fun w' hw' => by go_simp⟩) S0 ?_
  simp only [Act.put, List.setIfInBounds_toArray, List.set_cons_zero, List.set_cons_succ]
  refine wpAnyL_ready (rs := [0]) (by kernel_rfl) (by simp) (AllReadyL.cons rfl (fun K hK => ?_) AllReadyL.nil)
  go_simp
  refine hK.out _ _ (fun _ => S0) ?_
  clear hK K
  refine wpAnyL_ready (rs := [1]) (by kernel_rfl) (by simp) (AllReadyL.cons rfl (fun K hK => ?_) AllReadyL.nil)
  go_simp
  refine hK.out _ _ (fun _ => S0) ?_
  clear hK K
  refine wpAnyL_ready (rs := [4]) (by kernel_rfl) (by simp) (AllReadyL.cons rfl (fun K hK => ?_) AllReadyL.nil)
  go_simp
  refine hK.out _ _ (fun _ => S3.out) ?_
  clear hK K
  refine wpAnyL_ready (rs := [5]) (by kernel_rfl) (by simp) (AllReadyL.cons rfl (fun K hK => ?_) AllReadyL.nil)
  go_simp
  refine hK.out _ _ (fun h => absurd rfl h) ?_
  clear hK K
  exact wpAnyL_done (by kernel_rfl) HF.out _
def lastK (q : List Pr) : ByteArray := match q.getLast? with | some p => p.1 | none => ⟨#[]⟩
theorem lastK_app (q : List Pr) (p : Pr) : lastK (q ++ [p]) = p.1 := by simp [lastK]
theorem ge_empty (kv : List Pr) : ge kv ⟨#[]⟩ = kv := filter_all fun p _ => by
  have : lt p.1 ⟨#[]⟩ = false := by
    rw [← less_lt]
    have e : (ByteArray.mk #[]).toList = bs ⟨#[]⟩ := Lib.toList_data _
    rw [e, show bs ⟨#[]⟩ = [] from rfl]
    cases p.1.toList <;> rfl
  rw [this]; rfl
structure Io (w : World) (O' : Nat → Prop) (q : List Pr) (W' : World) : Prop where
  own : ∀ b, O' b ↔ b = w.heap.size ∨ b = w.heap.size + 1 ∨ b = w.heap.size + 1 + 1
  br : Blk W' w.heap.size [.bool false] 4
  bw : Blk W' (w.heap.size + 1) [.int .i64 (q.length : Int)] 3
  bl : Blk W' (w.heap.size + 1 + 1) [.string (lastK q)] 9
  below : Below w.heap.size w W'
theorem Io.lt {w W' : World} {O' : Nat → Prop} {q : List Pr} (h : Io w O' q W') : ∀ b, O' b → b < W'.heap.size := fun b hb => by
  rcases (h.own b).1 hb with rfl | rfl | rfl
  · exact h.br.lt
  · exact h.bw.lt
  · exact h.bl.lt
theorem Io.keep {w : World} {B : Nat} (hB : w.heap.size + 3 ≤ B) {O' : Nat → Prop} {q : List Pr} {W1 W2 : World} (h : Io w O' q W1) (kk : Keep (fun b => ¬ O' b ∧ B ≤ b) W1 W2) : Io w O' q W2 :=
  ⟨h.own, h.br.keep kk (by omega), h.bw.keep kk (by omega), h.bl.keep kk (by omega), h.below.trans (kk.below (by have := h.below.size; omega) (fun i hi hn => by omega))⟩
theorem results_c4 {fn : Func} {tt : Tmp} {tmps : Array Value} {w : World} {b : Nat} {v : Value} (h : fn.results = #[.cell tt 4]) (ht : tmps.getD tt undef = .pointer (some ⟨b, 0, none⟩)) (hb : Blk w b [v] 4) : (results fn tmps).run Tryd.prog w = .ok v w := by
  have ht' : tmps[tt]?.getD undef = .pointer (some ⟨b, 0, none⟩) := by simpa using ht
  have c := hb.cell 0
  simp only [List.getElem?_cons_zero] at c
  simp [results, h, ht', asAddr, loadVar, go_sem, c]
set_option maxHeartbeats 1000000 in
theorem inOrder41 {w : World} {h n : Nat} {x : Bx} {kv : List Pr} (hp : Part w h n x kv) (hs : Srt kv) (hf : kv.length ≤ 800) (hk : ∀ p ∈ kv, p.1.size ≤ 64) : Calls Tryd.prog 26 #[.iface x.1 x.2] w fun e w' => e = .returned (.bool true) ∧ Below w.heap.size w w' := by
  have kA : Below w.heap.size w (((w.alloc (.cells #[.bool false] 4)).alloc (.cells #[.int .i64 0] 3)).alloc (.cells #[.string ⟨#[]⟩] 9)) := bal (bal (al _ _) _) _
  have b0 : Blk (((w.alloc (.cells #[.bool false] 4)).alloc (.cells #[.int .i64 0] 3)).alloc (.cells #[.string ⟨#[]⟩] 9)) w.heap.size [.bool false] 4 := ((blk_new w [.bool false] 4).below (al _ _)).below (al _ _)
  have b1 : Blk (((w.alloc (.cells #[.bool false] 4)).alloc (.cells #[.int .i64 0] 3)).alloc (.cells #[.string ⟨#[]⟩] 9)) (w.heap.size + 1) [.int .i64 0] 3 := (blk_at (w.alloc (.cells #[.bool false] 4)) [.int .i64 0] 3 (by simp)).below (al _ _)
  have b2 : Blk (((w.alloc (.cells #[.bool false] 4)).alloc (.cells #[.int .i64 0] 3)).alloc (.cells #[.string ⟨#[]⟩] 9)) (w.heap.size + 1 + 1) [.string ⟨#[]⟩] 9 := blk_at ((w.alloc (.cells #[.bool false] 4)).alloc (.cells #[.int .i64 0] 3)) [.string ⟨#[]⟩] 9 (by simp)
  have s1 : (((w.alloc (.cells #[.bool false] 4)).alloc (.cells #[.int .i64 0] 3)).alloc (.cells #[.string ⟨#[]⟩] 9)).heap.size = w.heap.size + 3 := by simp
  refine (callsIn_wide (n := 0)).1 (callsIn_of_wp_marks Tryd.func26 rfl trivial (wpIn_wide.2 ?_) rfl)
  simp only [Tryd.ntmps26, List.size_toArray, List.length_cons, List.length_nil, Nat.reduceAdd, Nat.reduceSub, Array.replicate_succ, Array.replicate_zero, List.push_toArray, List.append_toArray, List.nil_append, List.cons_append]
  go_wp2_with (go_at_call 19; (with_reducible refine (pairs34 _ _ _).mono ?_); rintro e w1 ⟨rfl, rfl⟩)
  generalize ((w.alloc (.cells #[.bool false] 4)).alloc (.cells #[.int .i64 0] 3)).alloc (.cells #[.string ⟨#[]⟩] 9) = W2 at *
  have hB3 : Below W2.heap.size W2 ((W2.alloc (.cells #[.iface x.1 x.2] 49)).alloc (.cells #[.string ⟨#[]⟩] 9)) := bal (al _ _) _
  have hbq3 := bq_new x ⟨#[]⟩ W2
  have hs3 : ((W2.alloc (.cells #[.iface x.1 x.2] 49)).alloc (.cells #[.string ⟨#[]⟩] 9)).heap.size = w.heap.size + 5 := by simp [s1]
  have c0 := b0.below hB3
  have c1 := b1.below hB3
  have c2 := b2.below hB3
  have kB := bmore kA hB3
  generalize (W2.alloc (.cells #[.iface x.1 x.2] 49)).alloc (.cells #[.string ⟨#[]⟩] 9) = W3 at *
  obtain ⟨B3, hB3e⟩ : ∃ B3, w.heap.size + 3 = B3 := ⟨_, rfl⟩
  rw [s1, hB3e] at hbq3
  rw [hB3e]
  have HS3 : Hid (W3.heap.size = w.heap.size + 5) := hs3
  have HB3e : Hid (B3 = w.heap.size + 3) := hB3e.symm
  have HBq3 : Hid (Bq W3 B3 x ⟨#[]⟩) := hbq3
  have HK3 : Hid (Below w.heap.size w W3) := kB
  have HI0 : Hid (Io w (fun b => b = w.heap.size ∨ b = w.heap.size + 1 ∨ b = w.heap.size + 1 + 1) [] W3) := ⟨fun b => Iff.rfl, c0, c1, c2, kB⟩
  have hag3 : Ag w W3 := ⟨kB.size, fun k hk => kB.block k hk⟩
  have HAg : Hid _ := hag3
  have HP : Hid (Part w h n x kv) := hp
  have HSr : Hid (Srt kv) := hs
  have HF : Hid (kv.length ≤ 800) := hf
  have HKy : Hid (∀ p ∈ kv, p.1.size ≤ 64) := hk
  clear hs3 s1 hbq3 kB b0 b1 b2 c0 c1 c2 kA hB3 hB3e hag3 hp hs hf hk
  refine wpIn_wide.1 (wpIn_range (a := { tmps := #[.iface x.1 x.2, undef, .pointer (some ⟨w.heap.size, 0, none⟩), .pointer (some ⟨w.heap.size + 1, 0, none⟩), .pointer (some ⟨w.heap.size + 1 + 1, 0, none⟩), undef, .iface x.1 x.2, .func (.func 38) #[] #[.pointer (some ⟨B3, 0, none⟩), .pointer (some ⟨B3 + 1, 0, none⟩)], undef, undef, undef, undef, undef, undef, undef, undef, undef, undef, undef, undef, undef, undef, undef, undef, undef, undef, undef, undef, undef, undef, undef], defers := [] }) (gf := 38) (lb := #[.pointer (some ⟨B3, 0, none⟩), .pointer (some ⟨B3 + 1, 0, none⟩)]) rfl eg47 rfl (enc := prV) (xs := kv) (G := Gq w.heap.size B3)
    (fun W' k' => by have := all47 h W' w n x kv B3 ⟨#[]⟩ HP.out HSr.out HF.out (HAg.out.keep (O := fun _ => False) (Keep.of k') (fun _ _ => id)) (by have := HB3e.out; omega) (Bq.keep (O := fun _ => False) HBq3.out (Keep.of k') id id); rw [ge_empty] at this; exact this) (fun q hq => by have := HB3e.out; have := HS3.out; unfold Gq at hq; omega)
    (Io w) (fun _ _ _ _ => False) (fun O' q W' hv => hv.lt) (fun O' q W1 W2 hv kk => hv.keep (by have := HS3.out; omega) kk) (fun c => fun O' q W1 W2 h kk => h)
    (fun b => b = w.heap.size ∨ b = w.heap.size + 1 ∨ b = w.heap.size + 1 + 1) (fun q hq => by have := HB3e.out; have := HS3.out; unfold Gq; omega) HI0.out (fun p blk => { tmps := #[.iface x.1 x.2, undef, .pointer (some ⟨w.heap.size, 0, none⟩), .pointer (some ⟨w.heap.size + 1, 0, none⟩), .pointer (some ⟨w.heap.size + 1 + 1, 0, none⟩), .pointer (some ⟨blk, 0, none⟩), .iface x.1 x.2, .func (.func 38) #[] #[.pointer (some ⟨B3, 0, none⟩), .pointer (some ⟨B3 + 1, 0, none⟩)], prV p, undef, undef, undef, undef, undef, undef, undef, undef, undef, undef, undef, undef, undef, undef, undef, undef, undef, undef, undef, undef, undef, undef], defers := [] }) (fun p => [.string p.1, .string p.2]) 42 ?assign ?body ?done ?stop)
  case assign =>
    intro l' x' W' K hK
    gi_wp2
    exact hK
  case body =>
    intro l' O' pre p W' blk hI hnb hle hsz hblk hpre
    have hbl : Blk W' blk [.string p.1, .string p.2] 42 := hblk
    obtain ⟨z0, z1, -, -⟩ := Blk.c2 hbl
    have t1 := hI.bw.cell 0
    have t2 := hI.bl.cell 0
    simp only [List.getElem?_cons_zero] at t1 t2
    have hpm : p ∈ kv := hpre.subset (by simp)
    have hp64 : ¬ ((64 : Int) < (p.1.size : Int)) := by have := HKy.out p hpm; omega
    have HI : Hid (Io w O' pre W') := hI
    have hpl : pre.length ≤ 800 := by have := hpre.length_le; have := HF.out; simp at *; omega
    have hwr : wrap64 ((pre.length : Int) + 1) = (pre.length : Int) + 1 := IntWalk.wrap64_in _ (by omega)
    have Hne : Hid (blk ≠ w.heap.size + 1 ∧ w.heap.size + 1 + 1 ≠ w.heap.size + 1) := ⟨by have := HS3.out; omega, by omega⟩
    have HNext : Hid (∀ W'' : World, Blk W'' (w.heap.size + 1) [.int .i64 ((pre.length : Int) + 1)] 3 → Blk W'' (w.heap.size + 1 + 1) [.string p.1] 9 → Keep (fun k => k = w.heap.size + 1 ∨ k = w.heap.size + 1 + 1) W' W'' → ∃ O2, Io w O2 (pre ++ [p]) W'' ∧ Grew O' O2 W' ∧ Keep O' W' W'') := fun W'' h1 h2 h3 => by
      have hi := HI.out
      have hk2 : Keep O' W' W'' := h3.mono fun q _ hq => (hi.own q).2 (.inr hq)
      refine ⟨O', ⟨hi.own, hi.br.keep h3 (by omega), ?_, ?_, hi.below.trans (h3.below hi.below.size (fun i hi' hq => by omega))⟩, Grew.refl _ _, hk2⟩
      · rw [List.length_append]; exact h1
      · rw [lastK_app]; exact h2
    by_cases h0 : pre = []
    · subst h0
      clear hI hbl hblk hnb hle hsz hpre hpm
      gi_wp2
      refine reg6 Hne.out.1 Hne.out.2 (N := 0) (IntWalk.wrap64_in _ (by omega)) HI.out.bw HI.out.bl z0 (fun W'' h1 h2 h3 => ?_)
      gi_wp2
      exact HNext.out W'' h1 h2 h3
    · have hl0 : (0 : Int) < (pre.length : Int) := by have := List.length_pos_iff.2 h0; omega
      have hlt : lt (lastK pre) p.1 = true := by
        obtain ⟨q, hq⟩ : ∃ q, pre.getLast? = some q := by
          cases hq : pre.getLast? with
          | none => exact absurd (List.getLast?_eq_none_iff.1 hq) h0
          | some q => exact ⟨q, rfl⟩
        have : lastK pre = q.1 := by simp [lastK, hq]
        rw [this]
        obtain ⟨rest, hrest⟩ := hpre
        have hsr := HSr.out
        rw [← hrest] at hsr
        exact (Srt.append.1 (Srt.append.1 hsr).1).2.2 q (List.mem_of_getLast? hq) p (by simp)
      have g1 : Op.bytesLess p.1.toList (lastK pre).toList = false := by rw [less_lt]; exact lt_not hlt
      have g2 : (p.1.toList == (lastK pre).toList) = false := by rw [eq_str]; simpa using (lt_ne hlt).symm
      clear hI hbl hblk hnb hle hsz hpre hpm hlt h0
      gi_wp2
      refine reg6 Hne.out.1 Hne.out.2 (N := (pre.length : Int)) hwr HI.out.bw HI.out.bl z0 (fun W'' h1 h2 h3 => ?_)
      gi_wp2
      exact HNext.out W'' h1 h2 h3
  case stop =>
    rintro D c O' pre W' _ _ _ h
    exact h.elim
  case done =>
    rintro D O' W' hD nD hI hgr hk hd
    have t1 := hI.bw.cell 0
    simp only [List.getElem?_cons_zero] at t1
    have HI : Hid (Io w O' kv W') := hI
    have Hd : Hid _ := hd
    have HD : Hid (W3.heap.size ≤ D) := hD
    have hag : Ag w W' := ⟨hI.below.size, fun k hk => hI.below.block k hk⟩
    have HPW : Hid (Part W' h n x kv) := hag.part HP.out
    have HS : Hid (∀ W, Below W'.heap.size W' W → W.cell? ⟨w.heap.size + 1, 0, none⟩ = some (.int .i64 (kv.length : Int))) := fun W hW => (HI.out.bw.below hW).cell 0
    have HST : Hid (∀ W v, Below W'.heap.size W' W → (W.setCell ⟨w.heap.size, 0, none⟩ v).cell? ⟨w.heap.size + 1, 0, none⟩ = some (.int .i64 (kv.length : Int))) := fun W v hW => ((HI.out.bw.below hW).other (p := ⟨w.heap.size, 0, none⟩) (by simp) _).cell 0
    have HRf : Hid (∀ W, Below W'.heap.size W' W → W.cell? ⟨w.heap.size, 0, none⟩ = some (.bool false) ∧ W.frozen? ⟨w.heap.size, 0, none⟩ = false) := fun W hW => ⟨(HI.out.br.below hW).cell 0, (HI.out.br.below hW).frozen 0⟩
    have HEnd : Hid (∀ W w', Below W'.heap.size W' W → Keep (· ∈ [D]) (W.setCell ⟨w.heap.size, 0, none⟩ (.bool true)) w' → Blk w' w.heap.size [.bool true] 4 ∧ Below w.heap.size w w') := fun W w' hW k => by
      have hb : Blk (W.setCell ⟨w.heap.size, 0, none⟩ (.bool true)) w.heap.size [.bool true] 4 := (HI.out.br.below hW).set (o := 0) _
      have hD2 := HD.out
      have hS2 := HS3.out
      have hbel : Below w.heap.size w (W.setCell ⟨w.heap.size, 0, none⟩ (.bool true)) := bset (HI.out.below.trans (hW.mono HI.out.below.size)) (Nat.le_refl _) _
      exact ⟨hb.keep k (by simp; omega), hbel.trans (k.below hbel.size (fun i hi h => by simp at h; omega))⟩
    have HDd : Hid (∀ W, Below W'.heap.size W' W → (W.setCell ⟨w.heap.size, 0, none⟩ (.bool true)).heap[D]? = some (.deferred (some []))) := fun W hW => by
      have hD2 := HD.out
      have hS2 := HS3.out
      have hlt := (Array.getElem?_eq_some_iff.1 Hd.out).1
      rw [Below.heap_setCell _ _ _ _ (by simp; omega), hW.block D hlt]
      exact Hd.out
    have hS0 := HS.out W'.drew (Below.refl _ _).drew
    have HBd : Hid (Below W'.heap.size W' W'.drew) := (Below.refl _ _).drew
    clear hI hgr hk hd hD hag
    cases h with
    | zero =>
      obtain ⟨a, c, rfl, -, -⟩ := HPW.out.leaf
      have hm1 := m_count64
      have k89 := count89 a kv.length c W'.drew
      obtain ⟨r0, r1⟩ := HRf.out W'.drew HBd.out
      generalize kv.length = kl at *
      go_wp2_with fail
      go_region_held3 (fun W => W.cell? ⟨w.heap.size + 1, 0, none⟩ = some (.int .i64 (kl : Int))) (first | exact hS0 | exact HST.out W' _ (Below.refl _ _)) (first | (go_at_call 92; (with_reducible refine k89.mono ?_); rintro e w1 ⟨rfl, rfl⟩))
      go_wp2
      refine leave_marks [D] _ (fun w' k => ⟨results_c4 rfl rfl (HEnd.out W' w' (Below.refl _ _) (Keep.trans (Keep.refl (· ∈ [D]) _).drew k (fun _ _ h => h))).1, rfl, (HEnd.out W' w' (Below.refl _ _) (Keep.trans (Keep.refl (· ∈ [D]) _).drew k (fun _ _ h => h))).2⟩) (fun D' h => by simp at h; subst h; exact HDd.out W' (Below.refl _ _)) (by simp)
    | succ h =>
      obtain ⟨a, c, ks, rfl, -, -, -, -, -⟩ := HPW.out.inner
      have hm1 := m_count72
      have k92 := count92 a n c (fst kv) (kv.length : Int) W'.drew
      generalize fst kv = sf at *
      generalize kv.length = kl at *
      go_wp2_with fail
      go_region_held3 (fun W => W.cell? ⟨w.heap.size + 1, 0, none⟩ = some (.int .i64 (kl : Int))) (first | exact hS0 | exact HST.out _ _ HB1.out | exact HS.out _ HB1.out) (first | (go_at_call 95; (with_reducible refine k92.mono ?_); rintro e w1 ⟨rfl, hB1⟩; have HB1 : Hid (Below W'.heap.size W' w1) := bmore HBd.out hB1; obtain ⟨r0, r1⟩ := HRf.out w1 HB1.out; clear hB1))
      go_wp2
      refine leave_marks [D] _ (fun w' k => ⟨results_c4 rfl rfl (HEnd.out _ _ HB1.out (by simpa using k)).1, rfl, (HEnd.out _ _ HB1.out (by simpa using k)).2⟩) (fun D' h => by simp at h; subst h; simpa using HDd.out _ HB1.out) (by simp)
theorem sound24 {w : World} {t : Nat} {kv : List Pr} (ht : TT w t kv) : Calls Tryd.prog 11 #[.pointer (some ⟨t, 0, none⟩)] w fun e w' => e = .returned (.bool true) ∧ Below w.heap.size w w' := by
  obtain ⟨h, n, x, hb, hp, hr⟩ := ht.ex
  have h10 : h ≤ 100 := by
    rcases Nat.lt_or_ge h 10 with q | q
    · omega
    · have hn1 : 1 ≤ n := by have := hr.2 (by omega); omega
      have hhigh : 2 ^ h ≤ kv.length := Nat.le_trans (Nat.le_mul_of_pos_left _ hn1) hp.high
      have h1 : 2 ^ 10 ≤ 2 ^ h := Nat.pow_le_pow_right (by decide) q
      have h2 := ht.few
      have h3 : (2 : Nat) ^ 10 = 1024 := by decide
      omega
  have k40 := soundTop40 hp hr h10 (by have := ht.few; omega)
  have HK : Hid (∀ W, Below w.heap.size w W → W.cell? ⟨t, 0, none⟩ = some (.iface x.1 x.2) ∧ Calls Tryd.prog 26 #[.iface x.1 x.2] W fun e w' => e = .returned (.bool true) ∧ Below W.heap.size W w') := fun W hW => ⟨(hb.below hW).cell 0, inOrder41 (hp.below hW) ht.srt ht.few ht.key⟩
  have c0 := hb.cell 0
  simp only [List.getElem?_cons_zero] at c0
  clear ht hb hp hr
  go_enter Tryd.func11, Tryd.ntmps11
  go_wp2_with (first
    | (go_at_call 25; (with_reducible refine k40.mono ?_); rintro e w1 ⟨rfl, hB1⟩; obtain ⟨c1, k41⟩ := HK.out w1 hB1)
    | (go_at_call 26; (with_reducible refine k41.mono ?_); rintro e w2 ⟨rfl, hB2⟩))
  go_ret
  exact ⟨rfl, bmore hB1 hB2⟩
end Go.Proofs.YthfkmedpcmiibaaDoor.T
