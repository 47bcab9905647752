/- Open. -/
import Derived.Test.YtnganmekiloigaaJv
namespace Go.Proofs.Ytnganmekiloigaa
open Go.RowKit
set_option maxRecDepth 100000
attribute [local go_sem] Oper.semAt_some
variable {w w' : World} {B d s : Nat} {D : Dk}
theorem chain_sum {h : List Pc} {p e u e1 : Nat} {l : List Bs} (a : Chain h p e l u e1) (hE : Ends h u e1) (g : Nat) (hg : u - p < g) : p + ((chainP h g p e).map Rc.n).sum = u := (chain_told a hE g hg).2
theorem chain_bound (h : List Pc) (hh : h.length ≤ 64) (pre : List Rc) (r : Rc) (hp : pre ++ [r] <+: chainP h (h.length + 1) 0 0) : pre.length ≤ 64 ∧ (pre.map Rc.n).sum + r.n ≤ 64 := by
  obtain ⟨u, e1, c, E⟩ := told_chain h (h.length + 1) 0 0 (Nat.zero_le _) (by omega)
  have h1 := c.le
  have h2 := c.room (Nat.zero_le _)
  have h3 := chain_sum c E (h.length + 1) (by omega)
  obtain ⟨t, ht⟩ := hp
  rw [List.length_map, ← ht] at h1
  rw [← ht] at h3
  simp at h1 h3
  omega
theorem forceP_lt (S : List Bs) : forceP S = 0 ∨ forceP S = 1 := by unfold forceP; split <;> simp
/-- halfOf, with what an older world has. -/
theorem halfA {w0 W : World} {a : Option Addr} {m c R k : Nat} {S : List Bs} (hv : LV EPc w0 (.slice a m c) (pcs S)) (hL : S.length = 2 * R) (hR : 2 ≤ R) (hR2 : R ≤ 64) (hk : k = 0 ∨ k = 1) :
    Calls Try.prog 73 #[.slice a m c, .int .i64 (k : Int)] W fun e w' => ∃ p q r, e = .returned (.slice p q r) ∧ LV EPc w0 (.slice p q r) (halfP S k) ∧ w' = W := by
  have hpl : (pcs S).length = 2 * R := by simp [pcs, hL]
  obtain ⟨g, o, c', hs, hc⟩ := hv.some (by omega)
  cases hs
  have h1 := half_int hpl
  rcases hk with rfl | rfl
  · have ht := hv.take (k := R) (by omega) c (by omega)
    have e0 : halfP S 0 = (pcs S).take R := by simp [halfP, hL]
    have h2 : (0 : Int) ≤ (R : Int) := by omega
    have h3 : (R : Int) ≤ (c : Int) := by omega
    have h4 : R ≤ c := by omega
    have h5 : ¬ c < R := by omega
    rw [e0]
    clear hv
    generalize (pcs S).length = n at *
    clear hpl
    go_enter Try.func73, Try.ntmps73
    go_wp2
    go_ret
    exact ⟨_, _, _, rfl, ht, rfl⟩
  · obtain ⟨g', o', he, ht⟩ := hv.drop (k := R) (by omega) (c - R) (by omega)
    simp only [Option.some.injEq, Addr.mk.injEq, and_true] at he
    obtain ⟨rfl, rfl⟩ := he
    rw [hpl] at ht
    have e1 : halfP S 1 = (pcs S).drop R := by
      unfold halfP
      rw [hL, Nat.one_mul, show 2 * R / 2 = R by omega, List.take_of_length_le (by rw [List.length_drop, hpl]; omega)]
    have h2 : (0 : Int) ≤ (R : Int) := by omega
    have h3 : (2 * R : Int) ≤ (c : Int) := by omega
    have h4 : 2 * R ≤ c := by omega
    have h5 : ¬ c < 2 * R := by omega
    have h6 : ¬ c = R := by omega
    have h7 : (R : Int) ≤ 2 * (R : Int) := by omega
    rw [e1]
    clear hv
    generalize (pcs S).length = n at *
    clear hpl
    go_enter Try.func73, Try.ntmps73
    go_wp2
    go_ret
    exact ⟨_, _, _, rfl, ht, rfl⟩
set_option maxHeartbeats 2000000 in
theorem open35 {R : Nat} (h : Alone B w d s D []) (hoff : D.off = false) (hw : D.wait.length ≤ 100000) (hn : D.secs.length = 2 * R) (hR : 2 ≤ R) (hR2 : R ≤ 64) (hg : great (pcs (rdS D)) ≠ 65535) :
    Calls Try.prog 35 #[.pointer (some ⟨d, 0, none⟩)] w (OPost w d (rdS D)) := by
  have c28 : Calls Try.prog 28 #[.pointer (some ⟨d, 0, none⟩)] (w.alloc (.cells #[.pointer (some ⟨d, 0, none⟩)] 23)) fun e w' => e = .returned (.int .i64 (D.secs.length : Int)) ∧ w' = w.alloc (.cells #[.pointer (some ⟨d, 0, none⟩)] 23) := by obtain ⟨wv, h1, _⟩ := h; exact size28 (h1.below (al _ _))
  have hl := rdS_length D
  have hS := rdS_ok h.ok
  have hpl : (pcs (rdS D)).length = 2 * R := by simp [pcs, hl, hn]
  have hpo := pcs_ok hS
  have HA : Hid (Calls Try.prog 67 #[.func (.func 68) #[] #[.pointer (some ⟨w.heap.size, 0, none⟩), .pointer (some ⟨w.heap.size + 1, 0, none⟩)]] ((w.alloc (.cells #[.pointer (some ⟨d, 0, none⟩)] 23)).alloc (.cells #[.slice none 0 0] 106)) fun e w' => e = .returned (.int .i64 0) ∧ ∃ u, Blk w' w.heap.size [.pointer (some ⟨d, 0, none⟩)] 23 ∧ Blk w' (w.heap.size + 1) [u] 106 ∧ RW EPc (w.heap.size + 2) w' u (pcs (rdS D)) ∧ Below w.heap.size w w') := by
    have e1 := blk_new w [.pointer (some ⟨d, 0, none⟩)] 23
    have e2 := blk_new (w.alloc (.cells #[.pointer (some ⟨d, 0, none⟩)] 23)) [.slice none 0 0] 106
    have hb2 : Below w.heap.size w ((w.alloc (.cells #[.pointer (some ⟨d, 0, none⟩)] 23)).alloc (.cells #[.slice none 0 0] 106)) := bmore (al _ _) (al _ _)
    have e1' := e1.below (al _ (.cells #[.slice none 0 0] 106))
    simp only [World.size_alloc] at e2
    generalize hW : (w.alloc (.cells #[.pointer (some ⟨d, 0, none⟩)] 23)).alloc (.cells #[.slice none 0 0] 106) = W at *
    have hWs : W.heap.size = w.heap.size + 2 := by rw [← hW]; simp
    have k68 := read68 ((h.below hb2).below (al W (.cells #[.int .i64 0] 34))) hoff hw (by omega) (e1'.below (al W (.cells #[.int .i64 0] 34))) (e2.below (al W (.cells #[.int .i64 0] 34)))
    refine (attempt_ok (Q := fun w2 => ∃ u, Blk w2 w.heap.size [.pointer (some ⟨d, 0, none⟩)] 23 ∧ Blk w2 (w.heap.size + 1) [u] 106 ∧ RW EPc (w.heap.size + 3) w2 u (pcs (rdS D)) ∧ Below w.heap.size w w2 ∧ w.heap.size + 2 ≤ w2.heap.size) (cf68 _) (k68.mono ?_)).mono ?_
    · rintro e w1 ⟨rfl, u, h1, h2, h3⟩
      refine ⟨rfl, (blk_new W [.int .i64 0] 34).block (h3.block _ (by simp) (by omega)), u, (e1'.below (al W _)).block (h3.block _ (by simp; omega) (by omega)), h1, h2.lower (by simp; omega), ?_, by have := h3.size; simp at this; omega⟩
      exact (bmore hb2 (al W _)).trans (h3.below (by simp; omega) (fun i e => by omega))
    · rintro e w1 ⟨rfl, w2, ⟨u, q1, q2, q3, q4, q5⟩, k⟩
      refine ⟨rfl, u, q1.block (k.block _ (by omega) (by omega)), q2.block (k.block _ (by omega) (by omega)), (q3.keep fun b hb => k.block b (q3.at hb).2 (by have := (q3.at hb).1; omega)).lower (by omega), q4.trans (k.below (by omega) (fun i e => by omega))⟩
  have h1 : ¬ ((D.secs.length : Int) < 4) := by omega
  have h2 : ((D.secs.length : Int)).tmod 2 = 0 := by rw [hn, show ((2 * R : Nat) : Int) = 2 * (R : Int) by omega]; exact Int.mul_tmod_right _ _
  have HG : Hid (∀ W v, LV EPc W v (pcs (rdS D)) → Calls Try.prog 70 #[v] W fun e w' => e = .returned (.int .i64 ((great (pcs (rdS D)) : Nat) : Int)) ∧ Below W.heap.size W w') := fun W v hv => greatest70 hv (by omega) (fun x hx => (hpo x hx).e)
  have HF : Hid (∀ W v, LV EPc W v (pcs (rdS D)) → Calls Try.prog 71 #[v] W fun e w' => e = .returned (.int .i64 ((forceP (rdS D) : Nat) : Int)) ∧ Below W.heap.size W w') := fun W v hv => force71 hv (by omega) hR hR2 hS
  have hgr : great (pcs (rdS D)) < 65536 := Nat.lt_of_le_of_lt (great_bound _ 0 65535 (by omega) fun x hx => by have := (hpo x hx).e; omega) (by omega)
  have hg' : ((great (pcs (rdS D)) : Nat) : Int) ≠ 65535 := by omega
  have hgb : (((great (pcs (rdS D)) : Nat) : Int) == 65535) = false := by simpa using hg'
  have HPL : Hid ((pcs (rdS D)).length = 2 * R) := hpl
  have HSL : Hid ((rdS D).length = 2 * R) := by show _ = _; omega
  have HSO : Hid (∀ x ∈ rdS D, x.length = 64) := hS
  have HPO : Hid (∀ x ∈ pcs (rdS D), x.Ok) := hpo
  have HGG : Hid (great (pcs (rdS D)) = great (pcs (rdS D))) := rfl
  clear h hw hpl hn hS hpo hg hoff hl
  generalize rdS D = S at *
  generalize hGG : great (pcs S) = gg at *
  replace HGG : Hid (great (pcs S) = gg) := hGG
  clear hGG
  generalize D.secs.length = n at *
  have hmf : ∀ (fn : Fn) (first cap : Array Value) (w : World), (Instr.makeFunc fn first cap).run Try.prog w = .ok (.func fn first cap) w := fun _ _ _ _ => rfl
  refine (callsIn_wide (n := 0)).1 (callsIn_of_wp_marks Try.func35 rfl trivial (wpIn_wide.2 ?_) rfl)
  simp only [Try.ntmps35, List.size_toArray, List.length_cons, List.length_nil, Nat.reduceAdd, Nat.reduceSub, Array.replicate_succ, Array.replicate_zero, List.push_toArray, List.append_toArray, List.nil_append, List.cons_append]
  go_wp2_with (first
    | (go_at_call 28; (with_reducible refine c28.mono ?_); rintro e w0 ⟨rfl, rfl⟩)
    | (go_at_call 67; (refine HA.out.mono ?_; rintro e w1 ⟨rfl, u, b1, b5, hU, B1⟩; obtain ⟨ua, uc, rfl, -⟩ := hU.form; have y1 := b1.cell 0; have y5 := b5.cell 0; simp only [List.getElem?_cons_zero] at y1 y5; have k70 := HG.out _ _ hU.read))
    | (go_at_call 70; (with_reducible refine k70.mono ?_); rintro e w2 ⟨rfl, B2⟩; have z1 := (b1.below B2).cell 0; have z5 := (b5.below B2).cell 0; simp only [List.getElem?_cons_zero] at z1 z5))
  have HL2 : Hid (∀ W, Below w2.heap.size w2 W → LV EPc W (.slice ua (pcs S).length uc) (pcs S)) := fun W k => (hU.read.below B2).below k
  have hb1 := (b1.below B2)
  have hb5 := (b5.below B2)
  have d1 : w2.drew.cell? ⟨w.heap.size, 0, none⟩ = some (.pointer (some ⟨d, 0, none⟩)) := z1
  have d5 : w2.drew.cell? ⟨w.heap.size + 1, 0, none⟩ = some (.slice ua (pcs S).length uc) := z5
  have l1 := hb1.lt
  have l5 := hb5.lt
  have k71a := HF.out _ _ (HL2.out _ (Below.refl _ w2).drew)
  have k71b := HF.out _ _ (HL2.out _ (bmore (al w2 (.cells #[.pointer none] 57)) (Below.refl _ _).drew))
  have HU : Hid _ := hU
  have HC1 : Hid (∀ W, Below w2.heap.size w2 W → W.cell? ⟨w.heap.size, 0, none⟩ = some (.pointer (some ⟨d, 0, none⟩))) := fun W k => (hb1.below k).cell 0
  have HB12 : Hid (Below w.heap.size w w2) := bmore B1 B2
  have Hb1 : Hid _ := hb1
  have Hb5 : Hid _ := hb5
  clear hb1 hb5 b1 b5 hU B1 B2 y1 y5
  generalize hm : (pcs S).length = m at *
  have HM : Hid ((pcs S).length = m) := hm
  clear hm
  generalize hhf : forceP S = hf at *
  have HHF : Hid (forceP S = hf) := hhf
  clear hhf
  have hgw : IntKind.i64.wrap ((gg : Int) + 1) = (gg : Int) + 1 := by rw [IntKind.wrap_i64]; omega
  rename_i K hK
  suffices HREST : Hid (∀ W x y, F12 w2 W x y (wlC d ⟨hf, gg + 1, 0, 0, false⟩) → K { tmps := #[Value.pointer (some ⟨d, 0, none⟩), Value.pointer (some ⟨w.heap.size, 0, none⟩), Value.pointer none, Value.slice none 0 0, Value.int IntKind.i64 0, Value.pointer (some ⟨w.heap.size + 1, 0, none⟩), Value.int IntKind.i64 0, Value.int IntKind.i64 (gg : Int), Value.pointer (some ⟨y, 0, none⟩), undef, undef, Value.pointer (some ⟨d, 0, none⟩), Value.bool false, Value.pointer (some ⟨d, 0, none⟩), Value.int IntKind.i64 (n : Int), Value.bool (decide ((n : Int) < 4)), Value.bool (decide ((n : Int) < 4)), Value.pointer (some ⟨d, 0, none⟩), Value.int IntKind.i64 (n : Int), Value.int IntKind.i64 0, Value.bool false, Value.bool (decide ((n : Int) < 4)), Value.func (Fn.func 68) #[] #[Value.pointer (some ⟨w.heap.size, 0, none⟩), Value.pointer (some ⟨w.heap.size + 1, 0, none⟩)], Value.int IntKind.i64 0, Value.int IntKind.i64 0, Value.bool false, undef, Value.slice ua m uc, Value.int IntKind.i64 (gg : Int), Value.int IntKind.i64 (gg : Int), Value.bool false, Value.pointer (some ⟨d, 0, none⟩), Value.slice ua m uc, Value.int IntKind.i64 (hf : Int), Value.int IntKind.i64 (gg : Int), Value.int IntKind.i64 ((gg : Int) + 1), Value.agg (wlC d ⟨hf, gg + 1, 0, 0, false⟩).toArray, Value.pointer (some ⟨x, 0, none⟩), undef, undef, undef, undef, undef, undef, undef, undef, undef, undef, undef, undef, undef, undef, undef, undef, undef, undef, undef, undef, undef, undef, undef, undef, undef, undef, undef, undef, undef, undef, undef], defers := [] } W) by
    refine wp_mono (Q := Exit.then K (fun _ _ _ => False)) ?_ (fun e a w h => by cases e <;> first | exact h | exact h.elim)
    go_region_law (first
      | (go_simp; (with_reducible refine Calls.mono k71a ?_); rintro e w3 ⟨rfl, B3⟩; have j1 := HC1.out _ (bmore (Below.refl _ w2).drew B3); have j2 := HC1.out _ (bmore (bmore (Below.refl _ w2).drew B3) (al w3 (.cells #[.pointer none] 57))))
      | (go_simp; (with_reducible refine Calls.mono k71b ?_); rintro e w3 ⟨rfl, B3⟩; have j1 := HC1.out _ (bmore (bmore (al w2 (.cells #[.pointer none] 57)) (Below.refl _ _).drew) B3); have h57 : Blk w3 w2.heap.size [.pointer none] 57 := (show Blk (w2.alloc (.cells #[.pointer none] 57)).drew w2.heap.size [.pointer none] 57 from blk_new w2 [.pointer none] 57).below B3; have g57 := h57.lt; have c57 : w3.cell? ⟨w2.heap.size, 0, none⟩ = some (.pointer none) := h57.cell 0; have f57 := h57.frozen 0))
    all_goals first | exact HREST.out _ _ _ (f12b B3) | exact HREST.out _ _ _ (f12c B3) | exact HREST.out _ _ _ (f12a B3)
  intro W x y hF
  apply hK
  have hx1 := hF.bx.below (al W (.cells #[.slice none 0 0] 62))
  have hy1 := hF.bv.below (al W (.cells #[.slice none 0 0] 62))
  have h51 := ((show Blk w2 (w.heap.size + 1) [.slice ua m uc] 106 from Hb5.out).below hF.B).below (al W (.cells #[.slice none 0 0] 62))
  have hT : Blk (W.alloc (.cells #[.slice none 0 0] 62)) W.heap.size [.slice none 0 0] 62 := blk_new W [.slice none 0 0] 62
  have HSP : Hid (∀ W', Below (W.alloc (.cells #[.slice none 0 0] 62)).heap.size (W.alloc (.cells #[.slice none 0 0] 62)) W' → W'.cell? ⟨w.heap.size + 1, 0, none⟩ = some (.slice ua m uc) ∧ W'.cell? ⟨y, 0, none⟩ = some (.pointer (some ⟨x, 0, none⟩)) ∧ W'.cell? ⟨x, 1, none⟩ = some (.int .i64 (hf : Int))) := fun W' k => ⟨(h51.below k).cell 0, (hy1.below k).cell 0, (hx1.below k).cell 1⟩
  have H73 : Hid (∀ W', Calls Try.prog 73 #[.slice ua m uc, .int .i64 (hf : Int)] W' fun e w' => ∃ p q r, e = .returned (.slice p q r) ∧ LV EPc w2 (.slice p q r) (halfP S hf) ∧ w' = W') := fun W' => halfA (HL2.out _ (Below.refl _ _)) HSL.out hR hR2 (by rw [← HHF.out]; exact forceP_lt S)
  have K0 : Below (W.alloc (.cells #[.slice none 0 0] 62)).heap.size (W.alloc (.cells #[.slice none 0 0] 62)) (W.alloc (.cells #[.slice none 0 0] 62)).drew := (Below.refl _ _).drew
  have hS0 := HSP.out _ K0
  have hS1 := HSP.out _ (bmore K0 (al _ (.cells #[.slice none 0 0] 106)))
  go_wp2_with fail
  go_region_held3 (fun W' => W'.cell? ⟨w.heap.size + 1, 0, none⟩ = some (.slice ua m uc) ∧ W'.cell? ⟨y, 0, none⟩ = some (.pointer (some ⟨x, 0, none⟩)) ∧ W'.cell? ⟨x, 1, none⟩ = some (.int .i64 (hf : Int))) (first | exact hS0 | exact HSP.out _ (bmore K0 (al _ _))) (first
    | (go_at_call 73; (with_reducible refine (H73.out _).mono ?_); rintro e w5 ⟨p0, q0, r0, rfl, hlv, rfl⟩)
    | (go_at_call 72; (with_reducible refine (chain72 _ ⟨_, _, _, rfl⟩ _).mono ?_); rintro e w6 ⟨rfl, rfl⟩))
  go_wp2_with fail
  have e106 : (W.alloc (.cells #[.slice none 0 0] 62)).heap.size = W.heap.size + 1 := by simp
  have hbox := blk_new (W.alloc (.cells #[.slice none 0 0] 62)) [.slice p0 q0 r0] 106
  rw [e106] at hbox
  have hx2 := (hx1.below (al _ (.cells #[.slice p0 q0 r0] 106))).below (Below.refl _ _).drew
  have hy2 := (hy1.below (al _ (.cells #[.slice p0 q0 r0] 106))).below (Below.refl _ _).drew
  have hT2 := (hT.below (al _ (.cells #[.slice p0 q0 r0] 106))).below (Below.refl _ _).drew
  have hbox2 := hbox.below (Below.refl _ _).drew
  have B14 : Below w2.heap.size w2 ((W.alloc (.cells #[.slice none 0 0] 62)).alloc (.cells #[.slice p0 q0 r0] 106)).drew := bmore hF.B (bmore (bmore (al _ _) (al _ _)) (Below.refl _ _).drew)
  have s14 : ((W.alloc (.cells #[.slice none 0 0] 62)).alloc (.cells #[.slice p0 q0 r0] 106)).drew.heap.size = W.heap.size + 2 := by simp
  have hBW := hF.B.size
  have hne := Ne.symm hF.ne
  have lx := hF.lx
  have HSZ : Hid (w2.heap.size ≤ x ∧ w2.heap.size ≤ W.heap.size ∧ x < W.heap.size ∧ y < W.heap.size) := ⟨lx, hBW, hF.bx.lt, hF.bv.lt⟩
  clear hx1 hy1 h51 hT hbox hS0 hS1 HSP H73 K0 hF e106
  generalize ((W.alloc (.cells #[.slice none 0 0] 62)).alloc (.cells #[.slice p0 q0 r0] 106)).drew = W14 at *
  have HS14 : Hid (W14.heap.size = W.heap.size + 2) := s14
  have HYX : Hid (y ≠ x) := hne
  have HAG : Hid (Ag w2 W14) := ⟨B14.size, fun k hk => B14.block k hk⟩
  have HLV : Hid (LV EPc w2 (.slice p0 q0 r0) (halfP S hf)) := hlv
  have HBX : Hid (Blk W14 (W.heap.size + 1) [.slice p0 q0 r0] 106) := hbox2
  have HI0 : Hid (Iv w2 (W14.heap.size + 2) d hf (gg + 1) x y W.heap.size (fun b => b = x ∨ b = W.heap.size) [] W14 (.slice none 0 0) []) := ⟨fun b => by simp [Value.ownBlock], hx2, hT2, RW.nil _ _ _, ⟨rfl, fun i v r hv => by simp at hv⟩, hy2, B14⟩
  have HHP : Hid ((halfP S hf).length ≤ 64 ∧ ∀ x ∈ halfP S hf, x.Ok) := by
    refine ⟨?_, fun x hx => HPO.out x (List.mem_of_mem_drop (List.mem_of_mem_take hx))⟩
    rw [halfP_length (by rcases (HHF.out ▸ forceP_lt S : hf = 0 ∨ hf = 1) with h | h <;> omega), HSL.out]; omega
  have HLEN : Hid (∀ pre (r : Rc), pre ++ [r] <+: chainP (halfP S hf) ((halfP S hf).length + 1) 0 0 → pre.length ≤ 64 ∧ (pre.map Rc.n).sum + r.n ≤ 64) := fun pre r hp => chain_bound _ HHP.out.1 pre r hp
  clear hx2 hy2 hT2 hbox2 B14 s14 hBW lx hlv
  refine wpIn_wide.1 (wpIn_range (a := { tmps := #[Value.pointer (some ⟨d, 0, none⟩), Value.pointer (some ⟨w.heap.size, 0, none⟩), Value.pointer none, Value.slice none 0 0, Value.int IntKind.i64 0, Value.pointer (some ⟨w.heap.size + 1, 0, none⟩), Value.int IntKind.i64 0, Value.int IntKind.i64 (gg : Int), Value.pointer (some ⟨y, 0, none⟩), Value.pointer (some ⟨W.heap.size, 0, none⟩), undef, Value.pointer (some ⟨d, 0, none⟩), Value.bool false, Value.pointer (some ⟨d, 0, none⟩), Value.int IntKind.i64 (n : Int), Value.bool (decide ((n : Int) < 4)), Value.bool (decide ((n : Int) < 4)), Value.pointer (some ⟨d, 0, none⟩), Value.int IntKind.i64 (n : Int), Value.int IntKind.i64 0, Value.bool false, Value.bool (decide ((n : Int) < 4)), Value.func (Fn.func 68) #[] #[Value.pointer (some ⟨w.heap.size, 0, none⟩), Value.pointer (some ⟨w.heap.size + 1, 0, none⟩)], Value.int IntKind.i64 0, Value.int IntKind.i64 0, Value.bool false, undef, Value.slice ua m uc, Value.int IntKind.i64 (gg : Int), Value.int IntKind.i64 (gg : Int), Value.bool false, Value.pointer (some ⟨d, 0, none⟩), Value.slice ua m uc, Value.int IntKind.i64 (hf : Int), Value.int IntKind.i64 (gg : Int), Value.int IntKind.i64 ((gg : Int) + 1), Value.agg (wlC d ⟨hf, gg + 1, 0, 0, false⟩).toArray, Value.pointer (some ⟨x, 0, none⟩), Value.slice ua m uc, Value.pointer (some ⟨x, 0, none⟩), Value.pointer (some ⟨x, 0, none⟩), Value.pointer (some ⟨x, 1, none⟩), Value.int IntKind.i64 (hf : Int), Value.slice p0 q0 r0, Value.func (Fn.func 101) #[] #[Value.pointer (some ⟨W.heap.size + 1, 0, none⟩)], undef, undef, undef, undef, undef, undef, undef, undef, undef, undef, undef, undef, undef, undef, undef, undef, undef, undef, undef, undef, undef, undef, undef, undef], defers := [] }) (gf := 101) (lb := #[.pointer (some ⟨W.heap.size + 1, 0, none⟩)]) rfl eg101 rfl (Enc := EncR (W14.heap.size + 2)) (fun r v W1 W2 h k => h.keep k) (xs := chainP (halfP S hf) ((halfP S hf).length + 1) 0 0) (G := Gq w2.heap.size (W.heap.size + 1))
    (fun W' k' hs' => runs101 HLV.out HHP.out.1 HHP.out.2 (HAG.out.keep (O := fun _ => False) (Keep.of k') (fun _ _ => id)) (HBX.out.keep (O := fun _ => False) (Keep.of k') id) hs') (fun q hq => by have := HS14.out; have := HSZ.out; unfold Gq at hq; omega)
    (fun O' q W' => ∃ u vs, Iv w2 (W14.heap.size + 2) d hf (gg + 1) x y W.heap.size O' q W' u vs ∧ (∀ b, u.ownBlock = some b → w2.heap.size ≤ b)) (fun _ _ _ _ => False) (fun O' q W' ⟨u, vs, hv, _⟩ => hv.lt) (fun O' q W1 W2 ⟨u, vs, hv, hu⟩ k => ⟨u, vs, hv.keep (by have := HS14.out; have := HSZ.out; omega) (by have := HS14.out; have := HSZ.out; omega) k, hu⟩) (fun c => fun O' q W1 W2 h _ => h.elim)
    (fun b => b = x ∨ b = W.heap.size) (fun q hq => by have := HS14.out; have := HSZ.out; unfold Gq; omega) ⟨_, _, HI0.out, fun b h => by cases h⟩ (fun v blk => { tmps := #[Value.pointer (some ⟨d, 0, none⟩), Value.pointer (some ⟨w.heap.size, 0, none⟩), Value.pointer none, Value.slice none 0 0, Value.int IntKind.i64 0, Value.pointer (some ⟨w.heap.size + 1, 0, none⟩), Value.int IntKind.i64 0, Value.int IntKind.i64 (gg : Int), Value.pointer (some ⟨y, 0, none⟩), Value.pointer (some ⟨W.heap.size, 0, none⟩), Value.pointer (some ⟨blk, 0, none⟩), Value.pointer (some ⟨d, 0, none⟩), Value.bool false, Value.pointer (some ⟨d, 0, none⟩), Value.int IntKind.i64 (n : Int), Value.bool (decide ((n : Int) < 4)), Value.bool (decide ((n : Int) < 4)), Value.pointer (some ⟨d, 0, none⟩), Value.int IntKind.i64 (n : Int), Value.int IntKind.i64 0, Value.bool false, Value.bool (decide ((n : Int) < 4)), Value.func (Fn.func 68) #[] #[Value.pointer (some ⟨w.heap.size, 0, none⟩), Value.pointer (some ⟨w.heap.size + 1, 0, none⟩)], Value.int IntKind.i64 0, Value.int IntKind.i64 0, Value.bool false, undef, Value.slice ua m uc, Value.int IntKind.i64 (gg : Int), Value.int IntKind.i64 (gg : Int), Value.bool false, Value.pointer (some ⟨d, 0, none⟩), Value.slice ua m uc, Value.int IntKind.i64 (hf : Int), Value.int IntKind.i64 (gg : Int), Value.int IntKind.i64 ((gg : Int) + 1), Value.agg (wlC d ⟨hf, gg + 1, 0, 0, false⟩).toArray, Value.pointer (some ⟨x, 0, none⟩), Value.slice ua m uc, Value.pointer (some ⟨x, 0, none⟩), Value.pointer (some ⟨x, 0, none⟩), Value.pointer (some ⟨x, 1, none⟩), Value.int IntKind.i64 (hf : Int), Value.slice p0 q0 r0, Value.func (Fn.func 101) #[] #[Value.pointer (some ⟨W.heap.size + 1, 0, none⟩)], v, undef, undef, undef, undef, undef, undef, undef, undef, undef, undef, undef, undef, undef, undef, undef, undef, undef, undef, undef, undef, undef, undef, undef], defers := [] }) (fun v => match v with | .agg a => a.toList | _ => []) 117 ?assign ?body ?done ?stop)
  case assign =>
    intro l' r v W' K hE hK
    obtain ⟨a, k, c, rfl, -⟩ := hE
    gi_wp2
    exact hK _ (blk_new _ _ _) (al _ _) (by simp)
  case body =>
    intro l' O' pre r v W' blk hI hE hnb hle hsz hblk hpre
    obtain ⟨u, vs, hI, hu⟩ := hI
    obtain ⟨a, k, c, rfl, hr⟩ := hE
    have hbl : Blk W' blk [.int .i64 (r.e : Int), .int .i64 (r.n : Int), .slice a k c] 117 := hblk
    have t0 : W'.cell? ⟨W.heap.size, 0, none⟩ = some u := hI.told.cell 0
    have t2 : W'.cell? ⟨blk, 2, none⟩ = some (.slice a k c) := hbl.cell 2
    obtain ⟨hplen, hpsum⟩ := HLEN.out pre r hpre
    obtain ⟨g', cap, w7, hrun, hrow, hgr, hloc, hlt7⟩ := rw_app2 (w := W'.alloc (.cells #[.slice a k c] 33)) (hI.row.below (al W' _)) (lv_blk EV (L := [(a, k, c)]) (g := W'.heap.size) (t := 33) (blk_new W' [.slice a k c] 33) 1 (by simp)) (by simp) (by rw [hI.bs.len]; simp; omega) (Nat.zero_le _)
    have kd : vs.length + [(a, k, c)].length = pre.length + 1 := by rw [hI.bs.len]; rfl
    rw [kd] at hrun hrow
    have hux : u.ownBlock ≠ some x := RW.ne hI.wal (by decide) hI.row
    have huT : u.ownBlock ≠ some W.heap.size := RW.ne hI.told (by decide) hI.row
    have huy : u.ownBlock ≠ some y := RW.ne hI.var (by decide) hI.row
    have hub : u.ownBlock ≠ some blk := RW.ne hbl (by decide) hI.row
    have k7 : ∀ b, b < W'.heap.size → u.ownBlock ≠ some b → w7.heap[b]? = W'.heap[b]? := fun b hb hn => (hgr.block b (by simp; omega) (fun e => hn e.symm)).trans (Below.heap_alloc _ _ _ hb)
    have b7x := hI.wal.block (k7 x hI.wal.lt hux)
    have b7T := hI.told.block (k7 W.heap.size hI.told.lt huT)
    have b7y := hI.var.block (k7 y hI.var.lt huy)
    have b7b := hbl.block (k7 blk hbl.lt hub)
    obtain ⟨O2, hN1, hN2, hN3, hN4⟩ := hI.next (r := r) (v := (a, k, c)) hr hsz HSZ.out.1 HSZ.out.2.1 hu (by have := HS14.out; have := HSZ.out; omega) hrow hgr hloc
    have hxT : x ≠ W.heap.size := by have := HSZ.out; omega
    have hyT : y ≠ W.heap.size := by have := HSZ.out; omega
    have hyx : y ≠ x := HYX.out
    have hbT : blk ≠ W.heap.size := by have := HS14.out; omega
    have hbx : blk ≠ x := by have := HS14.out; have := HSZ.out; omega
    have c7T : w7.cell? ⟨W.heap.size, 0, none⟩ = some u := b7T.cell 0
    have f7T := b7T.frozen 0
    have c7y : w7.cell? ⟨y, 0, none⟩ = some (.pointer (some ⟨x, 0, none⟩)) := b7y.cell 0
    have c7x3 : w7.cell? ⟨x, 3, none⟩ = some (.int .i64 (pre.length : Int)) := b7x.cell 3
    have c7x4 : w7.cell? ⟨x, 4, none⟩ = some (.int .i64 (((pre.map Rc.n).sum : Nat) : Int)) := b7x.cell 4
    have f7x3 := b7x.frozen 3
    have f7x4 := b7x.frozen 4
    have c7b : w7.cell? ⟨blk, 1, none⟩ = some (.int .i64 (r.n : Int)) := b7b.cell 1
    have HEND : Hid (∃ O2, (∃ u vs, Iv w2 (W14.heap.size + 2) d hf (gg + 1) x y W.heap.size O2 (pre ++ [r]) (((w7.setCell ⟨W.heap.size, 0, none⟩ (.slice (some ⟨g', 0, none⟩) (pre.length + 1) cap)).setCell ⟨x, 3, none⟩ (.int .i64 ((pre.length : Int) + 1))).setCell ⟨x, 4, none⟩ (.int .i64 ((((pre.map Rc.n).sum : Nat) : Int) + (r.n : Int)))).drew u vs ∧ (∀ b, u.ownBlock = some b → w2.heap.size ≤ b)) ∧ GrewN (W14.heap.size + 2) O' O2 ∧ Keep O' W' (((w7.setCell ⟨W.heap.size, 0, none⟩ (.slice (some ⟨g', 0, none⟩) (pre.length + 1) cap)).setCell ⟨x, 3, none⟩ (.int .i64 ((pre.length : Int) + 1))).setCell ⟨x, 4, none⟩ (.int .i64 ((((pre.map Rc.n).sum : Nat) : Int) + (r.n : Int)))).drew) := ⟨O2, ⟨_, _, hN1.keep (B := W14.heap.size) (by have := HS14.out; have := HSZ.out; omega) (by have := HS14.out; have := HSZ.out; omega) (Keep.of (Below.refl _ _).drew), fun b hb => by cases hb; exact hN4⟩, hN2, hN3.drew⟩
    have hA : ∃ u' w', (Builtin.append_ #[62, 62] 62 #[u, .slice (some ⟨W'.heap.size, 0, none⟩) 1 1]).run Try.prog (W'.alloc (.cells #[.slice a k c] 33)) = .ok u' w' ∧ (u' = .slice (some ⟨g', 0, none⟩) (pre.length + 1) cap ∧ w' = w7) := ⟨_, _, hrun, rfl, rfl⟩
    obtain ⟨av, cv, rfl, -⟩ := hI.row.form
    clear hN1 hN2 hN3 hN4 hrun hrow hgr hloc b7x b7T b7y b7b hI hbl hblk hux huT huy hub k7
    generalize hsm : (pre.map Rc.n).sum = sm at *
    generalize hpn : pre.length = pn at *
    gi_wp2_with (gi_at_builtin; refine wpListIn_append_ex (by rfl) (.tmp 46) (.tmp 49) 62 (by rfl) _ _ (by rfl) (by rfl) hA ?_; rintro u' w' ⟨rfl, rfl⟩)
    have hws : IntKind.i64.wrap ((sm : Int) + (r.n : Int)) = (sm : Int) + (r.n : Int) := by rw [IntKind.wrap_i64]; omega
    gi_region
    all_goals (try gi_wp2)
    all_goals exact HEND.out
  case done =>
    rintro D' O' W' hD nD ⟨u, vs, hI, hu⟩ hgr hk hd
    have t8 : W'.cell? ⟨y, 0, none⟩ = some (.pointer (some ⟨x, 0, none⟩)) := hI.var.cell 0
    have t9 : W'.cell? ⟨W.heap.size, 0, none⟩ = some u := hI.told.cell 0
    have HI : Hid _ := hI
    have Hd : Hid _ := hd
    have HDD : Hid _ := hD
    have HnD : Hid _ := nD
    have HU2 : Hid _ := hu
    clear hI hgr hk hd hD nD hu
    have e8 : W'.drew.cell? ⟨y, 0, none⟩ = some (.pointer (some ⟨x, 0, none⟩)) := t8
    have e9 : W'.drew.cell? ⟨W.heap.size, 0, none⟩ = some u := t9
    have HF : Hid (∀ w'', Keep (· ∈ [D']) W'.drew w'' → OPost w d S (.returned (.tuple #[.pointer (some ⟨x, 0, none⟩), u, .int .i64 0])) w'') := fun w'' k => by
      have hi := HI.out
      have hno : ∀ b, O' b → ¬ b ∈ [D'] := fun b hb hm => by
        have : b = D' := by simpa using hm
        subst this
        exact HnD.out hb
      have kb : ∀ b, O' b → w''.heap[b]? = W'.heap[b]? := fun b hb => k.block b (hi.lt b hb) (hno b hb)
      have eH : halfP S hf = halfP S (forceP S) := by rw [HHF.out]
      have eT : chainP (halfP S hf) ((halfP S hf).length + 1) 0 0 = toldP S := by
        rw [halfP_length (by rcases (HHF.out ▸ forceP_lt S : hf = 0 ∨ hf = 1) with h | h <;> omega), eH]
        rfl
      rw [eT] at hi
      have hz := HSZ.out
      have hz2 := HS14.out
      have hz3 := HB12.out.size
      refine ⟨x, u, vs, rfl, ?_, (hi.row.keep fun b hb => kb b ((hi.own b).2 (.inr (.inr (.inl hb))))).raise (fun b hb => by have := HU2.out b hb; omega), (hi.bs.keep fun i v b hv hb => kb b ((hi.own b).2 (.inr (.inr (.inr ⟨i, v, hv, hb⟩))))).lower (by omega), ?_, by omega⟩
      · rw [HHF.out, HGG.out]
        exact hi.wal.block (kb x ((hi.own x).2 (.inl rfl)))
      · have hD := HDD.out
        have hb2 := bmore HB12.out hi.below
        exact hb2.drew.trans (k.below (B := w.heap.size) hb2.size (fun b hb => by
          have : b = D' := by simpa using hb
          omega))
    dsimp only
    go_wp2
    go_region
    all_goals (try go_wp2)
    all_goals exact leave_marks [D'] _ (fun w'' k => ⟨by simp [results, Try.results35], HF.out w'' k⟩) (fun D'' h => by simp at h; subst h; exact Hd.out) (by simp)
  case stop =>
    rintro D' c O' pre W' hD nD hpre h hgr hk hd
    exact h.elim
end Go.Proofs.Ytnganmekiloigaa
