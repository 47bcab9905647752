/- New, End, Tick, Begin, Write. -/
import Derived.Test.YtjgdcdeekpeenaaMm
namespace Go.Proofs.Ytjgdcdeekpeenaa
open Go.RowKit Go.Shelf
set_option maxRecDepth 100000
theorem ptr_set (c h : Int) (P : Nat → Value) (wm : Nat) (v : Value) {i : Nat} (hi : i < 4) : (mgL c h P wm).set (2 + i) v = mgL c h (fun j => if j = i then v else P j) wm := by
  match i, hi with
  | 0, _ => rfl
  | 1, _ => rfl
  | 2, _ => rfl
  | 3, _ => rfl
theorem MM.ne_s {w : World} {B : Nat} {a : At} {M : Mg} (h : MM w B a M) {i : Nat} (hi : i < 4) (hs : (M.op i).isSome) : a.s i ≠ a.m := by
  obtain ⟨s, hs⟩ := Option.isSome_iff_exists.1 hs
  exact blk_ne (h.sb i hi s hs) h.blk (by decide)
theorem MM.ne_k {w : World} {B : Nat} {a : At} {M : Mg} (h : MM w B a M) {i : Nat} (hi : i < 4) (hs : (M.op i).isSome) : a.k i ≠ a.m := by
  obtain ⟨s, hs⟩ := Option.isSome_iff_exists.1 hs
  exact fun e => blk_ne_map (h.km i hi s hs) h.blk e.symm
theorem MM.ne_w {w : World} {B : Nat} {a : At} {M : Mg} (h : MM w B a M) : a.wm ≠ a.m := fun e => blk_ne_map h.wm h.blk e.symm
theorem keep_set (w : World) (m j : Nat) (v : Value) : Keep (fun q => q = m) w (w.setCell ⟨m, j, none⟩ v) := Keep.set (F := fun q => q = m) (Keep.refl _ _) (.inr rfl) _
/-- A cell of the manager's own block is set. -/
theorem MM.set {w : World} {B : Nat} {a : At} {M : Mg} (h : MM w B a M) (j : Nat) (v : Value) (M' : Mg) (hb : (mgL M.clock M.high (ptrV a M) a.wm).set j v = mgL M'.clock M'.high (ptrV a M') a.wm) (ho : ∀ i s, M'.op i = some s → M.op i = some s) (hw : M'.wr = M.wr) : MM (w.setCell ⟨a.m, j, none⟩ v) B a M' := by
  have k := keep_set w a.m j v
  have hs : ∀ i, (M'.op i).isSome → (M.op i).isSome := fun i q => by
    obtain ⟨s, q⟩ := Option.isSome_iff_exists.1 q
    rw [ho i s q]; rfl
  refine ⟨?_, ?_, fun i hi s q => ?_, fun i hi s q => ?_, fun i j hi hj hij q1 q2 => h.apart i j hi hj hij (hs i q1) (hs j q2), fun i hi q => h.off i hi (hs i q), h.base, fun i hi q => h.kbase i hi (hs i q)⟩
  · rw [← hb]; exact h.blk.set v
  · rw [hw]; exact own_keep h.wm k h.ne_w
  · exact (h.sb i hi s (ho i s q)).keep k (h.ne_s hi (by rw [ho i s q]; rfl))
  · exact own_keep (h.km i hi s (ho i s q)) k (h.ne_k hi (by rw [ho i s q]; rfl))
theorem MM.fr {w : World} {B : Nat} {a : At} {M : Mg} (h : MM w B a M) (j : Nat) (v : Value) : Fr B w (w.setCell ⟨a.m, j, none⟩ v) := by
  refine ⟨Below.setCell (Below.refl _ _) h.base.1 _, fun g l t ht q => q.keep (keep_set w a.m j v) ?_⟩
  exact fun e => blk_ne q h.blk ht e
def Mg.close (M : Mg) (i : Nat) : Mg := { M with op := fun j => if j = i then none else M.op j }
theorem ptr_close (a : At) (M : Mg) (i : Nat) : (fun j => if j = i then .pointer none else ptrV a M j) = ptrV a (M.close i) := by
  funext j
  unfold ptrV Mg.close
  by_cases h : j = i <;> simp [h]
theorem MM.closed {w : World} {B : Nat} {a : At} {M : Mg} (h : MM w B a M) {i : Nat} (hi : i < 4) : MM (w.setCell ⟨a.m, 2 + i, none⟩ (.pointer none)) B a (M.close i) :=
  h.set (2 + i) _ (M.close i) (by rw [ptr_set _ _ _ _ _ hi, ptr_close]; rfl) (fun j s q => by unfold Mg.close at q; by_cases e : j = i <;> simp [e] at q ⊢; exact q) rfl
/-- What a call leaves: the manager, and a frame. -/
def Lft (B : Nat) (a : At) (M : Mg) (w w' : World) : Prop := MM w' B a M ∧ Fr B w w'
theorem end17_no {w : World} {B : Nat} {a : At} {M : Mg} (h : MM w B a M) (id : Int) (hn : errM M id ≠ 0) : Calls Try.prog 17 #[.pointer (some ⟨a.m, 0, none⟩), .int .i64 id] w fun e w' => e = .returned (.int .i64 (errM M id)) ∧ Below w.heap.size w w' := by
  have k := opened38 h id
  generalize errM M id = n at *
  clear h
  simp only [hn, if_false] at k
  go_enter Try.func17, Try.ntmps17
  go_wp2_with (go_at_call 38; (with_reducible refine k.mono ?_); rintro e w1 ⟨rfl, hB⟩)
  go_ret
  exact ⟨rfl, hB⟩
theorem end17_yes {w : World} {B : Nat} {a : At} {M : Mg} (h : MM w B a M) {i : Nat} (hi : i < 4) {s : Sn} (hs : M.op i = some s) (hB : B ≤ w.heap.size) : Calls Try.prog 17 #[.pointer (some ⟨a.m, 0, none⟩), .int .i64 (i : Int)] w fun e w' => e = .returned (.int .i64 0) ∧ Lft B a (M.close i) w w' := by
  have k := opened38_yes h hi hs
  have HC : Hid (∀ W, Below w.heap.size w W → MM W B a M) := fun W q => h.below q
  have HF : Hid (∀ W, Below w.heap.size w W → Fr B w W) := fun W q => Fr.of q hB
  have h1 : (0 : Int) ≤ (i : Int) := by omega
  have h2 : (i : Int) < 4 := by omega
  clear h hs
  go_enter Try.func17, Try.ntmps17
  go_wp2_with (go_at_call 38; (with_reducible refine k.mono ?_); rintro e w1 ⟨rfl, hB1⟩; have c2 := (HC.out _ hB1).ptr hi; have z2 := (HC.out _ hB1).blk.frozen (2 + i))
  go_ret
  exact ⟨rfl, (HC.out _ hB1).closed hi, (HF.out _ hB1).trans ((HC.out _ hB1).fr _ _)⟩
def Mg.new (n : Int) : Mg := { clock := n, high := n, op := fun _ => none, wr := [] }
abbrev at0 (x : Int) : Int := min (max x 0) 1073741824
theorem mm_new (n : Int) (w : World) : MM ((w.alloc (.map #[] 0)).alloc (.cells #[.int .i64 n, .int .i64 n, .pointer none, .pointer none, .pointer none, .pointer none, .map (some w.heap.size)] 61)) w.heap.size ⟨w.heap.size + 1, w.heap.size, fun _ => 0, fun _ => 0⟩ (Mg.new n) := by
  refine ⟨?_, ?_, fun _ _ _ q => (by cases q), fun _ _ _ q => (by cases q), fun _ _ _ _ _ q => (by cases q), fun _ _ q => (by cases q), ⟨by simp, by simp⟩, fun _ _ q => (by cases q)⟩
  · exact blk_at _ (mgL n n (fun _ => .pointer none) w.heap.size) 61 (by simp)
  · exact (World.ownsMap_made w Try.prog 9 heldR).alloc _
theorem new12 (x : Int) (w : World) : Calls Try.prog 12 #[.int .i64 x] w fun e w' => ∃ a : At, e = .returned (.pointer (some ⟨a.m, 0, none⟩)) ∧ MM w' w.heap.size a (Mg.new (at0 x)) ∧ Below w.heap.size w w' := by
  have hmm : ∀ t (w1 : World), (Instr.makeMap t none).run Try.prog w1 = .ok (.map (some w1.heap.size)) (w1.alloc (.map #[] 0)) := fun t w1 => rfl
  go_enter Try.func12, Try.ntmps12
  go_wp2
  all_goals
    go_ret
    first
      | (rw [show at0 x = 0 by unfold at0; omega]; exact ⟨_, rfl, mm_new _ w, bal (al _ _) _⟩)
      | (rw [show at0 x = x by unfold at0; omega]; exact ⟨_, rfl, mm_new _ w, bal (al _ _) _⟩)
      | (rw [show at0 x = 1073741824 by unfold at0; omega]; exact ⟨_, rfl, mm_new _ w, bal (al _ _) _⟩)
/-- The numbers fit. -/
structure Fit (M : Mg) : Prop where
  c0 : 0 ≤ M.clock
  c1 : M.clock ≤ 1073741824
  h0 : 0 ≤ M.high
  h1 : M.high ≤ 1073741824
abbrev tickC (c n : Int) : Int := c + min (max n 0) (1073741824 - c)
def Mg.tick (M : Mg) (n : Int) : Mg := { M with clock := tickC M.clock n }
theorem Fit.tick {M : Mg} (h : Fit M) (n : Int) : Fit (M.tick n) := ⟨by have := h.c0; have := h.c1; show 0 ≤ tickC _ _; unfold tickC; omega, by have := h.c0; have := h.c1; show tickC _ _ ≤ _; unfold tickC; omega, h.h0, h.h1⟩
theorem tick18 {w : World} {B : Nat} {a : At} {M : Mg} (h : MM w B a M) (hf : Fit M) (n : Int) : Calls Try.prog 18 #[.pointer (some ⟨a.m, 0, none⟩), .int .i64 n] w fun e w' => e = .returned (.tuple #[]) ∧ Lft B a (M.tick n) w w' := by
  have c0 : w.cell? ⟨a.m, 0, none⟩ = some (.int .i64 M.clock) := h.blk.cell 0
  have z0 := h.blk.frozen 0
  have f0 := hf.c0
  have f1 := hf.c1
  have HL : Hid (∀ x, x = tickC M.clock n → Lft B a (M.tick n) w (w.setCell ⟨a.m, 0, none⟩ (.int .i64 x))) := fun x q => ⟨h.set 0 _ (M.tick n) (by rw [q]; rfl) (fun _ _ q => q) rfl, h.fr _ _⟩
  clear h hf
  generalize M.clock = c at *
  go_enter Try.func18, Try.ntmps18
  go_wp2
  go_region
  refine bodyPost_end (v := .tuple #[]) (by simp [results, Try.results18, go_sem]) rfl ⟨rfl, ?_⟩
  have hl := HL.out _ (show (c + if 1073741824 - c < if n < 0 then 0 else n then 1073741824 - c else if n < 0 then 0 else n) = tickC c n by unfold tickC; split <;> split at * <;> omega)
  exact ⟨hl.1.below ((Below.refl _ _).drew), hl.2.trans ⟨(Below.refl _ _).drew, fun _ _ _ _ q => q⟩⟩
/-- One is opened. -/
def Mg.opn (M : Mg) (i : Nat) (s : Sn) : Mg := { M with op := fun j => if j = i then some s else M.op j }
def At.opn (a : At) (i s k : Nat) : At := { a with s := fun j => if j = i then s else a.s j, k := fun j => if j = i then k else a.k j }
theorem ptr_opn (a : At) (M : Mg) (i s k : Nat) (x : Sn) : (fun j => if j = i then .pointer (some ⟨s, 0, none⟩) else ptrV a M j) = ptrV (a.opn i s k) (M.opn i x) := by
  funext j
  unfold ptrV Mg.opn At.opn
  by_cases h : j = i <;> simp [h]
theorem MM.opened {w : World} {B : Nat} {a : At} {M : Mg} (h : MM w B a M) (hB : B ≤ w.heap.size) {i : Nat} (hi : i < 4) (n : Int) :
    Lft B (a.opn i (w.heap.size + 1) w.heap.size) (M.opn i ⟨n, []⟩) w (((w.alloc (.map #[] 0)).alloc (.cells #[.int .i64 n, .map (some w.heap.size)] 64)).setCell ⟨a.m, 2 + i, none⟩ (.pointer (some ⟨w.heap.size + 1, 0, none⟩))) := by
  have q : Below w.heap.size w ((w.alloc (.map #[] 0)).alloc (.cells #[.int .i64 n, .map (some w.heap.size)] 64)) := bal (al _ _) _
  have hm : ((w.alloc (.map #[] 0)).alloc (.cells #[.int .i64 n, .map (some w.heap.size)] 64)).ownsMap Try.prog 9 heldR w.heap.size 0 (.map []) := (World.ownsMap_made w Try.prog 9 heldR).alloc _
  have hb : Blk ((w.alloc (.map #[] 0)).alloc (.cells #[.int .i64 n, .map (some w.heap.size)] 64)) (w.heap.size + 1) [.int .i64 n, .map (some w.heap.size)] 64 := blk_at _ [.int .i64 n, .map (some w.heap.size)] 64 (by simp)
  have h' := h.below q
  have hF : Fr B w ((w.alloc (.map #[] 0)).alloc (.cells #[.int .i64 n, .map (some w.heap.size)] 64)) := Fr.of q hB
  have hlm := h.blk.lt
  have hlw := h.wm.lt
  have hlk : ∀ j, j < 4 → (M.op j).isSome → a.k j < w.heap.size := fun j hj e => by
    obtain ⟨s, e⟩ := Option.isSome_iff_exists.1 e
    exact (h.km j hj s e).lt
  generalize (w.alloc (.map #[] 0)).alloc (.cells #[.int .i64 n, .map (some w.heap.size)] 64) = W at *
  have k := keep_set W a.m (2 + i) (.pointer (some ⟨w.heap.size + 1, 0, none⟩))
  refine ⟨⟨?_, ?_, fun j hj s e => ?_, fun j hj s e => ?_, fun j l hj hl hjl e1 e2 => ?_, fun j hj e => ?_, h.base, fun j hj e => ?_⟩, hF.trans (h'.fr _ _)⟩
  · have := h'.blk.set (o := 2 + i) (.pointer (some ⟨w.heap.size + 1, 0, none⟩))
    rw [ptr_set _ _ _ _ _ hi, ptr_opn a M i (w.heap.size + 1) w.heap.size ⟨n, []⟩] at this
    exact this
  · exact own_keep h'.wm k h'.ne_w
  · by_cases c : j = i
    · subst c
      simp only [Mg.opn, if_true, Option.some.injEq] at e
      subst e
      simp only [At.opn, if_true]
      exact hb.keep k (by omega)
    · simp only [Mg.opn, c, if_false] at e
      simp only [At.opn, c, if_false]
      exact (h'.sb j hj s e).keep k (h'.ne_s hj (by rw [e]; rfl))
  · by_cases c : j = i
    · subst c
      simp only [Mg.opn, if_true, Option.some.injEq] at e
      subst e
      simp only [At.opn, if_true]
      exact own_keep hm k (by omega)
    · simp only [Mg.opn, c, if_false] at e
      simp only [At.opn, c, if_false]
      exact own_keep (h'.km j hj s e) k (h'.ne_k hj (by rw [e]; rfl))
  · by_cases c : j = i
    · have c' : l ≠ i := fun e => hjl (c.trans e.symm)
      simp only [Mg.opn, c', if_false] at e2
      have := hlk l hl e2
      simp only [At.opn, c, c', if_true, if_false]
      omega
    · simp only [Mg.opn, c, if_false] at e1
      by_cases c' : l = i
      · have := hlk j hj e1
        simp only [At.opn, c, c', if_true, if_false]
        omega
      · simp only [Mg.opn, c', if_false] at e2
        simp only [At.opn, c, c', if_false]
        exact h.apart j l hj hl hjl e1 e2
  · by_cases c : j = i
    · simp only [At.opn, c, if_true]
      omega
    · simp only [Mg.opn, c, if_false] at e
      simp only [At.opn, c, if_false]
      exact h.off j hj e
  · by_cases c : j = i
    · simp only [At.opn, c, if_true]
      exact hB
    · simp only [Mg.opn, c, if_false] at e
      simp only [At.opn, c, if_false]
      exact h.kbase j hj e
/-- What Begin says of a number. -/
def errB (M : Mg) (id : Int) : Int := if id < 0 ∨ 4 ≤ id then 2 else if (M.op id.toNat).isSome then 7 else 0
theorem begin13_bad {w : World} (a : At) (id : Int) (hi : id < 0 ∨ 4 ≤ id) : Calls Try.prog 13 #[.pointer (some ⟨a.m, 0, none⟩), .int .i64 id] w fun e w' => e = .returned (.tuple #[.int .i64 0, .int .i64 2]) ∧ Below w.heap.size w w' := by
  have k := refusal37_no a.m id hi w
  go_enter Try.func13, Try.ntmps13
  go_wp2_with (go_at_call 37; (with_reducible refine k.mono ?_); rintro e w1 ⟨rfl, hB⟩)
  exact bodyPost_ret (v := .tuple #[.int .i64 0, .int .i64 2]) (by simp [results, Try.results13, go_sem]) rfl ⟨rfl, hB⟩
theorem begin13_open {w : World} {B : Nat} {a : At} {M : Mg} (h : MM w B a M) {i : Nat} (hi : i < 4) {s : Sn} (hs : M.op i = some s) : Calls Try.prog 13 #[.pointer (some ⟨a.m, 0, none⟩), .int .i64 (i : Int)] w fun e w' => e = .returned (.tuple #[.int .i64 0, .int .i64 7]) ∧ Below w.heap.size w w' := by
  have k := refusal37_ok a.m i hi w
  have HC : Hid (∀ W, Below w.heap.size w W → W.cell? ⟨a.m, 2 + i, none⟩ = some (.pointer (some ⟨a.s i, 0, none⟩))) := fun W q => by
    have := (h.below q).ptr hi
    unfold ptrV at this
    rwa [hs] at this
  have h1 : (0 : Int) ≤ (i : Int) := by omega
  have h2 : (i : Int) < 4 := by omega
  clear h hs
  go_enter Try.func13, Try.ntmps13
  go_wp2_with (go_at_call 37; (with_reducible refine k.mono ?_); rintro e w1 ⟨rfl, hB⟩; have c2 := HC.out _ hB)
  exact bodyPost_ret (v := .tuple #[.int .i64 0, .int .i64 7]) (by simp [results, Try.results13, go_sem]) rfl ⟨rfl, hB⟩
def Mg.rise (M : Mg) (n : Int) : Mg := { M with high := n }
theorem MM.risen {w : World} {B : Nat} {a : At} {M : Mg} (h : MM w B a M) (n : Int) : MM (w.setCell ⟨a.m, 1, none⟩ (.int .i64 n)) B a (M.rise n) := h.set 1 _ (M.rise n) rfl (fun _ _ q => q) rfl
abbrev hiB (M : Mg) : Int := max M.clock M.high
theorem begin13_yes {w : World} {B : Nat} {a : At} {M : Mg} (h : MM w B a M) (hB : B ≤ w.heap.size) {i : Nat} (hi : i < 4) (hs : M.op i = none) : Calls Try.prog 13 #[.pointer (some ⟨a.m, 0, none⟩), .int .i64 (i : Int)] w fun e w' => e = .returned (.tuple #[.int .i64 (hiB M), .int .i64 0]) ∧ ∃ s k, Lft B (a.opn i s k) ((M.rise (hiB M)).opn i ⟨hiB M, []⟩) w w' := by
  have k := refusal37_ok a.m i hi w
  have HC : Hid (∀ W, Below w.heap.size w W → MM W B a M ∧ W.cell? ⟨a.m, 2 + i, none⟩ = some (.pointer none) ∧ W.cell? ⟨a.m, 0, none⟩ = some (.int .i64 M.clock) ∧ W.cell? ⟨a.m, 1, none⟩ = some (.int .i64 M.high) ∧ W.frozen? ⟨a.m, 1, none⟩ = false) := fun W q => by
    have := (h.below q).ptr hi
    unfold ptrV at this
    rw [hs] at this
    exact ⟨h.below q, this, (h.below q).blk.cell 0, (h.below q).blk.cell 1, (h.below q).blk.frozen 1⟩
  have h1 : (0 : Int) ≤ (i : Int) := by omega
  have h2 : (i : Int) < 4 := by omega
  clear h hs
  go_enter Try.func13, Try.ntmps13
  go_wp2_with (go_at_call 37; (with_reducible refine k.mono ?_); rintro e w1 ⟨rfl, hB1⟩; obtain ⟨hM1, c2, c0, c1, z1⟩ := HC.out _ hB1)
  go_region
  have e1 : (if M.clock < M.high then M.high else M.clock) = hiB M := by unfold hiB; split <;> omega
  rw [e1]
  have hM2 : MM (w1.setCell ⟨a.m, 1, none⟩ (.int .i64 (hiB M))).drew B a (M.rise (hiB M)) := (hM1.risen _).below ((Below.refl _ _).drew)
  have hF2 : Fr B w (w1.setCell ⟨a.m, 1, none⟩ (.int .i64 (hiB M))).drew := (Fr.of hB1 hB).trans ((hM1.fr _ _).trans ⟨(Below.refl _ _).drew, fun _ _ _ _ q => q⟩)
  generalize (w1.setCell ⟨a.m, 1, none⟩ (.int .i64 (hiB M))).drew = w2 at *
  have d1 : w2.cell? ⟨a.m, 1, none⟩ = some (.int .i64 (hiB M)) := hM2.blk.cell 1
  have hA := hM2.below (al w2 (.map #[] 0))
  have d4 : (w2.alloc (.map #[] 0)).cell? ⟨a.m, 1, none⟩ = some (.int .i64 (hiB M)) := hA.blk.cell 1
  have hA2 := hM2.below (bal (al w2 (.map #[] 0)) (.cells #[.int .i64 (hiB M), .map (some w2.heap.size)] 64))
  have d2 := hA2.ptr hi
  have d3 := hA2.blk.frozen (2 + i)
  have hmm : ∀ t (w1 : World), (Instr.makeMap t none).run Try.prog w1 = .ok (.map (some w1.heap.size)) (w1.alloc (.map #[] 0)) := fun t w1 => rfl
  have HL : Hid _ := hM2.opened (Nat.le_trans hB hF2.b.size) hi (hiB M)
  have HF2 : Hid _ := hF2
  clear hM2 hF2 c0 c1 c2 z1 hM1 k HC e1 hA hA2
  generalize hhn : hiB M = n at *
  have HE : Hid (hiB M = n) := hhn
  clear hhn
  go_wp2_with fail
  go_region
  have hL2 : Lft B (a.opn i (w2.heap.size + 1) w2.heap.size) ((M.rise n).opn i ⟨n, []⟩) w2 (((w2.alloc (.map #[] 0)).alloc (.cells #[.int .i64 n, .map (some w2.heap.size)] 64)).setCell ⟨a.m, 2 + i, none⟩ (.pointer (some ⟨w2.heap.size + 1, 0, none⟩))).drew := ⟨HL.out.1.below ((Below.refl _ _).drew), HL.out.2.trans ⟨(Below.refl _ _).drew, fun _ _ _ _ q => q⟩⟩
  clear HL d1 d2 d3 d4
  generalize (World.setCell _ _ (.pointer (some ⟨w2.heap.size + 1, 0, none⟩))).drew = w3 at *
  have d5 : w3.cell? ⟨a.m, 1, none⟩ = some (.int .i64 n) := hL2.1.blk.cell 1
  have HL : Hid _ := hL2
  clear hL2
  go_wp2_with fail
  have hhn := HE.out
  subst hhn
  exact bodyPost_ret (v := .tuple #[.int .i64 (hiB M), .int .i64 0]) (by simp [results, Try.results13, go_sem]) rfl ⟨rfl, _, _, HL.out.1, HF2.out.trans HL.out.2⟩
def Mg.write (M : Mg) (i : Nat) (s : Sn) (x : Ky) : Mg := M.opn i { s with keys := x :: s.keys }
theorem ptr_write (a : At) (M : Mg) (i : Nat) (s : Sn) (x : Ky) (hs : M.op i = some s) : ptrV a (M.write i s x) = ptrV a M := by
  funext j
  unfold ptrV Mg.write Mg.opn
  by_cases h : j = i
  · subst h; simp [hs]
  · simp [h]
theorem MM.wrote {w w' : World} {B : Nat} {a : At} {M : Mg} (h : MM w B a M) {i : Nat} (hi : i < 4) {s : Sn} (hs : M.op i = some s) {x : Ky} (ho : w'.ownsMap Try.prog 9 heldR (a.k i) (s.keys.length + 1) (DT ((x, .agg #[]) :: kyE s.keys))) (hg : w.grownBy w' (some (a.k i))) : Lft B a (M.write i s x) w w' := by
  have k : Keep (fun q => q = a.k i) w w' := (keep_of_grown hg).mono (fun b _ q => (Option.some.inj q).symm)
  have hsi : (M.op i).isSome := by rw [hs]; rfl
  have hio : ∀ j, ((M.write i s x).op j).isSome → (M.op j).isSome := fun j q => by
    by_cases c : j = i
    · rw [c]; exact hsi
    · simpa [Mg.write, Mg.opn, c] using q
  refine ⟨⟨?_, own_keep h.wm k (fun e => h.off i hi hsi e.symm), fun j hj t e => ?_, fun j hj t e => ?_, fun j l hj hl hjl e1 e2 => h.apart j l hj hl hjl (hio j e1) (hio l e2), fun j hj e => h.off j hj (hio j e), h.base, fun j hj e => h.kbase j hj (hio j e)⟩, ⟨k.below ?_ ?_, fun g l t _ q => q.keep k (fun e => blk_ne_map (h.km i hi s hs) q e)⟩⟩
  · rw [ptr_write a M i s x hs]
    exact h.blk.keep k (fun e => h.ne_k hi hsi e.symm)
  · by_cases c : j = i
    · subst c
      simp only [Mg.write, Mg.opn, if_true, Option.some.injEq] at e
      subst e
      exact (h.sb j hj s hs).keep k (fun e => blk_ne_map (h.km j hi s hs) (h.sb j hj s hs) e)
    · simp only [Mg.write, Mg.opn, c, if_false] at e
      exact (h.sb j hj t e).keep k (fun q => blk_ne_map (h.km i hi s hs) (h.sb j hj t e) q)
  · by_cases c : j = i
    · subst c
      simp only [Mg.write, Mg.opn, if_true, Option.some.injEq] at e
      subst e
      exact ho
    · simp only [Mg.write, Mg.opn, c, if_false] at e
      exact own_keep (h.km j hj t e) k (fun q => h.apart j i hj hi c (by rw [e]; rfl) hsi q)
  · exact Nat.le_trans (h.kbase i hi hsi) (Nat.le_of_lt (h.km i hi s hs).lt)
  · exact fun j hj e => by have := h.kbase i hi hsi; omega
theorem write15_no {w : World} {B : Nat} {a : At} {M : Mg} (h : MM w B a M) (id : Int) (hn : errM M id ≠ 0) (x : ByteArray) : Calls Try.prog 15 #[.pointer (some ⟨a.m, 0, none⟩), .int .i64 id, .string x] w fun e w' => e = .returned (.int .i64 (errM M id)) ∧ Below w.heap.size w w' := by
  have k := opened38 h id
  generalize errM M id = n at *
  clear h
  simp only [hn, if_false] at k
  go_enter Try.func15, Try.ntmps15
  go_wp2_with (go_at_call 38; (with_reducible refine k.mono ?_); rintro e w1 ⟨rfl, hB⟩)
  go_ret
  exact ⟨rfl, hB⟩
theorem write15_yes {w : World} {B : Nat} {a : At} {M : Mg} (h : MM w B a M) (hB : B ≤ w.heap.size) {i : Nat} (hi : i < 4) {s : Sn} (hs : M.op i = some s) (hl : s.keys.length ≤ 100000) (x : ByteArray) (hx : x.size ≤ maxLen) : Calls Try.prog 15 #[.pointer (some ⟨a.m, 0, none⟩), .int .i64 (i : Int), .string x] w fun e w' => e = .returned (.int .i64 0) ∧ Lft B a (M.write i s (bs x)) w w' := by
  have k := opened38_yes h hi hs
  have HC : Hid (∀ W, Below w.heap.size w W → W.cell? ⟨a.s i, 1, none⟩ = some (.map (some (a.k i))) ∧ ∃ w', (Instr.mapUpdate 62 (.map (some (a.k i))) (.string x) (.agg #[])).run Try.prog W = .ok () w' ∧ Hid (Lft B a (M.write i s (bs x)) w w')) := fun W q => by
    refine ⟨((h.below q).sb i hi s hs).cell 1, ?_⟩
    obtain ⟨w', h1, h2, h3⟩ := ((h.below q).km i hi s hs).update keyed9 Try.underlying62 (by unfold maxLen; omega) (key := .string x) (kl := .string (bs x)) (WideMaps.keyOf_string_mk Try.underlying9 hx) (show heldR (.agg #[]) = some (.held (.agg #[]), []) from rfl)
    have := (h.below q).wrote hi hs (x := bs x) h2 h3
    exact ⟨w', h1, this.1, (Fr.of q hB).trans this.2⟩
  clear h hs
  go_enter Try.func15, Try.ntmps15
  go_wp2_with (go_at_call 38; (with_reducible refine k.mono ?_); rintro e w1 ⟨rfl, hB1⟩; obtain ⟨c2, w2, hrun, HL⟩ := HC.out _ hB1)
  go_ret
  exact ⟨rfl, HL.out⟩
end Go.Proofs.Ytjgdcdeekpeenaa
