/- inOrder: whether what lies in a tree rises. -/
import Derived.Test.YtgglhicpfjihlaaR7
import Derived.Test.YtgglhicpfjihlaaAv
namespace Go.Proofs.Ytgglhicpfjihlaa
open Go.RowKit Go.Shelf
set_option maxRecDepth 100000
attribute [local go_sem] Oper.semAt_some

def most : Int := 9223372036854775807
theorem all40 (p : Option Addr) (W : World) : Calls Try.prog 40 #[.pointer p] W fun e w' =>
    e = .returned (.func (.func 56) #[] #[.pointer (some ⟨W.heap.size, 0, none⟩), .pointer (some ⟨W.heap.size + 1, 0, none⟩), .pointer (some ⟨W.heap.size + 1 + 1, 0, none⟩)]) ∧ w' = ((W.alloc (.cells #[.pointer p] 56)).alloc (.cells #[.int .i64 (-9223372036854775808)] 3)).alloc (.cells #[.int .i64 9223372036854775807] 3) := by
  go_enter Try.func40, Try.ntmps40
  go_wp2_with (go_at_call 50; (with_reducible refine (meeting50 _ _ _ _).mono ?_); rintro e w1 ⟨rfl, rfl⟩)
  go_ret
  exact ⟨rfl, rfl⟩

theorem results_cell1 {fn : Func} {tt : Tmp} {tmps : Array Value} {w : World} {b : Nat} {v : Value} (h : fn.results = #[.cell tt 4]) (ht : tmps.getD tt undef = .pointer (some ⟨b, 0, none⟩)) (hb : Blk w b [v] 4) : (results fn tmps).run Try.prog w = .ok v w := by
  have ht' : tmps[tt]?.getD undef = .pointer (some ⟨b, 0, none⟩) := by simpa using ht
  have c := hb.cell 0
  simp only [List.getElem?_cons_zero] at c
  simp [results, h, ht', asAddr, loadVar, go_sem, c]
def lastS (q : List St) : St := q.getLast?.getD ⟨0, 0, 0⟩
/-- The three boxes: the answer's, how many were walked, the last one. -/
def Io (W : World) (O' : Nat → Prop) (q : List St) (W' : World) : Prop :=
  (∀ b, O' b ↔ b = W.heap.size ∨ b = W.heap.size + 1 ∨ b = W.heap.size + 1 + 1) ∧ Blk W' W.heap.size [.bool false] 4 ∧ Blk W' (W.heap.size + 1) [.int .i64 (q.length : Int)] 3 ∧ Blk W' (W.heap.size + 1 + 1) (csS (lastS q)) 68 ∧ Below W.heap.size W W'
theorem Io.lt {W W' : World} {O' : Nat → Prop} {q : List St} (h : Io W O' q W') : ∀ b, O' b → b < W'.heap.size := by
  obtain ⟨h1, h2, h3, h4, _⟩ := h
  intro b hb
  rcases (h1 b).1 hb with rfl | rfl | rfl
  · exact h2.lt
  · exact h3.lt
  · exact h4.lt
theorem Io.abide {W : World} {B : Nat} (hB : W.heap.size ≤ B) : Abide B (Io W) := by
  rintro O' q W1 W2 ⟨h1, h2, h3, h4, h5⟩ k
  exact ⟨h1, h2.keep k (fun h => h.1 ((h1 _).2 (.inl rfl))), h3.keep k (fun h => h.1 ((h1 _).2 (.inr (.inl rfl)))), h4.keep k (fun h => h.1 ((h1 _).2 (.inr (.inr rfl)))), h5.trans (k.below (by have := h5.size; omega) (fun i hi h => by omega))⟩

set_option maxHeartbeats 1000000 in
theorem inOrder36 {W : World} {x : Nat} {p : Option Addr} {t : T} (hx : Blk W x [.pointer p, .int .i64 (t.size : Int)] 58) (ht : TS W p t) (hso : Sorted (t.meets least most)) (hlen : (t.meets least most).length = t.size) (hs : t.size ≤ 1000) :
    Calls Try.prog 36 #[.pointer (some ⟨x, 0, none⟩)] W fun e w' => e = .returned (.bool true) ∧ Below W.heap.size W w' := by
  have k3 : Below W.heap.size W (((W.alloc (.cells #[.bool false] 4)).alloc (.cells #[.int .i64 0] 3)).alloc (.cells #[.int .i64 0, .int .i64 0, .int .i64 0] 68)) := bmore (bmore (al _ _) (al _ _)) (al _ _)
  have k6 : Below (((W.alloc (.cells #[.bool false] 4)).alloc (.cells #[.int .i64 0] 3)).alloc (.cells #[.int .i64 0, .int .i64 0, .int .i64 0] 68)).heap.size (((W.alloc (.cells #[.bool false] 4)).alloc (.cells #[.int .i64 0] 3)).alloc (.cells #[.int .i64 0, .int .i64 0, .int .i64 0] 68)) ((((((W.alloc (.cells #[.bool false] 4)).alloc (.cells #[.int .i64 0] 3)).alloc (.cells #[.int .i64 0, .int .i64 0, .int .i64 0] 68)).alloc (.cells #[.pointer p] 56)).alloc (.cells #[.int .i64 (-9223372036854775808)] 3)).alloc (.cells #[.int .i64 9223372036854775807] 3)) := bmore (bmore (al _ _) (al _ _)) (al _ _)
  have r0 : Blk (((W.alloc (.cells #[.bool false] 4)).alloc (.cells #[.int .i64 0] 3)).alloc (.cells #[.int .i64 0, .int .i64 0, .int .i64 0] 68)) W.heap.size [.bool false] 4 := ((blk_new W [.bool false] 4).below (al _ _)).below (al _ _)
  have r1 : Blk (((W.alloc (.cells #[.bool false] 4)).alloc (.cells #[.int .i64 0] 3)).alloc (.cells #[.int .i64 0, .int .i64 0, .int .i64 0] 68)) (W.heap.size + 1) [.int .i64 0] 3 := (blk_at (W.alloc (.cells #[.bool false] 4)) [.int .i64 0] 3 (by simp)).below (al _ _)
  have r2 : Blk (((W.alloc (.cells #[.bool false] 4)).alloc (.cells #[.int .i64 0] 3)).alloc (.cells #[.int .i64 0, .int .i64 0, .int .i64 0] 68)) (W.heap.size + 1 + 1) [.int .i64 0, .int .i64 0, .int .i64 0] 68 := blk_at ((W.alloc (.cells #[.bool false] 4)).alloc (.cells #[.int .i64 0] 3)) [.int .i64 0, .int .i64 0, .int .i64 0] 68 (by simp)
  have s3 : (((W.alloc (.cells #[.bool false] 4)).alloc (.cells #[.int .i64 0] 3)).alloc (.cells #[.int .i64 0, .int .i64 0, .int .i64 0] 68)).heap.size = W.heap.size + 1 + 1 + 1 := by simp
  have s6 : ((((((W.alloc (.cells #[.bool false] 4)).alloc (.cells #[.int .i64 0] 3)).alloc (.cells #[.int .i64 0, .int .i64 0, .int .i64 0] 68)).alloc (.cells #[.pointer p] 56)).alloc (.cells #[.int .i64 (-9223372036854775808)] 3)).alloc (.cells #[.int .i64 9223372036854775807] 3)).heap.size = W.heap.size + 6 := by simp
  have hbx := bx_new p (-9223372036854775808) 9223372036854775807 (((W.alloc (.cells #[.bool false] 4)).alloc (.cells #[.int .i64 0] 3)).alloc (.cells #[.int .i64 0, .int .i64 0, .int .i64 0] 68))
  rw [s3] at hbx
  have hx3 := (hx.below k3).cell 0
  simp only [List.getElem?_cons_zero] at hx3
  have HX : Hid (∀ W', Below W.heap.size W W' → W'.cell? ⟨x, 1, none⟩ = some (.int .i64 (t.size : Int))) := fun W' k => (hx.below k).cell 1
  have HXn : Hid (x < W.heap.size) := hx.lt
  have HT : Hid (PT W.heap.size ((((((W.alloc (.cells #[.bool false] 4)).alloc (.cells #[.int .i64 0] 3)).alloc (.cells #[.int .i64 0, .int .i64 0, .int .i64 0] 68)).alloc (.cells #[.pointer p] 56)).alloc (.cells #[.int .i64 (-9223372036854775808)] 3)).alloc (.cells #[.int .i64 9223372036854775807] 3)) p t) := PT.keep (O := fun _ => False) (Keep.of (bmore k3 k6)) (fun _ _ => id) ht.tr
  have I0 : Hid (Io W (fun b => b = W.heap.size ∨ b = W.heap.size + 1 ∨ b = W.heap.size + 1 + 1) [] ((((((W.alloc (.cells #[.bool false] 4)).alloc (.cells #[.int .i64 0] 3)).alloc (.cells #[.int .i64 0, .int .i64 0, .int .i64 0] 68)).alloc (.cells #[.pointer p] 56)).alloc (.cells #[.int .i64 (-9223372036854775808)] 3)).alloc (.cells #[.int .i64 9223372036854775807] 3))) := ⟨fun b => Iff.rfl, r0.below k6, r1.below k6, r2.below k6, bmore k3 k6⟩
  have HS : Hid _ := s6
  have HK : Hid _ := bmore k3 k6
  have HBX : Hid _ := hbx
  have HL : Hid _ := hlen
  have HSo : Hid _ := hso
  have Hs : Hid _ := hs
  clear k3 k6 r0 r1 r2 s6 hbx ht hx hlen hso hs
  refine (callsIn_wide (n := 0)).1 (callsIn_of_wp_marks Try.func36 rfl trivial (wpIn_wide.2 ?_) rfl)
  simp only [Try.ntmps36, List.size_toArray, List.length_cons, List.length_nil, Nat.reduceAdd, Nat.reduceSub, Array.replicate_succ, Array.replicate_zero, List.push_toArray, List.append_toArray, List.nil_append, List.cons_append]
  go_wp2_with (go_at_call 40; (with_reducible refine (all40 _ _).mono ?_); rintro e w1 ⟨rfl, rfl⟩)
  clear s3 hx3
  obtain ⟨B, hB⟩ : ∃ B, W.heap.size + 1 + 1 + 1 = B := ⟨_, rfl⟩
  have HB : Hid _ := hB
  rw [hB] at HBX ⊢
  clear hB
  generalize ((((((W.alloc (.cells #[.bool false] 4)).alloc (.cells #[.int .i64 0] 3)).alloc (.cells #[.int .i64 0, .int .i64 0, .int .i64 0] 68)).alloc (.cells #[.pointer p] 56)).alloc (.cells #[.int .i64 (-9223372036854775808)] 3)).alloc (.cells #[.int .i64 9223372036854775807] 3)) = W9 at *
  refine wpIn_wide.1 (wpIn_range (a := { tmps := #[.pointer (some ⟨x, 0, none⟩), undef, .pointer (some ⟨W.heap.size, 0, none⟩), .pointer (some ⟨W.heap.size + 1, 0, none⟩), .pointer (some ⟨W.heap.size + 1 + 1, 0, none⟩), undef, .pointer (some ⟨x, 0, none⟩), .pointer (some ⟨x, 0, none⟩), .pointer (some ⟨x, 0, none⟩), .pointer p, .func (.func 56) #[] #[.pointer (some ⟨B, 0, none⟩), .pointer (some ⟨B + 1, 0, none⟩), .pointer (some ⟨B + 1 + 1, 0, none⟩)], undef, undef, undef, undef, undef, undef, undef, undef, undef, undef, undef, undef, undef, undef, undef, undef, undef, undef], defers := [] }) (gf := 56) (lb := #[.pointer (some ⟨B, 0, none⟩), .pointer (some ⟨B + 1, 0, none⟩), .pointer (some ⟨B + 1 + 1, 0, none⟩)]) rfl eg56 rfl (enc := SV) (xs := t.meets least most) (G := Gm W.heap.size B)
    (fun W' k => all56 least most (Int.le_refl _) t W' p W.heap.size B (PT.keep (O := fun _ => False) (Keep.of k) (fun _ _ => id) HT.out) (by have := HB.out; omega) (Bx.keep (O := fun _ => False) HBX.out (Keep.of k) id id id)) (fun k h => by have := HB.out; have := HS.out; unfold Gm at h; omega)
    (Io W) (fun _ _ _ _ => False) (fun O' q W' h => h.lt) (Io.abide HK.out.size) (fun c => fun O' q W1 W2 h k => h)
    (fun b => b = W.heap.size ∨ b = W.heap.size + 1 ∨ b = W.heap.size + 1 + 1) (fun k h => by have := HB.out; have := HS.out; unfold Gm; omega) I0.out (fun y blk => { tmps := #[.pointer (some ⟨x, 0, none⟩), undef, .pointer (some ⟨W.heap.size, 0, none⟩), .pointer (some ⟨W.heap.size + 1, 0, none⟩), .pointer (some ⟨W.heap.size + 1 + 1, 0, none⟩), .pointer (some ⟨blk, 0, none⟩), .pointer (some ⟨x, 0, none⟩), .pointer (some ⟨x, 0, none⟩), .pointer (some ⟨x, 0, none⟩), .pointer p, .func (.func 56) #[] #[.pointer (some ⟨B, 0, none⟩), .pointer (some ⟨B + 1, 0, none⟩), .pointer (some ⟨B + 1 + 1, 0, none⟩)], SV y, undef, undef, undef, undef, undef, undef, undef, undef, undef, undef, undef, undef, undef, undef, undef, undef, undef], defers := [] }) csS 68 ?assign ?body ?done ?stop)
  case assign =>
    intro l' x' W' K hK
    gi_wp2
    exact hK
  case stop =>
    rintro D c O' pre W' _ _ _ h
    exact h.elim
  case body =>
    intro l' O' pre y W' blk hI hnb hle hsz hblk hpre
    obtain ⟨h1, h2, h3, h4, h5⟩ := hI
    have hbl : Blk W' blk (csS y) 68 := hblk
    have z0 := hbl.cell 0
    have z1 := hbl.cell 1
    have z2 := hbl.cell 2
    have w0 := h3.cell 0
    have wf := h3.frozen 0
    have l0 := h4.cell 0
    have l1 := h4.cell 1
    have l2 := h4.cell 2
    have lf0 := h4.frozen 0
    have lf1 := h4.frozen 1
    have lf2 := h4.frozen 2
    simp only [csS, List.getElem?_cons_zero, List.getElem?_cons_succ] at z0 z1 z2 w0 l0 l1 l2
    have hpl : pre.length ≤ 1000 := by have := hpre.length_le; have := HL.out; have := Hs.out; simp at *; omega
    have hw : wrap64 ((pre.length : Int) + 1) = (pre.length : Int) + 1 := IntWalk.wrap64_in _ (by omega)
    have H1 : Hid _ := h1
    have H2 : Hid _ := h2
    have H3 : Hid _ := h3
    have H4 : Hid _ := h4
    have H5 : Hid _ := h5
    have HP : Hid (pre ++ [y] <+: t.meets least most) := hpre
    have HZ : Hid (W.heap.size ≤ W'.heap.size) := h5.size
    have HBL : Hid _ := hbl
    have Hfin : Hid (∀ W1 W2, Keep (fun _ => False) W' W1 → Blk W2 (W.heap.size + 1) [.int .i64 ((pre.length : Int) + 1)] 3 → Blk W2 (W.heap.size + 1 + 1) [.int .i64 y.f, .int .i64 y.t, .int .i64 y.i] 68 → Keep (fun k => k = W.heap.size + 1 ∨ k = W.heap.size + 1 + 1) W1 W2 → ∃ O2, Io W O2 (pre ++ [y]) W2 ∧ Grew O' O2 W' ∧ Keep O' W' W2) := fun W1 W2 k1 q1 q2 k2 => by
      have kk : Keep (fun k => k = W.heap.size + 1 ∨ k = W.heap.size + 1 + 1) W' W2 := (k1.mono (fun _ _ h => h.elim)).trans k2 (fun _ _ h => h)
      refine ⟨O', ⟨h1, h2.keep kk (by omega), ?_, ?_, h5.trans (kk.below h5.size (fun i hi h => by omega))⟩, Grew.refl _ _, kk.mono (fun i _ h => (h1 i).2 (.inr h))⟩
      · rw [show (((pre ++ [y]).length : Nat) : Int) = (pre.length : Int) + 1 by simp]; exact q1
      · rw [show lastS (pre ++ [y]) = y by simp [lastS]]; exact q2
    have Hne : Hid (blk ≠ W.heap.size + 1 ∧ W.heap.size + 1 + 1 ≠ W.heap.size + 1) := ⟨fun e => hnb ((h1 _).2 (by omega)), by omega⟩
    by_cases hp : pre = []
    · subst hp
      simp only [List.length_nil] at w0 hw
      have h3' : Hid (Blk W' (W.heap.size + 1) [.int .i64 0] 3) := h3
      clear h1 h2 h3 h4 h5 hbl hblk hpre hpl hnb hle hsz
      gi_wp2
      refine ⟨trivial, ?_⟩
      gi_wp2
      refine reg7 Hne.out.1 Hne.out.2 (N := 0) hw h3'.out H4.out HBL.out (fun W2 q1 q2 k2 => ?_)
      exact Hfin.out W' W2 (Keep.refl _ _) q1 q2 k2
    · have hpos : (0 : Int) < (pre.length : Int) := by have := List.length_pos_iff.2 hp; omega
      have hcs : cs (lastS pre) y < 0 := by
        rw [cs_lt]
        have hs2 : Sorted (pre ++ [y]) := HSo.out.sublist hpre.sublist
        unfold Sorted at hs2
        rw [List.pairwise_append] at hs2
        refine hs2.2.2 _ ?_ y (by simp)
        unfold lastS
        rw [List.getLast?_eq_some_getLast hp]
        exact List.getLast_mem hp
      have hcs2 : ¬ (0 ≤ cs (lastS pre) y) := by omega
      have k49 := compare49 (lastS pre) y W'
      have Hk : Hid (∀ w1, Below W'.heap.size W' w1 → Blk w1 (W.heap.size + 1) [.int .i64 (pre.length : Int)] 3 ∧ Blk w1 (W.heap.size + 1 + 1) (csS (lastS pre)) 68 ∧ Blk w1 blk (csS y) 68) := fun w1 k => ⟨h3.below k, h4.below k, hbl.below k⟩
      clear h1 h2 h3 h4 h5 hbl hblk hpre hpl hnb hle hsz hcs
      generalize cs (lastS pre) y = z at *
      gi_wp2_with fail
      refine ⟨trivial, rfl, ?_⟩
      refine (CallsIn.inRound l' (callsIn_wide.2 k49)).mono ?_
      rintro e w1 ⟨rfl, B1⟩
      gi_wp2
      obtain ⟨t1, t2, t3⟩ := Hk.out _ B1
      refine reg7 Hne.out.1 Hne.out.2 (N := (pre.length : Int)) hw t1 t2 t3 (fun W2 q1 q2 k2 => ?_)
      exact Hfin.out w1 W2 (Keep.of B1) q1 q2 k2
  case done =>
    rintro D O' W' hD nD ⟨h1, h2, h3, h4, h5⟩ hgr hk hd
    have w0 := h3.cell 0
    have r0 := h2.cell 0
    have rf := h2.frozen 0
    have x1 := HX.out _ h5
    rw [HL.out] at w0
    simp only [List.getElem?_cons_zero] at w0 r0
    have hS0 : W'.drew.cell? ⟨W.heap.size + 1, 0, none⟩ = some (.int .i64 (t.size : Int)) ∧ W'.drew.cell? ⟨x, 1, none⟩ = some (.int .i64 (t.size : Int)) := ⟨w0, x1⟩
    have r0' : W'.drew.cell? ⟨W.heap.size, 0, none⟩ = some (.bool false) := r0
    have rf' : W'.drew.frozen? ⟨W.heap.size, 0, none⟩ = false := rf
    have hb2 : Blk W'.drew W.heap.size [.bool false] 4 := h2
    have hb3 := hb2.set (o := 0) (.bool true)
    have ks : Keep (fun k => k = W.heap.size) W' (W'.setCell ⟨W.heap.size, 0, none⟩ (.bool true)).drew := ((Keep.refl (fun k => k = W.heap.size) W').set (p := ⟨W.heap.size, 0, none⟩) (.inr rfl) _).drew
    have hS1 : (W'.setCell ⟨W.heap.size, 0, none⟩ (.bool true)).drew.cell? ⟨W.heap.size + 1, 0, none⟩ = some (.int .i64 (t.size : Int)) ∧ (W'.setCell ⟨W.heap.size, 0, none⟩ (.bool true)).drew.cell? ⟨x, 1, none⟩ = some (.int .i64 (t.size : Int)) := ⟨(ks.cell h3.lt (by omega)).trans w0, (ks.cell (by have := HXn.out; have := h5.size; omega) (by have := HXn.out; omega)).trans x1⟩
    have Hb3 : Hid (Blk (W'.setCell ⟨W.heap.size, 0, none⟩ (.bool true)).drew W.heap.size [.bool true] 4) := hb3
    have Hks : Hid _ := ks
    have H5 : Hid _ := h5
    have Hd : Hid _ := hd
    have HnD : Hid (D ≠ W.heap.size ∧ W.heap.size ≤ D) := ⟨fun e => nD ((h1 D).2 (.inl e)), by have := HK.out.size; omega⟩
    clear h1 h2 h3 h4 h5 hgr hk hd w0 r0 rf x1 hb2 hb3 ks hD nD
    generalize (t.size : Int) = z at *
    go_wp2_with fail
    go_region_held3 (fun W1 => W1.cell? ⟨W.heap.size + 1, 0, none⟩ = some (.int .i64 z) ∧ W1.cell? ⟨x, 1, none⟩ = some (.int .i64 z)) (first | exact hS0 | exact hS1) (fail)
    go_wp2_with fail
    have hdd := (Hks.out.block D (Array.getElem?_eq_some_iff.1 Hd.out).1 HnD.out.1).trans Hd.out
    refine leave_marks [D] _ (fun w' k => ⟨results_cell1 rfl rfl (Blk.keep Hb3.out k (by simpa using Ne.symm HnD.out.1)), rfl, (H5.out.trans (Hks.out.below H5.out.size (fun i hi h => by omega))).trans (k.below (by have := H5.out.size; have := Hks.out.size; omega) (fun i hi h => by have := HnD.out; simp at h; omega))⟩) (fun D' h => by simp at h; subst h; exact hdd) (by simp)
end Go.Proofs.Ytgglhicpfjihlaa
