/- Points. -/
import Derived.Test.YtpagnphabchfcaaSi
import Derived.Test.YtpagnphabchfcaaSn
import Derived.Sort.OwnSortedInts
import Derived.Lib.RowBridge
namespace Go.Proofs.Ytpagnphabchfcaa
open Go.Shelf Go.RowKit Go.Lib Go.Sort
set_option maxRecDepth 100000
/-- Ints in a block of one's own. -/
def OwnI (w : World) (B : Nat) (v : Value) (zs : List Int) : Prop := w.ownsRow B 3 1 v zs.length (zs.map (Value.int .i64))
theorem OwnI.nil (w : World) (B : Nat) : OwnI w B (.slice none 0 0) [] := World.ownsRow_nil _ _ _ _
theorem info3 : (Try.prog.info? 3).map (fun i => (i.zero, i.size, i.bytes)) = some (some (.int .i64 0), 1, 8) := by kernel_rfl
def sortI (zs : List Int) : List Int := zs.mergeSort fun x y => decide (x ≤ y)
theorem sort24 {v : Value} {zs : List Int} {w : World} {B : Nat} (hown : OwnI w B v zs) (hB : B ≤ w.heap.size) (hl : zs.length ≤ 100000) :
    Calls Try.prog 24 #[v] w fun e w' => e = .returned (.tuple #[]) ∧ OwnI w' B v (sortI zs) ∧ Below B w w' := by
  have hown0 := hown
  obtain ⟨h1, h2⟩ := hown
  rcases h2 with ⟨rfl, hn⟩ | ⟨g, cap, cur, rfl, hb, hg, hnc, hcm, hcs, htake⟩
  · have hx : zs = [] := List.eq_nil_of_length_eq_zero hn
    subst hx
    have hcon := Any.slices_Sort_int_none Try.lays189 none 0 w
    change Calls Try.prog 24 _ _ _ at hcon
    refine hcon.mono ?_
    rintro e w' ⟨rfl, rfl⟩
    exact ⟨rfl, by simpa [sortI] using hown0, Below.refl _ _⟩
  · have hcon := Any.slices_Sort_int Try.lays189 g 0 cap zs w (holds_of_blockI hg (by simpa using htake)) (Array.getElem?_eq_some_iff.1 hg).1 (by omega)
    change Calls Try.prog 24 _ _ _ at hcon
    refine hcon.mono ?_
    rintro e w' ⟨rfl, n, os, rfl⟩
    have hp : (zs.mergeSort fun x y => decide (x ≤ y)).Perm zs := List.mergeSort_perm _ _
    refine ⟨rfl, ?_, ?_⟩
    · have := ownsRow_sortedI (n := n) (os := os) (ts := zs.mergeSort fun x y => decide (x ≤ y)) hp.length_eq hb hg hnc hcm hcs
      unfold OwnI sortI
      rw [hp.length_eq]
      exact this
    · exact (Below.refl _ _).grown (grownBy_sortedI _) hB (fun k hk => by simp at hk; omega)
/-- The first ones of a row. -/
theorem rowCut {w : World} {B g cap n : Nat} {C R : List Int} (h : w.ownsRow B 3 1 (.slice (some ⟨g, 0, none⟩) n cap) n ((C ++ R).map (Value.int .i64))) (hle : C.length ≤ n) : w.ownsRow B 3 1 (.slice (some ⟨g, 0, none⟩) C.length cap) C.length (C.map (Value.int .i64)) := by
  obtain ⟨h1, ⟨h, _⟩ | ⟨g', cap', cur, hv, q1, q2, q3, q4, q5, q6⟩⟩ := h
  · cases h
  · simp only [Value.slice.injEq, Option.some.injEq, Addr.mk.injEq] at hv
    obtain ⟨⟨rfl, _⟩, _, rfl⟩ := hv
    refine ⟨by simp, .inr ⟨g, cap, cur, rfl, q1, q2, by omega, q4, q5, ?_⟩⟩
    have := congrArg (List.take C.length) q6
    rw [List.take_take, Nat.mul_one, Nat.min_eq_left hle, List.map_append, List.take_left' (by simp)] at this
    rw [Nat.mul_one]
    exact this
theorem compact25 {v : Value} {zs : List Int} {w : World} {B : Nat} (hown : OwnI w B v zs) (hB : B ≤ w.heap.size) (hl : zs.length ≤ 100000) :
    Calls Try.prog 25 #[v] w fun e w' => ∃ v', e = .returned v' ∧ OwnI w' B v' (Lib.compact zs) ∧ Below B w w' := by
  have hown0 := hown
  obtain ⟨h1, h2⟩ := hown
  rcases h2 with ⟨rfl, hn⟩ | ⟨g, cap, cur, rfl, hb, hg, hnc, hcm, hcs, htake⟩
  · have hx : zs = [] := List.eq_nil_of_length_eq_zero hn
    subst hx
    have hcon := Any.slices_Compact_int_empty Try.laysNm220 none 0 w
    change Calls Try.prog 25 _ _ _ at hcon
    refine hcon.mono ?_
    rintro e w' ⟨rfl, rfl⟩
    exact ⟨_, rfl, hown0, Below.refl _ _⟩
  · have hcon := Any.slices_Compact_int Try.laysNm220 g 0 cap zs w (holds_of_blockI hg (by simpa using htake)) (by omega) hnc
    change Calls Try.prog 25 _ _ _ at hcon
    refine hcon.mono ?_
    rintro e w' ⟨rfl, q, rfl⟩
    have hle := Lib.compact_length_le zs
    obtain ⟨C, hC⟩ : ∃ C, Lib.compact zs = C := ⟨_, rfl⟩
    rw [hC] at hle ⊢
    have hw : ∀ W : World, grow W #[] = W := fun W => by simp [grow]
    have big := ownsRow_sortedI (n := q) (os := #[]) (ss := zs) (ts := C ++ List.replicate (zs.length - C.length) 0) (by simp; omega) hb hg hnc hcm hcs
    have gb := grownBy_sortedI (w := w) (g := g) (n := q) (os := #[]) (C ++ List.replicate (zs.length - C.length) 0).toArray
    rw [hw] at big gb
    refine ⟨_, rfl, ?_, (Below.refl _ _).grown gb hB (fun k hk => by simp at hk; omega)⟩
    exact rowCut big hle
def ptsL (l : List Rw) : List Int := l.flatMap fun r => if Sp.rightB r.2.1 r.2.2 = true then [r.2.1, r.2.2] else []
def pointsR (l : List Rw) : List Int := Lib.compact (sortI (ptsL l))
theorem OwnI.app2 {w : World} {B : Nat} {v : Value} {zs : List Int} (h : OwnI w B v zs) (hn : zs.length ≤ 100000) (hB : B ≤ w.heap.size) {gb : Nat} {f t : Int} (hb : Blk w gb [.int .i64 f, .int .i64 t] 3) :
    ∃ v' w', (Builtin.append_ #[28, 28] 28 #[v, .slice (some ⟨gb, 0, none⟩) 2 2]).run Try.prog w = .ok v' w' ∧ OwnI w' B v' (zs ++ [f, t]) ∧ Below B w w' := by
  obtain ⟨i0, hi, hz0, hz1, hz2⟩ := info_parts' info3
  obtain ⟨v', w', hrun, r1, r2, r3, r4⟩ := run_append_own_at (P := Try.prog) w B 28 28 3 i0 (.int .i64 0) 1 8 Try.underlying28 hi hz0 hz1 hz2 rfl (by decide) v zs.length (zs.map (Value.int .i64)) h ⟨gb, 0, none⟩ 2 2 [.int .i64 f, .int .i64 t] rfl (fun j x hx => by rw [Addr.add_mid, Nat.zero_add]; exact (hb.cell j).trans hx) (by intro u hu; simp at hu; rcases hu with rfl | rfl <;> rfl) (by unfold maxLen; omega) (by omega) hB
  refine ⟨v', w', hrun, ?_, ⟨r2.os, r2.tape, r2.output, r2.size, fun k hk => r2.block k (by omega) (fun e => by have := (World.ownsRow.lt h k e.symm).1; omega)⟩⟩
  unfold OwnI
  rw [List.length_append, List.map_append]
  exact r1
theorem OwnI.below {w w' : World} {B : Nat} {v : Value} {zs : List Int} (h : OwnI w B v zs) (k : Below w.heap.size w w') : OwnI w' B v zs := owns_keep h (fun j hj => k.block j (World.ownsRow.lt h j hj).2)
def IPost (w : World) (l : List Int) (e : Ending) (w' : World) : Prop := ∃ v1, e = .returned v1 ∧ OwnI w' w.heap.size v1 l ∧ Below w.heap.size w w'
set_option maxHeartbeats 1000000 in
theorem points11 {w : World} {X : Nat → Prop} {v : Value} {es : List El} (h : RL w X v es) (hl : es.length ≤ 1000) :
    Calls Try.prog 11 #[v] w (IPost w (pointsR (rws es))) := by
  obtain ⟨a, c, rfl⟩ := h.form
  obtain ⟨N, hN⟩ : ∃ N, es.length = N := ⟨_, rfl⟩
  have HN : Hid (es.length = N) := hN
  have HR : Hid (RL w X (.slice a es.length c) es) := h
  rw [hN] at hl ⊢
  clear h hN
  go_enter Try.func11, Try.ntmps11
  go_wp2_with fail
  go_loopw [3, 8] (fun fo fi wr => ∃ (k : Nat) (zs : List Int), fi = .int .i64 (k : Int) ∧ Hid (k ≤ N ∧ zs.length ≤ k * 2) ∧ Hid (OwnI wr w.heap.size fo zs) ∧ Hid (zs = ptsL ((rws es).take k)) ∧ Hid (Below w.heap.size w wr)) (fun _ fi _ => ((N : Int) - intOf fi).toNat)
  case atStart => exact ⟨0, [], rfl, ⟨Nat.zero_le _, by simp⟩, OwnI.nil _ _, rfl, Below.refl _ _⟩
  case round =>
    obtain ⟨k, zs, rfl, hk, hO, hE, hB⟩ := hrel
    obtain ⟨hk1, hk2⟩ := hk.out
    by_cases hkN : k < N
    · have hki : (k : Int) < (N : Int) := by omega
      have hk0 : (0 : Int) ≤ (k : Int) := by omega
      obtain ⟨e, he⟩ : ∃ e, es[k]? = some e := ⟨_, List.getElem?_eq_getElem (by rw [HN.out]; exact hkN)⟩
      obtain ⟨g, o, rfl, _, _, d0, d1, d2⟩ := (RL.below HR.out hB.out).get he
      have HSV : Hid (SV w X e.1 e.2.1) := HR.out.vals e (List.mem_of_getElem? he)
      have HTk : Hid (ptsL ((rws es).take (k + 1)) = zs ++ if Sp.rightB e.2.2.1 e.2.2.2 = true then [e.2.2.1, e.2.2.2] else []) := by
        show _ = _
        rw [hE.out, List.take_add_one, rws, List.getElem?_map, he]
        simp [ptsL]
      obtain ⟨sv, vs, f, t⟩ := e
      simp only at d0 d1 d2 HSV HTk
      obtain ⟨pa, ca, rfl⟩ := SV.form HSV.out
      have hA := al3 wr (.slice pa vs.length ca) f t
      have b5 := blk_new wr [.slice pa vs.length ca, .int .i64 f, .int .i64 t] 34
      change Blk (wr.alloc (.cells #[.slice pa vs.length ca, .int .i64 f, .int .i64 t] 34)) _ _ _ at b5
      have b6 := b5.below (al _ (.cells #[.int .i64 f, .int .i64 t] 32))
      have HA6 : Hid (Below wr.heap.size wr ((wr.alloc (.cells #[.slice pa vs.length ca, .int .i64 f, .int .i64 t] 34)).alloc (.cells #[.int .i64 f, .int .i64 t] 32))) := bal hA _
      have k23 := Sp.right12 f t (wr.alloc (.cells #[.slice pa vs.length ca, .int .i64 f, .int .i64 t] 34))
      have z1 := b6.cell 1
      have z2 := b6.cell 2
      clear he b5 b6 hA
      have HApp : Hid (∀ (w6 : World) (H : Nat), w6.heap.size = H → Hid (Below wr.heap.size wr w6) → ∃ v7 w7, (Builtin.append_ #[28, 28] 28 #[u3, .slice (some ⟨H, 0, none⟩) 2 2]).run Try.prog (w6.alloc (.cells #[.int .i64 f, .int .i64 t] 3)) = .ok v7 w7 ∧ Hid (OwnI w7 w.heap.size v7 (zs ++ [f, t])) ∧ Hid (Below w.heap.size w w7)) := fun w6 H hH hB6 => by
        subst hH
        have hal := al w6 (.cells #[.int .i64 f, .int .i64 t] 3)
        have hbase := (bmore (bmore hB.out hB6.out) hal).size
        obtain ⟨v7, w7, hr7, A7, B7⟩ := OwnI.app2 (hO.out.below (bmore hB6.out hal)) (by omega) hbase (blk_new w6 [.int .i64 f, .int .i64 t] 3)
        exact ⟨v7, w7, hr7, A7, (bmore (bmore hB.out hB6.out) hal).trans B7⟩
      generalize Sp.rightB f t = T at *
      cases T
      · go_wp2_with (go_at_call 23; (with_reducible refine k23.mono ?_); rintro e w1 ⟨rfl, rfl⟩)
        go_roundw
        case rel => exact ⟨k + 1, zs, by simp, ⟨by omega, by omega⟩, hO.out.below HA6.out, by show _ = _; rw [HTk.out]; simp, bmore hB.out HA6.out⟩
        case measure => simp only [intOf]; omega
      · go_wp2_with (first
          | (go_at_call 23; (with_reducible refine k23.mono ?_); rintro e w1 ⟨rfl, rfl⟩)
          | (at_builtin; refine wpList_append_ex (by rfl) (.tmp 15) (.tmp 22) 28 (by rfl) _ _ (by rfl) (by rfl) (HApp.out _ (wr.heap.size + 1 + 1) (by simp) HA6) ?_; rintro v7 w7 ⟨hO7, hB7⟩))
        go_roundw
        case rel => exact ⟨k + 1, zs ++ [f, t], by simp, ⟨by omega, by simp; omega⟩, hO7.out, by show _ = _; rw [HTk.out]; simp, hB7.out⟩
        case measure => simp only [intOf]; omega
    · have hki : ¬ (k : Int) < (N : Int) := by omega
      have HF : Hid (zs = ptsL (rws es)) := by show _ = _; rw [hE.out, List.take_of_length_le (by rw [rws, List.length_map, HN.out]; omega)]
      have k24 := sort24 hO.out hB.out.size (by omega)
      have HSl : Hid ((sortI zs).length ≤ 100000) := by show _ ≤ _; unfold sortI; rw [List.length_mergeSort]; omega
      go_wp2_with (first
        | (go_at_call 24; (with_reducible refine k24.mono ?_); rintro e w1 ⟨rfl, hO1, hB1⟩; have k25 := compact25 hO1 (Nat.le_trans hB.out.size hB1.size) HSl.out)
        | (go_at_call 25; (with_reducible refine k25.mono ?_); rintro e w2 ⟨v2, rfl, hO2, hB2⟩))
      go_ret
      exact ⟨_, rfl, by rw [pointsR, ← HF.out]; exact hO2, (hB.out.trans hB1).trans hB2⟩
end Go.Proofs.Ytpagnphabchfcaa
