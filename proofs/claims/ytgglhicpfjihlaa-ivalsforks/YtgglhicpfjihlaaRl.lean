/- The document's list of stretches; at. -/
import Derived.Test.YtgglhicpfjihlaaSm
import Derived.BigQuiet
namespace Go.Proofs.Ytgglhicpfjihlaa
open Go.RowKit Go.Shelf
set_option maxRecDepth 100000

theorem eqInt (d : Nat) (x y : Int) (w : World) : (Op.equalIn (d + 1) 3 (.int .i64 x) (.int .i64 y)).run Try.prog w = .ok (x == y) w := run_equalIn_int w d 3 .i64 .i64 x y Try.underlying3
theorem eq24g (f t f' t' : Int) (w : World) : (Op.equalIn 9999 24 (.agg #[.int .i64 f, .int .i64 t]) (.agg #[.int .i64 f', .int .i64 t'])).run Try.prog w = .ok (f == f' && t == t') w := by
  have h1 : Try.prog.underlying 24 = some (.struct (Try.prog.fieldsOf 24)) := by kernel_rfl
  have h2 : Try.prog.stoodInHeld 24 = false := by kernel_rfl
  rw [show (9999 : Nat) = 9998 + 1 from rfl, run_equalIn_struct _ _ _ _ _ h1 h2]
  have hf : (Try.prog.fieldsOf 24) = (match Try.prog.underlying 24 with | some (.struct fs) => fs | _ => #[]) := rfl
  rw [hf, Try.underlying24]
  clear hf h1 h2
  have hi := fun x y => eqInt 9997 x y
  by_cases a : f = f' <;> by_cases b : t = t' <;> simp [go_sem, hi, a, b]
theorem eql74 (a b : St) (w : World) : (binOp .eql 74 (SV a) (SV b)).run Try.prog w = .ok (.bool (decide (a = b))) w := by
  have h1 : Try.prog.underlying 74 = some (.struct (Try.prog.fieldsOf 74)) := by kernel_rfl
  have h2 : Try.prog.stoodInHeld 74 = false := by kernel_rfl
  rw [run_eql_struct, show (10000 : Nat) = 9999 + 1 from rfl, run_equalIn_struct _ _ _ _ _ h1 h2]
  have hf : (Try.prog.fieldsOf 74) = (match Try.prog.underlying 74 with | some (.struct fs) => fs | _ => #[]) := rfl
  rw [hf, Try.underlying74]
  clear hf h1 h2
  obtain ⟨af, at', ai⟩ := a
  obtain ⟨bf, bt, bi⟩ := b
  have h24 := eq24g af at' bf bt
  have hi := fun x y => eqInt 9998 x y
  by_cases c1 : af = bf <;> by_cases c2 : at' = bt <;> by_cases c3 : ai = bi <;> simp [go_sem, h24, hi, c1, c2, c3]

/-- A slice of items reads as L. -/
def LV (W : World) (v : Value) (L : List St) : Prop := ∃ a c, v = .slice a L.length c ∧ (0 < L.length → ∃ g o, a = some ⟨g, o, none⟩ ∧ g < W.heap.size ∧
  ∀ i s, L[i]? = some s → W.cell? ⟨g, o + i * 3, none⟩ = some (.int .i64 s.f) ∧ W.cell? ⟨g, o + i * 3 + 1, none⟩ = some (.int .i64 s.t) ∧ W.cell? ⟨g, o + i * 3 + 2, none⟩ = some (.int .i64 s.i))
theorem LV.below {W W' : World} {v : Value} {L : List St} (h : LV W v L) (k : Below W.heap.size W W') : LV W' v L := by
  obtain ⟨a, c, rfl, h⟩ := h
  refine ⟨a, c, rfl, fun h0 => ?_⟩
  obtain ⟨g, o, rfl, hg, hc⟩ := h h0
  exact ⟨g, o, rfl, by have := k.size; omega, fun i s hs => ⟨(k.cell (p := ⟨g, _, none⟩) hg).trans (hc i s hs).1, (k.cell (p := ⟨g, _, none⟩) hg).trans (hc i s hs).2.1, (k.cell (p := ⟨g, _, none⟩) hg).trans (hc i s hs).2.2⟩⟩
/-- Where one stands in the list; -1: nowhere. -/
def place : List St → St → Int → Int
  | [], _, _ => -1
  | y :: L, s, k => if y = s then k else place L s (k + 1)

set_option maxHeartbeats 1000000 in
theorem at45 {W : World} {r : Nat} {v : Value} {L : List St} (s : St) (hr : Blk W r [v] 61) (hv : LV W v L) (hl : L.length ≤ 1000) : Calls Try.prog 45 #[.pointer (some ⟨r, 0, none⟩), SV s] W fun e w' => e = .returned (.int .i64 (place L s 0)) ∧ Below W.heap.size W w' := by
  obtain ⟨N, hN⟩ : ∃ N, L.length = N := ⟨_, rfl⟩
  obtain ⟨a, c, rfl, hc⟩ := hv
  have HN : Hid _ := hN
  have hA := al W (.cells #[.int .i64 s.f, .int .i64 s.t, .int .i64 s.i] 74)
  have b0 := blk_new W [.int .i64 s.f, .int .i64 s.t, .int .i64 s.i] 74
  change Blk (W.alloc (.cells #[.int .i64 s.f, .int .i64 s.t, .int .i64 s.i] 74)) _ _ _ at b0
  have hr2 := hr.below hA
  have HV : Hid (LV (W.alloc (.cells #[.int .i64 s.f, .int .i64 s.t, .int .i64 s.i] 74)) (.slice a L.length c) L) := LV.below ⟨a, c, rfl, hc⟩ hA
  rw [hN] at hr2 hl
  clear hN hr hc
  go_enter Try.func45, Try.ntmps45
  go_wp2_with fail
  generalize W.alloc (.cells #[.int .i64 s.f, .int .i64 s.t, .int .i64 s.i] 74) = W2 at *
  have HC : Hid (∀ W', Below W2.heap.size W2 W' → W'.cell? ⟨W.heap.size, 0, none⟩ = some (.int .i64 s.f) ∧ W'.cell? ⟨W.heap.size, 1, none⟩ = some (.int .i64 s.t) ∧ W'.cell? ⟨W.heap.size, 2, none⟩ = some (.int .i64 s.i) ∧ W'.cell? ⟨r, 0, none⟩ = some (.slice a N c)) := fun W' k => ⟨(b0.below k).cell 0, (b0.below k).cell 1, (b0.below k).cell 2, (hr2.below k).cell 0⟩
  have HA : Hid _ := hA
  clear b0 hr2 hA
  go_loopw [5] (fun fi wr => ∃ (k : Nat), fi = .int .i64 (k : Int) ∧ Hid (Below W2.heap.size W2 wr) ∧ Hid (k ≤ N ∧ place (L.drop k) s (k : Int) = place L s 0)) (fun fi _ => ((N : Int) - intOf fi).toNat)
  case atStart => exact ⟨0, rfl, Below.refl _ _, by omega, by simp⟩
  case round =>
    obtain ⟨k, rfl, hB, hk⟩ := hrel
    obtain ⟨e0, e1, e2, x0⟩ := HC.out _ hB.out
    by_cases hkN : k < N
    · have hkl : k < L.length := by rw [HN.out]; exact hkN
      obtain ⟨y, hy⟩ : ∃ y, L[k]? = some y := ⟨_, List.getElem?_eq_getElem hkl⟩
      have hi : (k : Int) < (N : Int) := by omega
      have h0 : (0 : Int) ≤ (k : Int) := by omega
      obtain ⟨a', c', hv, hcc⟩ := LV.below HV.out hB.out
      simp only [Value.slice.injEq] at hv
      obtain ⟨rfl, -, rfl⟩ := hv
      obtain ⟨g, o, rfl, _, hcells⟩ := hcc (by omega)
      obtain ⟨d0, d1, d2⟩ := hcells k y hy
      have hd : L.drop k = y :: L.drop (k + 1) := by
        rw [List.drop_eq_getElem_cons hkl]
        obtain ⟨_, rfl⟩ := List.getElem?_eq_some_iff.1 hy
        rfl
      have heq := fun w => eql74 y s w
      have hw : wrap64 ((k : Int) + 1) = (k : Int) + 1 := IntWalk.wrap64_in _ (by omega)
      by_cases hys : y = s
      · have HP : Hid (place L s 0 = (k : Int)) := by show _ = _; rw [← hk.out.2, hd, place, if_pos hys]
        have hdd : decide (y = s) = true := by simpa using hys
        rw [hdd] at heq
        clear hcc hcells hd hy hk hkl hdd
        clear hys
        go_wp2_with fail
        go_big_quiet (fail)
        go_wp2_with fail
        go_ret
        refine ⟨?_, bmore HA.out (bmore hB.out ⟨rfl, rfl, rfl, Nat.le_refl _, fun _ _ => rfl⟩)⟩
        rw [show place L s 0 = _ from HP.out]
        rfl
      · have HP : Hid (place (L.drop (k + 1)) s ((k : Int) + 1) = place L s 0) := by show _ = _; rw [← hk.out.2, hd, place, if_neg hys]
        have hdd : decide (y = s) = false := by simpa using hys
        rw [hdd] at heq
        clear hcc hcells hd hy hk hkl hdd
        clear hys
        go_wp2_with fail
        go_big_quiet (fail)
        go_wp2_with fail
        go_roundw
        case rel => exact ⟨k + 1, by simp, bmore hB.out ⟨rfl, rfl, rfl, Nat.le_refl _, fun _ _ => rfl⟩, by omega, by rw [show ((k + 1 : Nat) : Int) = (k : Int) + 1 by simp]; exact HP.out⟩
        case measure => simp only [intOf]; omega
    · have hi : ¬ ((k : Int) < (N : Int)) := by omega
      have HP : Hid (place L s 0 = -1) := by
        show _ = _
        rw [← hk.out.2, List.drop_eq_nil_of_le (by rw [HN.out]; omega)]
        rfl
      clear hk
      go_wp2
      go_ret
      refine ⟨?_, bmore HA.out hB.out⟩
      rw [show place L s 0 = _ from HP.out]
      rfl
end Go.Proofs.Ytgglhicpfjihlaa
