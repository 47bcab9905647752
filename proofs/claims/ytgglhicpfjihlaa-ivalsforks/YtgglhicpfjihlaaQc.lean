/- The document's Nearest, Fork; spans that are the same. -/
import Derived.Test.YtgglhicpfjihlaaQb
namespace Go.Proofs.Ytgglhicpfjihlaa
open Go.RowKit Go.Shelf
set_option maxRecDepth 100000
/-- The first one from a point on. -/
def near (p : Int) (L : List St) : Option St := L.find? fun s => decide (p ≤ s.f)
def nearV : Option St → Value
  | none => .tuple #[.agg #[.int .i64 0, .int .i64 0], .bool false]
  | some s => .tuple #[.agg #[.int .i64 s.f, .int .i64 s.t], .bool true]
theorem results_span {fn : Func} {tt tb : Tmp} {tmps : Array Value} {w : World} {b : Nat} {f t : Int} {z : Bool} (h : fn.results = #[.cell tt 24, .tmp tb]) (ht : tmps.getD tt undef = .pointer (some ⟨b, 0, none⟩)) (hz : tmps.getD tb undef = .bool z) (hb : Blk w b [.int .i64 f, .int .i64 t] 24) : (results fn tmps).run Try.prog w = .ok (.tuple #[.agg #[.int .i64 f, .int .i64 t], .bool z]) w := by
  have c0 := hb.cell 0
  have c1 := hb.cell 1
  simp only [List.getElem?_cons_zero, List.getElem?_cons_succ] at c0 c1
  simp only [Array.getD_eq_getD_getElem?] at ht hz
  simp [results, h, ht, hz, c0, c1, go_sem]
theorem set_two {w : World} {b : Nat} {u v x y : Value} {t : TypeId} (h : Blk w b [u, v] t) : Blk ((w.setCell ⟨b, 0, none⟩ x).setCell ⟨b, 1, none⟩ y) b [x, y] t := (Blk.set (o := 0) h x).set (o := 1) y
theorem below_two {W w : World} {b : Nat} (h : Below W.heap.size W w) (hb : W.heap.size ≤ b) (x y : Value) : Below W.heap.size W ((w.setCell ⟨b, 0, none⟩ x).setCell ⟨b, 1, none⟩ y) := (h.setCell (p := ⟨b, 0, none⟩) hb x).setCell (p := ⟨b, 1, none⟩) hb y
set_option maxHeartbeats 1000000 in
theorem rnearest28 {W : World} {r c : Nat} {a : Option Addr} {L : List St} (h : RI W r a c L) (hl : L.length ≤ 1000) (p : Int) : Calls Try.prog 28 #[.pointer (some ⟨r, 0, none⟩), .int .i64 p] W fun e w' => e = .returned (nearV (near p L)) ∧ Below W.heap.size W w' := by
  obtain ⟨N, hN⟩ : ∃ N, L.length = N := ⟨_, rfl⟩
  have HN : Hid _ := hN
  have hA := al W (.cells #[.int .i64 0, .int .i64 0] 24)
  have b0 := blk_new W [.int .i64 0, .int .i64 0] 24
  change Blk (W.alloc (.cells #[.int .i64 0, .int .i64 0] 24)) _ _ _ at b0
  have HR : Hid (RI (W.alloc (.cells #[.int .i64 0, .int .i64 0] 24)) r a c L) := h.below hA
  rw [hN] at hl
  have HA : Hid _ := hA
  have Hb0 : Hid _ := b0
  clear h hN hA b0
  go_enter Try.func28, Try.ntmps28
  go_wp2_with fail
  generalize W.alloc (.cells #[.int .i64 0, .int .i64 0] 24) = W1 at *
  have e0 := Blk.cell Hb0.out 0
  have e1 := Blk.cell Hb0.out 1
  have f0 := Blk.frozen Hb0.out 0
  have f1 := Blk.frozen Hb0.out 1
  have r0 := (RI.blk HR.out).cell 0
  simp only [List.getElem?_cons_zero, List.getElem?_cons_succ] at e0 e1 r0
  rw [HN.out] at r0
  go_loopw [6] (fun fi wr => ∃ (k : Nat), fi = .int .i64 (k : Int) ∧ Hid (k ≤ N ∧ near p L = near p (L.drop k)) ∧ Hid (W1 = wr)) (fun fi _ => ((N : Int) - intOf fi).toNat)
  case atStart => exact ⟨0, rfl, ⟨Nat.zero_le _, rfl⟩, rfl⟩
  case round =>
    obtain ⟨k, rfl, hk, hw⟩ := hrel
    obtain rfl := hw.out
    by_cases hkN : k < N
    · have hki : (k : Int) < (N : Int) := by omega
      have hk0 : (0 : Int) ≤ (k : Int) := by omega
      have hkl : k < L.length := by rw [HN.out]; exact hkN
      obtain ⟨y, hy⟩ : ∃ y, L[k]? = some y := ⟨_, List.getElem?_eq_getElem hkl⟩
      have hd : L.drop k = y :: L.drop (k + 1) := by
        rw [List.drop_eq_getElem_cons hkl]
        obtain ⟨_, rfl⟩ := List.getElem?_eq_some_iff.1 hy
        rfl
      obtain ⟨g, o, rfl, d0, d1, d2⟩ := RI.at HR.out hy
      by_cases hp : p ≤ y.f
      · have HE : Hid (near p L = some y) := by show _ = _; rw [hk.out.2, hd]; simp [near, hp]
        have hp' : ¬ y.f < p := by omega
        clear hd hy hk
        go_wp2
        refine bodyPost_ret (results_span (b := W.heap.size) rfl rfl rfl (set_two Hb0.out)) rfl ?_
        exact ⟨by rw [HE.out]; rfl, below_two HA.out (Nat.le_refl _) _ _⟩
      · have HE : Hid (near p L = near p (L.drop (k + 1))) := by show _ = _; rw [hk.out.2, hd]; simp [near, hp]
        clear hd hy hk
        go_wp2
        go_roundw
        case rel => exact ⟨k + 1, by simp, ⟨by omega, HE.out⟩, trivial⟩
        case measure => simp only [intOf]; omega
    · have hki : ¬ (k : Int) < (N : Int) := by omega
      have HE : Hid (near p L = none) := by show _ = _; rw [hk.out.2, List.drop_eq_nil_of_le (by rw [HN.out]; omega)]; rfl
      go_wp2
      refine bodyPost_ret (results_span (b := W.heap.size) rfl rfl rfl (set_two Hb0.out)) rfl ?_
      exact ⟨by rw [HE.out]; rfl, below_two HA.out (Nat.le_refl _) _ _⟩
theorem eq24h (f t f' t' : Int) (w : World) : (Op.equalIn 10000 24 (.agg #[.int .i64 f, .int .i64 t]) (.agg #[.int .i64 f', .int .i64 t'])).run Try.prog w = .ok (f == f' && t == t') w := by
  have h1 : Try.prog.underlying 24 = some (.struct (Try.prog.fieldsOf 24)) := by kernel_rfl
  have h2 : Try.prog.stoodInHeld 24 = false := by kernel_rfl
  rw [show (10000 : Nat) = 9999 + 1 from rfl, run_equalIn_struct _ _ _ _ _ h1 h2]
  have hf : (Try.prog.fieldsOf 24) = (match Try.prog.underlying 24 with | some (.struct fs) => fs | _ => #[]) := rfl
  rw [hf, Try.underlying24]
  clear hf h1 h2
  have hi := fun x y => eqInt 9998 x y
  by_cases a : f = f' <;> by_cases b : t = t' <;> simp [go_sem, hi, a, b]
theorem neq24 (f t : Int) (w : World) : (binOp .neq 24 (.agg #[.int .i64 f, .int .i64 t]) (.agg #[.int .i64 f, .int .i64 t])).run Try.prog w = .ok (.bool false) w := by
  rw [run_neq_struct, eq24h]
  simp
set_option maxHeartbeats 1000000 in
theorem same44 {W : World} {v v' : Value} {L : List St} (h : SP W v L) (h' : SP W v' L) (hl : L.length ≤ 1000) : Calls Try.prog 44 #[v, v'] W fun e w' => e = .returned (.bool true) ∧ Below W.heap.size W w' := by
  obtain ⟨N, hN⟩ : ∃ N, L.length = N := ⟨_, rfl⟩
  have HV0 := h
  have HV0' := h'
  obtain ⟨a, c, rfl, _⟩ := h
  obtain ⟨a', c', rfl, _⟩ := h'
  have HV : Hid _ := HV0
  have HV' : Hid _ := HV0'
  have HN : Hid _ := hN
  rw [hN] at hl ⊢
  clear hN HV0 HV0'
  go_enter Try.func44, Try.ntmps44
  go_wp2_with fail
  go_loopw [5] (fun fi wr => ∃ (k : Nat), fi = .int .i64 (k : Int) ∧ Hid (k ≤ N) ∧ Hid (Below W.heap.size W wr)) (fun fi _ => ((N : Int) - intOf fi).toNat)
  case atStart => exact ⟨0, rfl, Nat.zero_le _, Below.refl _ _⟩
  case round =>
    obtain ⟨k, rfl, hk, hB⟩ := hrel
    by_cases hkN : k < N
    · have hki : (k : Int) < (N : Int) := by omega
      have hk0 : (0 : Int) ≤ (k : Int) := by omega
      obtain ⟨y, hy⟩ : ∃ y, L[k]? = some y := ⟨_, List.getElem?_eq_getElem (by rw [HN.out]; exact hkN)⟩
      obtain ⟨g, o, rfl, _, d0, d1⟩ := (SP.below HV.out hB.out).at hy
      obtain ⟨g', o', rfl, _, x0, x1⟩ := (SP.below HV'.out hB.out).at hy
      have hne := fun w => neq24 y.f y.t w
      clear hy
      go_wp2_with fail
      go_big_quiet (fail)
      go_wp2_with fail
      go_roundw
      case rel => exact ⟨k + 1, by simp, by show _ ≤ _; omega, bmore hB.out ⟨rfl, rfl, rfl, Nat.le_refl _, fun _ _ => rfl⟩⟩
      case measure => simp only [intOf]; omega
    · have hki : ¬ (k : Int) < (N : Int) := by omega
      go_wp2
      go_ret
      exact ⟨rfl, hB.out⟩
theorem spans29 {W : World} {v v' : Value} {L : List St} (h : SP W v L) (h' : SP W v' L) (hl : L.length ≤ 1000) : Calls Try.prog 29 #[v, v'] W fun e w' => e = .returned (.bool true) ∧ Below W.heap.size W w' := by
  have k44 := same44 h h' hl
  clear h h'
  go_enter Try.func29, Try.ntmps29
  go_wp2_with (go_at_call 44; (with_reducible refine k44.mono ?_); rintro e w1 ⟨rfl, B1⟩)
  go_ret
  exact ⟨rfl, B1⟩
set_option maxHeartbeats 1000000 in
theorem rfork22 {W : World} {r c : Nat} {a : Option Addr} {L : List St} (h : RI W r a c L) (hl : L.length ≤ 1000) : Calls Try.prog 22 #[.pointer (some ⟨r, 0, none⟩)] W fun e w' => ∃ r' a' c', e = .returned (.pointer (some ⟨r', 0, none⟩)) ∧ W.heap.size ≤ r' ∧ Hid (RI w' r' a' c' L) ∧ Below W.heap.size W w' := by
  have hA := al W (.cells #[] 74)
  have h2 := h.below hA
  have hU0 : RU W.heap.size (W.alloc (.cells #[] 74)) (.slice (some ⟨W.heap.size, 0, none⟩) 0 0) [] := .inl ⟨rfl, _, rfl, Nat.le_refl _, by simp⟩
  obtain ⟨u, w', h3, h4, h5⟩ := run_appI hU0 h2.lv (by simp; omega) hA.size
  obtain ⟨a', c', rfl, hc'⟩ := RU.form h4
  have hB := hA.grown h5 hA.size (fun k hk => (hU0.at hk).1)
  have c0 := h2.blk.cell 0
  simp only [List.getElem?_cons_zero] at c0
  rw [List.nil_append] at h4 hc' h3
  have HF : Hid (RI (w'.alloc (.cells #[.slice a' L.length c'] 61)) w'.heap.size a' c' L) := ⟨blk_new w' [.slice a' L.length c'] 61, (h4.read).below (al _ _), hc'⟩
  have HR : Hid _ := h3
  have HB : Hid _ := hB
  clear h h2 hU0 h3 h4 h5 hB hA hc'
  go_enter Try.func22, Try.ntmps22
  go_wp2_with (at_builtin; refine wpList_append_ex rfl (.tmp 5) (.tmp 9) 59 rfl _ _ rfl rfl (R := fun u w => u = .slice a' L.length c' ∧ w = w') ⟨_, _, HR.out, rfl, rfl⟩ ?_; rintro u1 w1 ⟨rfl, rfl⟩)
  go_ret
  exact ⟨_, a', c', rfl, HB.out.size, HF, bmore HB.out (al _ _)⟩
end Go.Proofs.Ytgglhicpfjihlaa
