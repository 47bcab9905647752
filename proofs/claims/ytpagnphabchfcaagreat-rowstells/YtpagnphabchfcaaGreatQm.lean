/- Keyed, the program's and the document's. -/
import Derived.Test.YtpagnphabchfcaaGreatQl
namespace Go.Proofs.YtpagnphabchfcaaGreat
open Go.RowKit Go.Shelf
set_option maxRecDepth 100000
theorem eql25 (x y : Vt) (W : World) : (binOp .eql 25 (.agg #[.int .u8 x.1, .int .i64 x.2.1, .string x.2.2]) (.agg #[.int .u8 y.1, .int .i64 y.2.1, .string y.2.2])).run Tryz.prog W = .ok (.bool (decide (x = y))) W := by
  have h1 : Tryz.prog.underlying 25 = some (.struct (Tryz.prog.fieldsOf 25)) := by kernel_rfl
  have h2 : Tryz.prog.stoodInHeld 25 = false := by kernel_rfl
  rw [run_eql_struct, show (10000 : Nat) = 9999 + 1 from rfl, run_equalIn_struct _ _ _ _ _ h1 h2]
  have hf : (Tryz.prog.fieldsOf 25) = (match Tryz.prog.underlying 25 with | some (.struct fs) => fs | _ => #[]) := rfl
  rw [hf, Tryz.underlying25]
  clear hf h1 h2
  obtain ⟨k, n, s⟩ := x
  obtain ⟨k', n', s'⟩ := y
  have hs : (s.toList == s'.toList) = decide (s = s') := by
    rw [Bool.eq_iff_iff]
    simp only [beq_iff_eq, decide_eq_true_eq]
    constructor
    · intro h
      rw [Lib.toList_data, Lib.toList_data] at h
      exact bs_inj h
    · rintro rfl; rfl
  by_cases e1 : k = k' <;> by_cases e2 : n = n' <;> by_cases e3 : s = s' <;> simp [go_sem, e1, e2, e3, hs]
def keyB (x : Vt) (r : Rw) : Bool := decide (r.1.head? = some x)
def keyedR (x : Vt) (l : List Rw) : List Rw := l.filter (keyB x)
theorem keyedR_take {l : List Rw} {k : Nat} {r : Rw} (x : Vt) (h : l[k]? = some r) : keyedR x (l.take (k + 1)) = keyedR x (l.take k) ++ (if keyB x r = true then [r] else []) := by
  unfold keyedR
  rw [List.take_add_one, h, List.filter_append]
  cases hc : keyB x r <;> simp [hc]
theorem keyedR_len (x : Vt) (l : List Rw) : (keyedR x l).length ≤ l.length := List.length_filter_le _ _
theorem keyedR_vals {x : Vt} {l : List Rw} {n : Nat} (h : ∀ r ∈ l, r.1.length ≤ n) : ∀ r ∈ keyedR x l, r.1.length ≤ n := fun r hr => h r (List.mem_filter.1 hr).1
theorem box25 (w : World) (x : Vt) : Below w.heap.size w (w.alloc (.cells #[.int .u8 x.1, .int .i64 x.2.1, .string x.2.2] 25)) := al _ _
/-- The first of values, in memory. -/
theorem SV.first {w : World} {X : Nat → Prop} {pa : Option Addr} {n c : Nat} {x : Vt} {l : List Vt} (h : SV w X (.slice pa n c) (x :: l)) : ∃ g o, pa = some ⟨g, o, none⟩ ∧ w.cell? ⟨g, o, none⟩ = some (.int .u8 x.1) ∧ w.cell? ⟨g, o + 1, none⟩ = some (.int .i64 x.2.1) ∧ w.cell? ⟨g, o + 2, none⟩ = some (.string x.2.2) := by
  obtain ⟨g, o, h1, h2, h3, h4⟩ := h.at (k := 0) (x := x) rfl
  rw [Nat.zero_mul, Nat.add_zero] at h2 h3 h4
  exact ⟨g, o, h1, h2, h3, h4⟩
set_option maxHeartbeats 1000000 in
theorem keyed19 {w : World} {X : Nat → Prop} {v : Value} {es : List El} {x : Vt} (h : RL w X v es) (hl : es.length ≤ 1000) (hv : ∀ e ∈ es, e.2.1.length ≤ 1000) :
    Calls Tryz.prog 19 #[v, V x] w (SPost w (sortR (keyedR x (rws es)))) := by
  have hw1 := box25 w x
  have b1 := blk_new w [.int .u8 x.1, .int .i64 x.2.1, .string x.2.2] 25
  change Blk (w.alloc (.cells #[.int .u8 x.1, .int .i64 x.2.1, .string x.2.2] 25)) _ _ _ at b1
  have HR : Hid (RL (w.alloc (.cells #[.int .u8 x.1, .int .i64 x.2.1, .string x.2.2] 25)) (fun b => (w.alloc (.cells #[.int .u8 x.1, .int .i64 x.2.1, .string x.2.2] 25)).heap.size ≤ b) v es) := RL.old ((h.mono (Y := fun _ => False) (fun _ _ h => h.elim)).below hw1)
  obtain ⟨pa, c, rfl⟩ := h.form
  obtain ⟨N, hN⟩ : ∃ N, es.length = N := ⟨_, rfl⟩
  have HN : Hid _ := hN
  have HV : Hid _ := hv
  have HA : Hid ((rws es).length = N) := by show _ = _; simpa [rws] using hN
  have HW1 : Hid _ := hw1
  rw [hN] at hl ⊢
  rw [hN] at HR
  clear h hN hv hw1
  go_enter Tryz.func19, Tryz.ntmps19
  go_wp2_with fail
  generalize w.alloc (.cells #[.int .u8 x.1, .int .i64 x.2.1, .string x.2.2] 25) = w1 at *
  go_loopw [5, 10] (fun fo fi wr => ∃ (k : Nat) (os : List El), fi = .int .i64 (k : Int) ∧ Hid (k ≤ N) ∧ Hid (FI w1 wr fo os (keyedR x ((rws es).take k)))) (fun _ fi _ => ((N : Int) - intOf fi).toNat)
  case atStart => exact ⟨0, [], rfl, Nat.zero_le _, FI.nil _⟩
  case round =>
    obtain ⟨k, os, rfl, hk, hI⟩ := hrel
    by_cases hkN : k < N
    · have hki : (k : Int) < (N : Int) := by omega
      have hk0 : (0 : Int) ≤ (k : Int) := by omega
      obtain ⟨e, he⟩ : ∃ e, es[k]? = some e := ⟨_, List.getElem?_eq_getElem (by rw [HN.out]; exact hkN)⟩
      obtain ⟨g, o, rfl, _, _, d0, d1, d2⟩ := (RL.below HR.out hI.out.b).get he
      have HSV : Hid (SV w1 (fun x => w1.heap.size ≤ x) e.1 e.2.1) := HR.out.vals e (List.mem_of_getElem? he)
      have HTk : Hid (keyedR x ((rws es).take (k + 1)) = keyedR x ((rws es).take k) ++ (if keyB x e.2 = true then [e.2] else [])) := keyedR_take x (by rw [rws, List.getElem?_map, he]; rfl)
      have HLn : Hid ((keyedR x ((rws es).take k)).length ≤ 100000) := by
        have h1 := keyedR_len x ((rws es).take k)
        rw [List.length_take] at h1
        show _ ≤ _
        omega
      obtain ⟨sv, vs, f, t⟩ := e
      simp only at d0 d1 d2 HSV HTk
      obtain ⟨pb, cb, rfl⟩ := SV.form HSV.out
      have b5 := blk_new wr [.slice pb vs.length cb, .int .i64 f, .int .i64 t] 64
      change Blk (wr.alloc (.cells #[.slice pb vs.length cb, .int .i64 f, .int .i64 t] 64)) _ _ _ at b5
      have hA := al3 wr (.slice pb vs.length cb) f t
      have HI5 : Hid _ := FI.below hI.out hA
      have HB1 : Hid (∀ W, Below w1.heap.size w1 W → W.cell? ⟨w.heap.size, 0, none⟩ = some (.int .u8 x.1) ∧ W.cell? ⟨w.heap.size, 1, none⟩ = some (.int .i64 x.2.1) ∧ W.cell? ⟨w.heap.size, 2, none⟩ = some (.string x.2.2)) := fun W k => ⟨(b1.below k).cell 0, (b1.below k).cell 1, (b1.below k).cell 2⟩
      have HC5 : Hid (∀ W, Below (wr.alloc (.cells #[.slice pb vs.length cb, .int .i64 f, .int .i64 t] 64)).heap.size (wr.alloc (.cells #[.slice pb vs.length cb, .int .i64 f, .int .i64 t] 64)) W → W.cell? ⟨wr.heap.size, 0, none⟩ = some (.slice pb vs.length cb) ∧ W.cell? ⟨wr.heap.size, 1, none⟩ = some (.int .i64 f) ∧ W.cell? ⟨wr.heap.size, 2, none⟩ = some (.int .i64 t)) := fun W k => ⟨(b5.below k).cell 0, (b5.below k).cell 1, (b5.below k).cell 2⟩
      have HS5 : Hid (SV (wr.alloc (.cells #[.slice pb vs.length cb, .int .i64 f, .int .i64 t] 64)) (fun x => w1.heap.size ≤ x) (.slice pb vs.length cb) vs) := SV.below HSV.out HI5.out.b
      clear he b5 HSV
      cases vs with
      | nil =>
        have HTk' : Hid (keyedR x ((rws es).take (k + 1)) = keyedR x ((rws es).take k)) := by
          show _ = _
          rw [HTk.out]
          simp [keyB]
        clear HTk
        simp only [List.length_nil] at *
        go_wp2_with fail
        generalize wr.alloc (.cells #[.slice pb 0 cb, .int .i64 f, .int .i64 t] 64) = W5 at *
        have y0 : ∀ n, (W5.drewN n).cell? ⟨wr.heap.size, 0, none⟩ = some (.slice pb 0 cb) := fun n => (HC5.out (W5.drewN n) ⟨rfl, rfl, rfl, Nat.le_refl _, fun _ _ => rfl⟩).1
        go_big_quiet (fail)
        have Ky : Below W5.heap.size W5 (W5.drewN nq) := ⟨rfl, rfl, rfl, Nat.le_refl _, fun _ _ => rfl⟩
        generalize W5.drewN nq = wy at *
        go_wp2_with fail
        go_roundw
        case rel => exact ⟨k + 1, os, by simp, by show _ ≤ _; omega, by show FI _ _ _ _ _; rw [HTk'.out]; exact FI.below HI5.out Ky⟩
        case measure => simp only [intOf]; omega
      | cons y ys =>
        obtain ⟨gv, ov, rfl, q0, q1, q2⟩ := SV.first HS5.out
        have HQ : Hid (∀ W, Below (wr.alloc (.cells #[.slice (some ⟨gv, ov, none⟩) (y :: ys).length cb, .int .i64 f, .int .i64 t] 64)).heap.size (wr.alloc (.cells #[.slice (some ⟨gv, ov, none⟩) (y :: ys).length cb, .int .i64 f, .int .i64 t] 64)) W → W.cell? ⟨gv, ov, none⟩ = some (.int .u8 y.1) ∧ W.cell? ⟨gv, ov + 1, none⟩ = some (.int .i64 y.2.1) ∧ W.cell? ⟨gv, ov + 2, none⟩ = some (.string y.2.2)) := fun W kk => by
          obtain ⟨g2, o2, e2, r0, r1, r2⟩ := SV.first (SV.below HS5.out kk)
          simp only [Option.some.injEq, Addr.mk.injEq] at e2
          obtain ⟨rfl, rfl, _⟩ := e2
          exact ⟨r0, r1, r2⟩
        have heq := eql25 y x
        have hpos : (0 : Int) < (((y :: ys).length : Nat) : Int) := by simp only [List.length_cons]; omega
        have hposd : decide ((0 : Int) < (((y :: ys).length : Nat) : Int)) = true := decide_eq_true hpos
        have hpos2 : 0 < (y :: ys).length := by simp
        have hpos3 : decide (0 < (y :: ys).length) = true := decide_eq_true hpos2
        have HYs : Hid ((y :: ys).head? = some y) := rfl
        generalize hLn : (y :: ys).length = Ln at *
        generalize hB : decide (y = x) = bb at *
        go_wp2_with fail
        generalize wr.alloc (.cells #[.slice (some ⟨gv, ov, none⟩) Ln cb, .int .i64 f, .int .i64 t] 64) = W5 at *
        have hn : ∀ n, Below W5.heap.size W5 (W5.drewN n) := fun n => ⟨rfl, rfl, rfl, Nat.le_refl _, fun _ _ => rfl⟩
        have y0 := fun n => (HC5.out (W5.drewN n) (hn n)).1
        have a0 := fun n => (HQ.out (W5.drewN n) (hn n)).1
        have a1 := fun n => (HQ.out (W5.drewN n) (hn n)).2.1
        have a2 := fun n => (HQ.out (W5.drewN n) (hn n)).2.2
        have c0 := fun n => (HB1.out (W5.drewN n) (bmore HI5.out.b (hn n))).1
        have c1 := fun n => (HB1.out (W5.drewN n) (bmore HI5.out.b (hn n))).2.1
        have c2 := fun n => (HB1.out (W5.drewN n) (bmore HI5.out.b (hn n))).2.2
        go_big_quiet (fail)
        have Ky : Below W5.heap.size W5 (W5.drewN nq) := hn nq
        have HKb : Hid (keyB x (y :: ys, f, t) = bb) := by show _ = _; rw [← hB]; simp [keyB]
        obtain ⟨z0, z1, z2⟩ := HC5.out _ Ky
        have HApp := FI.app (f := f) (t := t) (FI.below HI5.out Ky) HLn.out (SV.below HS5.out Ky) (W5.drewN nq).heap.size rfl
        generalize W5.drewN nq = wy at *
        clear y0 a0 a1 a2 c0 c1 c2 hn
        cases bb
        · have HTk' : Hid (keyedR x ((rws es).take (k + 1)) = keyedR x ((rws es).take k)) := by
            show _ = _
            rw [HTk.out, HKb.out]
            simp
          clear HTk HApp hB hLn HKb
          go_wp2_with fail
          go_roundw
          case rel => exact ⟨k + 1, os, by simp, by show _ ≤ _; omega, by show FI _ _ _ _ _; rw [HTk'.out]; exact FI.below HI5.out Ky⟩
          case measure => simp only [intOf]; omega
        · have HTk' : Hid (keyedR x ((rws es).take (k + 1)) = keyedR x ((rws es).take k) ++ [(y :: ys, f, t)]) := by
            show _ = _
            rw [HTk.out, HKb.out]
            simp
          clear HTk hB hLn HKb Ky
          go_wp2_with (at_builtin; refine wpList_append_ex (by rfl) (.tmp 26) (.tmp 28) 22 (by rfl) _ _ (by rfl) (by rfl) HApp ?_; rintro v7 w7 ⟨hI7, _⟩)
          go_roundw
          case rel =>
            obtain ⟨os', hI8⟩ := hI7.out
            exact ⟨k + 1, os', by simp, by show _ ≤ _; omega, by show FI _ _ _ _ _; rw [HTk'.out]; exact hI8⟩
          case measure => simp only [intOf]; omega
    · have hki : ¬ (k : Int) < (N : Int) := by omega
      have HE : Hid (rws os = keyedR x (rws es)) := by show _ = _; rw [hI.out.rows, List.take_of_length_le (by rw [HA.out]; omega)]
      have k10 := sorted17 (OwnR.rl hI.out.own) (by have := hI.out.len; have h1 := keyedR_len x ((rws es).take k); rw [List.length_take, HA.out] at h1; omega) (rws_vals HE.out (keyedR_vals (fun r hr => by obtain ⟨e, he, rfl⟩ := List.mem_map.1 hr; exact HV.out e he)))
      rw [HE.out] at k10
      go_wp2_with (go_at_call 10; (with_reducible refine k10.mono ?_); rintro e w9 ⟨v9, x9, rfl, hn9, o9, e9, B9⟩; have HO9 : Hid _ := And.intro hn9 (And.intro o9 (And.intro e9 B9)); clear hn9 o9 e9 B9)
      go_ret
      exact ⟨v9, x9, rfl, HO9.out.1, HO9.out.2.1.base (bmore HW1.out hI.out.b).size, HO9.out.2.2.1, bmore (bmore HW1.out hI.out.b) HO9.out.2.2.2⟩
set_option maxHeartbeats 1000000 in
theorem rkeyed20 {w : World} {X : Nat → Prop} {v : Value} {es : List El} {x : Vt} (h : RL w X v es) (hl : es.length ≤ 1000) (hv : ∀ e ∈ es, e.2.1.length ≤ 1000) :
    Calls Tryz.prog 20 #[v, V x] w (LPost w (sortR (keyedR x (rws es)))) := by
  have hw1 := box25 w x
  have b1 := blk_new w [.int .u8 x.1, .int .i64 x.2.1, .string x.2.2] 25
  change Blk (w.alloc (.cells #[.int .u8 x.1, .int .i64 x.2.1, .string x.2.2] 25)) _ _ _ at b1
  have HR : Hid (RL (w.alloc (.cells #[.int .u8 x.1, .int .i64 x.2.1, .string x.2.2] 25)) (fun b => (w.alloc (.cells #[.int .u8 x.1, .int .i64 x.2.1, .string x.2.2] 25)).heap.size ≤ b) v es) := RL.old ((h.mono (Y := fun _ => False) (fun _ _ h => h.elim)).below hw1)
  obtain ⟨pa, c, rfl⟩ := h.form
  obtain ⟨N, hN⟩ : ∃ N, es.length = N := ⟨_, rfl⟩
  have HN : Hid _ := hN
  have HV : Hid _ := hv
  have HA : Hid ((rws es).length = N) := by show _ = _; simpa [rws] using hN
  have HW1 : Hid _ := hw1
  rw [hN] at hl ⊢
  rw [hN] at HR
  clear h hN hv hw1
  go_enter Tryz.func20, Tryz.ntmps20
  go_wp2_with fail
  generalize w.alloc (.cells #[.int .u8 x.1, .int .i64 x.2.1, .string x.2.2] 25) = w1 at *
  go_loopw [5, 6] (fun fo fi wr => ∃ (k : Nat) (os : List El), fi = .int .i64 (k : Int) ∧ Hid (k ≤ N) ∧ Hid (FI w1 wr fo os (keyedR x ((rws es).take k)))) (fun _ fi _ => ((N : Int) - intOf fi).toNat)
  case atStart => exact ⟨0, [], rfl, Nat.zero_le _, FI.nil _⟩
  case round =>
    obtain ⟨k, os, rfl, hk, hI⟩ := hrel
    by_cases hkN : k < N
    · have hki : (k : Int) < (N : Int) := by omega
      have hk0 : (0 : Int) ≤ (k : Int) := by omega
      obtain ⟨e, he⟩ : ∃ e, es[k]? = some e := ⟨_, List.getElem?_eq_getElem (by rw [HN.out]; exact hkN)⟩
      obtain ⟨g, o, rfl, _, _, d0, d1, d2⟩ := (RL.below HR.out hI.out.b).get he
      have HSV : Hid (SV w1 (fun x => w1.heap.size ≤ x) e.1 e.2.1) := HR.out.vals e (List.mem_of_getElem? he)
      have HTk : Hid (keyedR x ((rws es).take (k + 1)) = keyedR x ((rws es).take k) ++ (if keyB x e.2 = true then [e.2] else [])) := keyedR_take x (by rw [rws, List.getElem?_map, he]; rfl)
      have HLn : Hid ((keyedR x ((rws es).take k)).length ≤ 100000) := by
        have h1 := keyedR_len x ((rws es).take k)
        rw [List.length_take] at h1
        show _ ≤ _
        omega
      have HCe : Hid (∀ W, Below w1.heap.size w1 W → W.cell? ⟨g, o + k * 3, none⟩ = some e.1 ∧ W.cell? ⟨g, o + k * 3 + 1, none⟩ = some (.int .i64 e.2.2.1) ∧ W.cell? ⟨g, o + k * 3 + 2, none⟩ = some (.int .i64 e.2.2.2)) := fun W kk => RL.at3 (RL.below HR.out kk) he
      obtain ⟨sv, vs, f, t⟩ := e
      simp only at d0 d1 d2 HSV HTk HCe
      obtain ⟨pb, cb, rfl⟩ := SV.form HSV.out
      have HI5 : Hid (FI w1 wr u5 os (keyedR x ((rws es).take k))) := hI.out
      have HB1 : Hid (∀ W, Below w1.heap.size w1 W → W.cell? ⟨w.heap.size, 0, none⟩ = some (.int .u8 x.1) ∧ W.cell? ⟨w.heap.size, 1, none⟩ = some (.int .i64 x.2.1) ∧ W.cell? ⟨w.heap.size, 2, none⟩ = some (.string x.2.2)) := fun W k => ⟨(b1.below k).cell 0, (b1.below k).cell 1, (b1.below k).cell 2⟩
      have HC5 : Hid (∀ W, Below wr.heap.size wr W → W.cell? ⟨g, o + k * 3, none⟩ = some (.slice pb vs.length cb) ∧ W.cell? ⟨g, o + k * 3 + 1, none⟩ = some (.int .i64 f) ∧ W.cell? ⟨g, o + k * 3 + 2, none⟩ = some (.int .i64 t)) := fun W kk => HCe.out W (bmore hI.out.b kk)
      have HS5 : Hid (SV wr (fun x => w1.heap.size ≤ x) (.slice pb vs.length cb) vs) := SV.below HSV.out HI5.out.b
      clear he HSV d0 d1 d2
      cases vs with
      | nil =>
        have HTk' : Hid (keyedR x ((rws es).take (k + 1)) = keyedR x ((rws es).take k)) := by
          show _ = _
          rw [HTk.out]
          simp [keyB]
        clear HTk
        simp only [List.length_nil] at *
        go_wp2_with fail
        have y0 : ∀ n, (wr.drewN n).cell? ⟨g, o + k * 3, none⟩ = some (.slice pb 0 cb) := fun n => (HC5.out (wr.drewN n) ⟨rfl, rfl, rfl, Nat.le_refl _, fun _ _ => rfl⟩).1
        go_big_quiet (fail)
        have Ky : Below wr.heap.size wr (wr.drewN nq) := ⟨rfl, rfl, rfl, Nat.le_refl _, fun _ _ => rfl⟩
        generalize wr.drewN nq = wy at *
        go_wp2_with fail
        go_roundw
        case rel => exact ⟨k + 1, os, by simp, by show _ ≤ _; omega, by show FI _ _ _ _ _; rw [HTk'.out]; exact FI.below HI5.out Ky⟩
        case measure => simp only [intOf]; omega
      | cons y ys =>
        obtain ⟨gv, ov, rfl, q0, q1, q2⟩ := SV.first HS5.out
        have HQ : Hid (∀ W, Below wr.heap.size wr W → W.cell? ⟨gv, ov, none⟩ = some (.int .u8 y.1) ∧ W.cell? ⟨gv, ov + 1, none⟩ = some (.int .i64 y.2.1) ∧ W.cell? ⟨gv, ov + 2, none⟩ = some (.string y.2.2)) := fun W kk => by
          obtain ⟨g2, o2, e2, r0, r1, r2⟩ := SV.first (SV.below HS5.out kk)
          simp only [Option.some.injEq, Addr.mk.injEq] at e2
          obtain ⟨rfl, rfl, _⟩ := e2
          exact ⟨r0, r1, r2⟩
        have heq := eql25 y x
        have hpos : (0 : Int) < (((y :: ys).length : Nat) : Int) := by simp only [List.length_cons]; omega
        have hposd : decide ((0 : Int) < (((y :: ys).length : Nat) : Int)) = true := decide_eq_true hpos
        have hpos2 : 0 < (y :: ys).length := by simp
        have hpos3 : decide (0 < (y :: ys).length) = true := decide_eq_true hpos2
        have HYs : Hid ((y :: ys).head? = some y) := rfl
        generalize hLn : (y :: ys).length = Ln at *
        generalize hB : decide (y = x) = bb at *
        go_wp2_with fail
        have hn : ∀ n, Below wr.heap.size wr (wr.drewN n) := fun n => ⟨rfl, rfl, rfl, Nat.le_refl _, fun _ _ => rfl⟩
        have y0 := fun n => (HC5.out (wr.drewN n) (hn n)).1
        have a0 := fun n => (HQ.out (wr.drewN n) (hn n)).1
        have a1 := fun n => (HQ.out (wr.drewN n) (hn n)).2.1
        have a2 := fun n => (HQ.out (wr.drewN n) (hn n)).2.2
        have c0 := fun n => (HB1.out (wr.drewN n) (bmore HI5.out.b (hn n))).1
        have c1 := fun n => (HB1.out (wr.drewN n) (bmore HI5.out.b (hn n))).2.1
        have c2 := fun n => (HB1.out (wr.drewN n) (bmore HI5.out.b (hn n))).2.2
        go_big_quiet (fail)
        have Ky : Below wr.heap.size wr (wr.drewN nq) := hn nq
        have HKb : Hid (keyB x (y :: ys, f, t) = bb) := by show _ = _; rw [← hB]; simp [keyB]
        obtain ⟨z0, z1, z2⟩ := HC5.out _ Ky
        have HApp := FI.app (f := f) (t := t) (FI.below HI5.out Ky) HLn.out (SV.below HS5.out Ky) (wr.drewN nq).heap.size rfl
        generalize wr.drewN nq = wy at *
        clear y0 a0 a1 a2 c0 c1 c2 hn
        cases bb
        · have HTk' : Hid (keyedR x ((rws es).take (k + 1)) = keyedR x ((rws es).take k)) := by
            show _ = _
            rw [HTk.out, HKb.out]
            simp
          clear HTk HApp hB hLn HKb
          go_wp2_with fail
          go_roundw
          case rel => exact ⟨k + 1, os, by simp, by show _ ≤ _; omega, by show FI _ _ _ _ _; rw [HTk'.out]; exact FI.below HI5.out Ky⟩
          case measure => simp only [intOf]; omega
        · have HTk' : Hid (keyedR x ((rws es).take (k + 1)) = keyedR x ((rws es).take k) ++ [(y :: ys, f, t)]) := by
            show _ = _
            rw [HTk.out, HKb.out]
            simp
          clear HTk hB hLn HKb Ky
          go_wp2_with (at_builtin; refine wpList_append_ex (by rfl) (.tmp 31) (.tmp 36) 22 (by rfl) _ _ (by rfl) (by rfl) HApp ?_; rintro v7 w7 ⟨hI7, _⟩)
          go_roundw
          case rel =>
            obtain ⟨os', hI8⟩ := hI7.out
            exact ⟨k + 1, os', by simp, by show _ ≤ _; omega, by show FI _ _ _ _ _; rw [HTk'.out]; exact hI8⟩
          case measure => simp only [intOf]; omega
    · have hki : ¬ (k : Int) < (N : Int) := by omega
      have HE : Hid (rws os = keyedR x (rws es)) := by show _ = _; rw [hI.out.rows, List.take_of_length_le (by rw [HA.out]; omega)]
      have k10 := rsorted11 (OwnR.rl hI.out.own) (by have := hI.out.len; have h1 := keyedR_len x ((rws es).take k); rw [List.length_take, HA.out] at h1; omega) (rws_vals HE.out (keyedR_vals (fun r hr => by obtain ⟨e, he, rfl⟩ := List.mem_map.1 hr; exact HV.out e he)))
      rw [HE.out] at k10
      go_wp2_with (go_at_call 11; (with_reducible refine k10.mono ?_); rintro e w9 ⟨v9, x9, rfl, o9, e9, B9⟩; have HO9 : Hid _ := And.intro o9 (And.intro e9 B9); clear o9 e9 B9)
      go_ret
      exact ⟨v9, x9, rfl, HO9.out.1.base (bmore HW1.out hI.out.b).size, HO9.out.2.1, bmore (bmore HW1.out hI.out.b) HO9.out.2.2⟩
end Go.Proofs.YtpagnphabchfcaaGreat
