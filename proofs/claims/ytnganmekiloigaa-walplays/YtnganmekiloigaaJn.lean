/- accept, attempt. · readAll, greatestEpoch, halfOf, sized. · greatestEpoch, halfOf, sized. -/
import Derived.Test.YtnganmekiloigaaGm
import Derived.Test.YtnganmekiloigaaLv
import Derived.Defers
import Derived.Recover
/-! ### accept, attempt. -/
namespace Go.Proofs.Ytnganmekiloigaa
open Go.RowKit
set_option maxRecDepth 100000
variable {w w' : World}

theorem accept98 (w : World) : Calls Try.prog 98 #[.int .i64 0] w fun e w' => e = .returned (.tuple #[]) ∧ w' = w := by
  go_enter Try.func98, Try.ntmps98
  go_wp2
  go_end0
  exact ⟨rfl, rfl⟩
/-- What goes up when the disk refuses. -/
def GU (n : Int) : List PanicEntry := [{ v := .iface 134 (.agg #[.int .i64 n]), recovered := false }]
theorem accept98_no (n : Int) (hn : n ≠ 0) (w : World) : Calls Try.prog 98 #[.int .i64 n] w fun e w' => e = .panicked (GU n) ∧ w' = w := by
  go_enter Try.func98, Try.ntmps98
  go_wp2
  exact ⟨rfl, rfl, rfl⟩

set_option maxHeartbeats 1000000 in
theorem catch97 (p : Addr) (w : World) :
    CallsD Try.prog 97 #[.pointer (some p)] .returning w fun e u' w' => e = .returned (.tuple #[]) ∧ u' = .returning ∧ w' = w := by
  refine callsD_of_wpS Try.func97 rfl fun c₀ cs hu => ?_
  apply wpS_seq
  apply wpS_region
  simp [wpOpsS, go_sem, recoverD, hu, Try.ntmps97, Exit.thenS]
  refine wpS_of_wp ?_
  go_wp2
  cases c₀
  simp_all [bodyPostS, results, Try.results97]

set_option maxHeartbeats 1000000 in
theorem attempt_ok {f : Nat} {caps : Array Value} {Q : World → Prop} (hf : ∀ W, Sem.run Try.prog (callFunc f caps) W = .ok (.enter f caps) W) (hc : Calls Try.prog f caps (w.alloc (.cells #[.int .i64 0] 34)) fun e w' => e = .returned (.tuple #[]) ∧ Blk w' w.heap.size [.int .i64 0] 34 ∧ Q w') :
    Calls Try.prog 67 #[.func (.func f) #[] caps] w fun e w' => e = .returned (.int .i64 0) ∧ ∃ w2, Q w2 ∧ Keep (fun k => k = w.heap.size) w2 w' := by
  have hmf : ∀ (fn : Fn) (first cap : Array Value) (w : World), (Instr.makeFunc fn first cap).run Try.prog w = .ok (.func fn first cap) w := fun _ _ _ _ => rfl
  go_enter_defers Try.func67, Try.ntmps67
  go_wp2_with ((refine hc.mono ?_; rintro e w1 ⟨rfl, hb1, hq1⟩; have y0 := hb1.cell 0; have y1 := hb1.frozen 0))
  refine leaves_cons (f := 97) (args := #[.pointer (some ⟨w.heap.size, 0, none⟩)]) (by simp) (by simp [go_sem]) ?_
  refine (catch97 _ _).mono ?_
  rintro e u' w'' ⟨rfl, rfl, rfl⟩
  have y2 := (hb1.set (o := 0) (.int .i64 0)).cell 0
  exact ⟨.int .i64 0, by simp [results, Try.results67, go_sem, y2], rfl, w1, hq1, (Keep.refl (fun k => k = w.heap.size) w1).set (.inr rfl) _⟩

end Go.Proofs.Ytnganmekiloigaa
/-! ### readAll, greatestEpoch, halfOf, sized. -/
namespace Go.Proofs.Ytnganmekiloigaa
open Go.RowKit
set_option maxRecDepth 100000
variable {w w' : World} {B d s : Nat} {D : Dk}

/-- All sectors, as they are read. -/
def rdS (D : Dk) : List Bs := (List.range D.secs.length).map fun i => latest D.secs D.wait i
theorem rdS_length (D : Dk) : (rdS D).length = D.secs.length := by simp [rdS]
theorem rdS_get {D : Dk} {m : Nat} (h : m < D.secs.length) : (rdS D)[m]? = some (latest D.secs D.wait m) := by simp [rdS, h]
theorem info141y : (Try.prog.info? 141).map (fun i => (i.zero, i.size)) = some (some (.agg (encPc zPc).toArray), 62) := by kernel_rfl
theorem pc_cells (x : Pc) : EPc.cells [x] = encPc x := by simp [Ety.cells, EPc]
theorem take_step {α : Type} {l : List α} {m : Nat} {x : α} (h : l[m]? = some x) : l.take (m + 1) = l.take m ++ [x] := by
  obtain ⟨h1, rfl⟩ := List.getElem?_eq_some_iff.1 h
  rw [List.take_succ_eq_append_getElem h1]

set_option maxHeartbeats 1000000 in
theorem readAll69 (h : Alone B w d s D []) (hoff : D.off = false) (hw : D.wait.length ≤ 100000) (hn : D.secs.length ≤ 128) :
    Calls Try.prog 69 #[.pointer (some ⟨d, 0, none⟩)] w fun e w' => ∃ u, e = .returned u ∧ RW EPc w.heap.size w' u (pcs (rdS D)) ∧ Below w.heap.size w w' := by
  have c28 : Calls Try.prog 28 #[.pointer (some ⟨d, 0, none⟩)] w fun e w' => e = .returned (.int .i64 (D.secs.length : Int)) ∧ w' = w := by obtain ⟨wv, h1, _⟩ := h; exact size28 h1
  have H19 : Hid (∀ W m, m < D.secs.length → Below w.heap.size w W → Calls Try.prog 19 #[.pointer (some ⟨d, 0, none⟩), .int .i64 (m : Int)] W fun e w' => ∃ g, e = .returned (.tuple #[.slice (some ⟨g, 0, none⟩) 64 64, .int .i64 0]) ∧ Blk w' g (cellsB (latest D.secs D.wait m)) 5 ∧ (latest D.secs D.wait m).length = 64 ∧ Below W.heap.size W w') := fun W m hm k => by
    have hr : D.reach (m : Int) = 0 := by unfold Dk.reach; rw [hoff]; simp; omega
    refine (alone19 (h.below k) (m : Int) hr hw).mono ?_
    rintro e w' ⟨g, rfl, _, _, h1, h2, h3⟩
    have e1 : (D.read (m : Int)).1 = latest D.secs D.wait m := by unfold Dk.read; rw [if_pos hr]; rfl
    rw [e1] at h1 h2
    exact ⟨g, rfl, h1, h2, h3⟩
  have HP : Hid (∀ m, m < D.secs.length → (pcs (rdS D)).take (m + 1) = (pcs (rdS D)).take m ++ [pcOf (latest D.secs D.wait m)]) := fun m hm => take_step (by simp [pcs, rdS_get hm])
  have HL : Hid ((pcs (rdS D)).length = D.secs.length) := by show _ = _; simp [pcs, rdS_length]
  clear h hoff hw
  generalize D.secs.length = n at *
  generalize pcs (rdS D) = L at *
  go_enter Try.func69, Try.ntmps69
  go_wp2_with (go_at_call 28; (refine c28.mono ?_; rintro e w0 ⟨rfl, rfl⟩))
  go_loopw [3, 9] (fun u p wr => ∃ m : Nat, m ≤ n ∧ p = .int .i64 (m : Int) ∧ Hid (RW EPc w0.heap.size wr u (L.take m)) ∧ Below w0.heap.size w0 wr) (fun _ p _ => n - (intOf p).toNat)
  case atStart => exact ⟨0, by omega, rfl, RW.nil _ _ _, Below.refl _ _⟩
  case round =>
    obtain ⟨m, hm, rfl, hU, hB⟩ := hrel
    by_cases hlt : m < n
    · have hlt1 : (m : Int) < (n : Int) := by omega
      have k19 := H19.out _ m hlt hB
      have HP1 : Hid _ := HP.out m hlt
      have HL2 : (L.take m).length ≤ 128 := by rw [List.length_take]; omega
      obtain ⟨ua, uc, rfl, _⟩ := hU.out.form
      generalize (L.take m).length = k at *
      have HA : Hid (∀ W x, Below wr.heap.size wr W → ∃ u' w', (Builtin.append_ #[106, 106] 106 #[.slice ua k uc, .slice (some ⟨W.heap.size, 0, none⟩) 1 1]).run Try.prog (W.alloc (.cells (encPc x).toArray 141)) = .ok u' w' ∧ RW EPc w0.heap.size w' u' (L.take m ++ [x]) ∧ Below w0.heap.size w0 w') := fun W x k => by
        obtain ⟨u', w', h1, h2, h3⟩ := rw_app ((hU.out.below k).below (al W (.cells (encPc x).toArray 141))) (lv_blk EPc (L := [x]) (by rw [pc_cells]; exact blk_new W (encPc x) 141) 1 (by simp)) (by simp; omega) (by have := k.size; have := hB.size; simp; omega)
        exact ⟨u', w', h1, h2, (hB.trans ((k.trans ((al W _).mono k.size)).mono hB.size)).trans h3⟩
      go_wp2_with (first
        | (go_at_call 19; (refine k19.mono ?_; rintro e w1 ⟨g, rfl, hb1, hl1, B1⟩; have k98 := accept98 w1; have k99 := pieceIn99 hl1 hb1))
        | (go_at_call 98; (refine k98.mono ?_; rintro e w2 ⟨rfl, rfl⟩))
        | (go_at_call 99; (refine k99.mono ?_; rintro e w3 ⟨rfl, B3⟩; have kA := HA.out _ (pcOf (latest D.secs D.wait m)) (bmore B1 B3)))
        | (refine wpList_buildSlice1 rfl 106 141 (.tmp 22) rfl (encPc (pcOf (latest D.secs D.wait m))) rfl (.agg (encPc zPc).toArray) und106 (by rw [encPc_length]; exact info141y) (by rw [encPc_length]; exact encPc_length _) (by rw [encPc_length]; omega) (by rw [encPc_length]; omega) ?_; rintro _ rfl)
        | (refine wpList_append_ex rfl (.tmp 20) (.tmp 23) 106 rfl _ _ rfl rfl kA ?_; rintro u5 w5 ⟨hU5, hB5⟩))
      go_roundw
      case rel => exact ⟨m + 1, by omega, by simp, by rw [HP1.out]; exact hU5, hB5⟩
      case measure => simp only [intOf]; omega
    · have hlt1 : ¬ (m : Int) < (n : Int) := by omega
      obtain rfl : m = n := by omega
      go_wp2
      go_ret
      refine ⟨_, rfl, ?_, hB⟩
      have := hU.out
      rw [List.take_of_length_le (by rw [HL.out]; omega)] at this
      exact this
end Go.Proofs.Ytnganmekiloigaa
/-! ### greatestEpoch, halfOf, sized. -/
namespace Go.Proofs.Ytnganmekiloigaa
open Go.RowKit
set_option maxRecDepth 100000
variable {w w' : World} {H L : List Pc}

theorem LV.rng {a : Option Addr} {n c : Nat} (h : LV EPc w (.slice a n c) L) {i : Nat} {x : Pc} (hx : L[i]? = some x) : ∃ g o, a = some ⟨g, o, none⟩ ∧ w.rangeAt g (o + i * 62) (encPc x) := by
  obtain ⟨g, o, h1, h2⟩ := h.at hx
  refine ⟨g, o, h1, fun j v hv => ?_⟩
  have hj := (List.getElem?_eq_some_iff.1 hv).1
  rw [encPc_length] at hj
  exact (h2 j hj).trans hv
theorem great_step {m : Nat} {x : Pc} (h : L[m]? = some x) : great (L.take (m + 1)) = max (great (L.take m)) x.e := by
  rw [take_step h]; simp [great]
set_option maxHeartbeats 1000000 in
theorem greatest70 {v : Value} (hv : LV EPc w v L) (hL : L.length ≤ 128) (hE : ∀ x ∈ L, x.e < 65536) :
    Calls Try.prog 70 #[v] w fun e w' => e = .returned (.int .i64 ((great L : Nat) : Int)) ∧ Below w.heap.size w w' := by
  obtain ⟨a, c, rfl⟩ := hv.form
  have HV : Hid (∀ W, Below w.heap.size w W → LV EPc W (.slice a L.length c) L) := fun W k => hv.below k
  have HE : Hid (∀ m, great (L.take m) < 65536) := fun m => Nat.lt_of_le_of_lt (great_bound _ 0 65535 (by omega) fun x hx => by have := hE x (List.mem_of_mem_take hx); omega) (by omega)
  have HF : Hid (∀ x ∈ L, x.e < 65536) := hE
  have HN : Hid (∀ m, m < L.length → ∃ x, L[m]? = some x) := fun m hm => ⟨_, List.getElem?_eq_getElem hm⟩
  have HT : Hid (L.take L.length = L) := List.take_length
  clear hv hE
  generalize hn : L.length = n at *
  clear hn
  have hz := encPc_length zPc
  have hzi := info141a
  generalize encPc zPc = z0 at *
  go_enter Try.func70, Try.ntmps70
  go_wp2
  go_loopw [3, 8] (fun q p wr => ∃ m : Nat, m ≤ n ∧ p = .int .i64 (m : Int) ∧ q = .int .i64 ((great (L.take m) : Nat) : Int) ∧ Below w.heap.size w wr) (fun _ p _ => n - (intOf p).toNat)
  case atStart => exact ⟨0, by omega, rfl, rfl, Below.refl _ _⟩
  case round =>
    obtain ⟨m, hm, rfl, rfl, hB⟩ := hrel
    by_cases hlt : m < n
    · have hlt1 : (m : Int) < (n : Int) := by omega
      obtain ⟨x, hx⟩ := HN.out m hlt
      obtain ⟨g, o, rfl, hr⟩ := (HV.out _ hB).rng hx
      have h1 : great (L.take m) < 65536 := HE.out m
      have h2 := HF.out x (List.mem_of_getElem? hx)
      have hG := great_step hx
      have hxl := encPc_length x
      have hxo := encPc_one x
      have HX : Hid (∀ W b, Blk W b (encPc x) 141 → W.cell? ⟨b, 0, none⟩ = some (.int .i64 (x.e : Int))) := fun W b h => h.cell 0
      generalize great (L.take m) = q at *
      generalize encPc x = cx at *
      clear hx
      go_wp2_with (first
        | (refine wpList_load_mid rfl 141 (.tmp 10) rfl g (o + m * 62) rfl cx _ hr Try.underlying141 rfl (by rw [hxl]; exact info141s) ?_)
        | (refine wpList_alloc_row rfl 141 rfl z0 hzi ?_; intro w3 hb3 hB3 hs3)
        | (refine wpList_store_whole rfl 141 (.tmp 5) (.tmp 11) rfl wr.heap.size cx rfl rfl z0 141 hb3 (by omega) (by rw [hxl]; exact info141s) hxo ?_; intro w4 hb4 hk4 hs4; have q4 := HX.out _ _ hb4))
      refine ⟨⟨m + 1, by omega, by simp, ?_, hB.trans ((kbel hB3 hk4 (Nat.le_refl _) (Nat.le_refl _)).mono hB.size)⟩, by simp only [intOf]; omega⟩
      rw [hG]
      split
      · rw [Nat.max_eq_right (by omega)]
      · rw [Nat.max_eq_left (by omega)]
    · have hlt1 : ¬ (m : Int) < (n : Int) := by omega
      obtain rfl : m = n := by omega
      go_wp2
      go_ret
      exact ⟨by rw [HT.out]; rfl, hB⟩

theorem LV.some {v : Value} (h : LV EPc w v L) (h0 : 0 < L.length) : ∃ g o c, v = .slice (some ⟨g, o, none⟩) L.length c ∧ L.length ≤ c := by
  obtain ⟨a, c, rfl, hc, h2⟩ := h
  obtain ⟨g, o, cs, t, rfl, _⟩ := h2 h0
  exact ⟨g, o, c, rfl, hc⟩
theorem half_int {n R : Nat} (h : n = 2 * R) : ((n : Nat) : Int).tdiv 2 = (R : Int) := by
  rw [h, show ((2 * R : Nat) : Int) = 2 * (R : Int) by omega]
  exact Int.mul_tdiv_cancel_left _ (by decide)
set_option maxHeartbeats 400000 in
theorem halfOf73_0 {v : Value} {R : Nat} (hv : LV EPc w v L) (hL : L.length = 2 * R) (hR : 2 ≤ R) (hR2 : R ≤ 64) :
    Calls Try.prog 73 #[v, .int .i64 0] w fun e w' => ∃ u, e = .returned u ∧ LV EPc w u (L.take R) ∧ w' = w := by
  obtain ⟨g, o, c, rfl, hc⟩ := hv.some (by omega)
  have ht := hv.take (k := R) (by omega) c (by omega)
  have h1 := half_int hL
  have h2 : (0 : Int) ≤ (R : Int) := by omega
  have h3 : (R : Int) ≤ (c : Int) := by omega
  have h4 : R ≤ c := by omega
  have h5 : ¬ c < R := by omega
  clear hv
  generalize L.length = n at *
  clear hL
  go_enter Try.func73, Try.ntmps73
  go_wp2
  go_ret
  exact ⟨_, rfl, ht, rfl⟩
set_option maxHeartbeats 400000 in
theorem halfOf73_1 {v : Value} {R : Nat} (hv : LV EPc w v L) (hL : L.length = 2 * R) (hR : 2 ≤ R) (hR2 : R ≤ 64) :
    Calls Try.prog 73 #[v, .int .i64 1] w fun e w' => ∃ u, e = .returned u ∧ LV EPc w u (L.drop R) ∧ w' = w := by
  obtain ⟨g, o, c, rfl, hc⟩ := hv.some (by omega)
  obtain ⟨g', o', he, ht⟩ := hv.drop (k := R) (by omega) (c - R) (by omega)
  simp only [Option.some.injEq, Addr.mk.injEq, and_true] at he
  obtain ⟨rfl, rfl⟩ := he
  rw [hL] at ht
  have h1 := half_int hL
  have h2 : (0 : Int) ≤ (R : Int) := by omega
  have h3 : (2 * R : Int) ≤ (c : Int) := by omega
  have h4 : 2 * R ≤ c := by omega
  have h5 : ¬ c < 2 * R := by omega
  have h6 : ¬ c = R := by omega
  have h7 : (R : Int) ≤ 2 * (R : Int) := by omega
  clear hv
  generalize L.length = n at *
  clear hL
  go_enter Try.func73, Try.ntmps73
  go_wp2
  go_ret
  exact ⟨_, rfl, ht, rfl⟩
set_option maxHeartbeats 400000 in
theorem sized109 (x : Pc) (hn : x.n < 256) :
    Calls Try.prog 109 #[.agg (encPc x).toArray] w fun e w' => e = .returned (.bool (if x.k + 1 < x.n then x.z == 57 else decide (x.z ≤ 57))) ∧ Below w.heap.size w w' := by
  have b0 := blk_new w (encPc x) 141
  have q2 : (w.alloc (.cells (encPc x).toArray 141)).cell? ⟨w.heap.size, 2, none⟩ = some (.int .i64 (x.k : Int)) := b0.cell 2
  have q3 : (w.alloc (.cells (encPc x).toArray 141)).cell? ⟨w.heap.size, 3, none⟩ = some (.int .i64 (x.n : Int)) := b0.cell 3
  have q4 : (w.alloc (.cells (encPc x).toArray 141)).cell? ⟨w.heap.size, 4, none⟩ = some (.int .i64 (x.z : Int)) := b0.cell 4
  clear b0
  have B0 := al w (.cells (encPc x).toArray 141)
  generalize encPc x = cx at *
  by_cases h : x.k + 1 < x.n
  · have h1 : (x.k : Int) < (x.n : Int) - 1 := by omega
    rw [if_pos h]
    generalize x.k = k at *
    generalize x.n = n at *
    go_enter Try.func109, Try.ntmps109
    go_wp2
    go_ret
    refine ⟨?_, B0⟩
    show Ending.returned (Value.bool _) = _
    congr 2
    rw [Bool.eq_iff_iff]
    simp
    try omega
  · have h1 : ¬ (x.k : Int) < (x.n : Int) - 1 := by omega
    rw [if_neg h]
    generalize x.k = k at *
    generalize x.n = n at *
    go_enter Try.func109, Try.ntmps109
    go_wp2
    go_ret
    refine ⟨?_, B0⟩
    show Ending.returned (Value.bool _) = _
    congr 2
    rw [Bool.eq_iff_iff]
    simp
    try omega
end Go.Proofs.Ytnganmekiloigaa
