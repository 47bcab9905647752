/- standing. -/
import Derived.Test.YtnganmekiloigaaJn
import Derived.Laws.StructEq
import Derived.LaidEql
namespace Go.Proofs.Ytnganmekiloigaa
open Go.RowKit
set_option maxRecDepth 100000
variable {w w' : World} {H L : List Pc}

theorem cellsB_flat (l : Bs) : l.flatMap (fun b => [Value.int .u8 (b.toNat : Int)]) = cellsB l := by induction l with
  | nil => rfl
  | cons x l ih => rw [List.flatMap_cons, ih]; rfl
def EB : Ety UInt8 := ⟨1, fun b => [.int .u8 (b.toNat : Int)], 5, 33, .int .u8 0, 1, fun _ => rfl, fun x u hu => by simp at hu; subst hu; rfl, Try.underlying33, info5z, rfl, by decide, by decide⟩
theorem EB_cells (l : Bs) : EB.cells l = cellsB l := cellsB_flat l
/-- A piece that a sector may say. -/
structure Pc.Ok (x : Pc) : Prop where
  e : x.e < 65536
  p : x.p < 65536
  k : x.k < 256
  n : x.n < 256
  z : x.z < 256
  b : x.b.length = 57
theorem pcOf_ok {s : Bs} (h : s.length = 64) : (pcOf s).Ok := ⟨by have := u8_lt s 0; have := u8_lt s 1; simp only [pcOf]; omega, by have := u8_lt s 2; have := u8_lt s 3; simp only [pcOf]; omega, u8_lt _ _, u8_lt _ _, u8_lt _ _, by simp [pcOf, h]⟩

theorem eqInt (d : Nat) (x y : Int) (w : World) : (Op.equalIn (d + 1) 3 (.int .i64 x) (.int .i64 y)).run Try.prog w = .ok (x == y) w := run_equalIn_int w d 3 .i64 .i64 x y Try.underlying3
theorem neq138 (a b : Pc) (w : World) : (binOp .neq 138 (.agg (headC a).toArray) (.agg (headC b).toArray)).run Try.prog w = .ok (.bool (!(a.e == b.e && a.p == b.p && a.k == b.k && a.n == b.n))) w := by
  have h1 : Try.prog.underlying 138 = some (.struct (Try.prog.fieldsOf 138)) := by kernel_rfl
  have h2 : Try.prog.stoodInHeld 138 = false := by kernel_rfl
  unfold headC
  rw [run_neq_struct, show (10000 : Nat) = 9999 + 1 from rfl, run_equalIn_struct _ _ _ _ _ h1 h2]
  have hf : (Try.prog.fieldsOf 138) = (match Try.prog.underlying 138 with | some (.struct fs) => fs | _ => #[]) := rfl
  rw [hf, Try.underlying138]
  clear hf h1 h2
  have hi := fun x y => eqInt 9998 x y
  by_cases c1 : a.e = b.e <;> by_cases c2 : a.p = b.p <;> by_cases c3 : a.k = b.k <;> by_cases c4 : a.n = b.n <;> simp [go_sem, hi, c1, c2, c3, c4, Int.ofNat_inj]
theorem grd138 (x y : Operand) (a b : Pc) (w : World) : (eqGuard .neq 138 x y (.agg (headC a).toArray) (.agg (headC b).toArray)).run Try.prog w = .ok () w := run_eqGuard_agg w _ _ _ _ _ _ (by kernel_rfl)
theorem info117z : (Try.prog.info? 117).map (fun i => (i.zero, i.size, i.bytes)) = some (some (.agg #[.int .i64 0, .int .i64 0, .slice none 0 0]), 3, 40) := by kernel_rfl
theorem info138z : (Try.prog.info? 138).map (fun i => (i.zero, i.size, i.bytes)) = some (some (.agg (headC zPc).toArray), 4, 32) := by kernel_rfl
theorem info117s : (Try.prog.info? 117).map (·.size) = some 3 := by kernel_rfl

def noR : List Value := [.int .i64 0, .int .i64 0, .slice none 0 0]
def SPost (w : World) (o : Option Rc) (e : Ending) (w' : World) : Prop := Below w.heap.size w w' ∧
  match o with
  | none => e = .returned (.tuple #[.agg noR.toArray, .bool false])
  | some r => ∃ u, e = .returned (.tuple #[.agg #[.int .i64 (r.e : Int), .int .i64 (r.n : Int), u], .bool true]) ∧ RW EB w.heap.size w' u r.b
theorem und117 : ∃ d, Try.prog.underlying 117 = some d ∧ d.isRow = true := ⟨_, Try.underlying117, rfl⟩
theorem stand_none1 {p : Nat} (h : H.length ≤ p) : standP H p = none := by unfold standP; rw [List.getElem?_eq_none h]
theorem stand_none2 {p : Nat} {f : Pc} (hf : H[p]? = some f) (h : f.e = 0 ∨ f.n < 1 ∨ min 64 (H.length - p) < f.n) : standP H p = none := by unfold standP; rw [hf]; simp only; rw [if_pos h]
theorem stand_none3 {p i : Nat} {f : Pc} (hf : H[p]? = some f) (hi : i < f.n) (hd : due H p f i = false) : standP H p = none := by
  unfold standP; rw [hf]; simp only
  split
  · rfl
  · rw [if_neg]
    intro h
    have := List.all_eq_true.1 h i (List.mem_range.2 hi)
    rw [hd] at this
    cases this
theorem ret100 {tmps : Array Value} {W : World} {b : Nat} {l : List Value} {bv : Value} (hb : Blk W b l 117) (hl : l.length = 3) (ht : tmps.getD 4 undef = .pointer (some ⟨b, 0, none⟩)) (hu : tmps.getD 5 undef = bv) : (results Try.f100 tmps).run Try.prog W = .ok (.tuple #[.agg l.toArray, bv]) W := by
  rw [← hu]
  exact results_cell2 (fn := Try.f100) (t := 4) (u := 5) (ty := 117) rfl _ _ _ _ _ _ hb ht _ Try.underlying117 rfl (by rw [hl]; exact info117s)
set_option maxHeartbeats 1000000 in
theorem standing_far {v : Value} (hv : ∃ a c, v = .slice a H.length c) (p : Nat) (hp : H.length ≤ p) : Calls Try.prog 100 #[v, .int .i64 (p : Int)] w (SPost w none) := by
  obtain ⟨a, c, rfl⟩ := hv
  have h1 : (H.length : Int) ≤ (p : Int) := by omega
  have h2 : ¬ ((p : Int) < (H.length : Int)) := by omega
  generalize H.length = n at *
  have hzi := info117z
  rw [show (#[.int .i64 0, .int .i64 0, .slice none 0 0] : Array Value) = noR.toArray from rfl] at hzi
  have hl0 : noR.length = 3 := rfl
  have ho0 : ∀ u ∈ noR, u.oneCell' = true := by simp [noR, Value.oneCell']
  have hbd : Try.prog.built 117 [] = some noR.toArray := by kernel_rfl
  generalize hz0 : noR = z0 at *
  have HZ : Hid (noR = z0) := hz0
  clear hz0
  go_enter Try.func100, Try.ntmps100
  go_wp2_with (first
    | (refine wpList_alloc_row rfl 117 rfl z0 hzi ?_; intro w1 b1 k1 s1)
    | (refine wpList_build rfl 117 _ rfl #[] (by simp) _ hbd ?_)
    | (refine wpList_store_whole rfl 117 (.tmp 4) (.tmp 15) rfl w.heap.size z0 rfl rfl z0 117 b1 rfl (by rw [hl0]; exact info117s) ho0 ?_; intro w2 b2 k2 s2))
  refine bodyPost_ret (v := .tuple #[.agg z0.toArray, .bool false]) (ret100 b2 hl0 rfl rfl) rfl ⟨kbel k1 k2 (Nat.le_refl _) (Nat.le_refl _), ?_⟩
  show _ = Ending.returned (.tuple #[.agg noR.toArray, .bool false])
  rw [HZ.out]

set_option maxHeartbeats 1000000 in
theorem standing_no {v : Value} (hv : LV EPc w v H) (hH : H.length ≤ 64) (p : Nat) {f : Pc} (hf : H[p]? = some f) (hok : f.Ok) (h : f.e = 0 ∨ f.n < 1 ∨ min 64 (H.length - p) < f.n) : Calls Try.prog 100 #[v, .int .i64 (p : Int)] w (SPost w none) := by
  have hp := (List.getElem?_eq_some_iff.1 hf).1
  obtain ⟨g, o, c, rfl, hc⟩ := hv.some (by omega)
  obtain ⟨g', o', he, hr⟩ := hv.at hf
  simp only [Option.some.injEq, Addr.mk.injEq, and_true] at he
  obtain ⟨rfl, rfl⟩ := he
  have h1 : (p : Int) < (H.length : Int) := by omega
  have h2 : (0 : Int) ≤ (p : Int) := by omega
  have HR : Hid (∀ W, Below w.heap.size w W → W.rangeAt g (o + p * 62) (headC f)) := fun W k => by
    intro j u hu
    have hj := (List.getElem?_eq_some_iff.1 hu).1
    obtain ⟨g', o', he, hr⟩ := (hv.below k).at hf
    simp only [Option.some.injEq, Addr.mk.injEq, and_true] at he
    obtain ⟨rfl, rfl⟩ := he
    refine (hr j (by simp [headC] at hj; show j < 62; omega)).trans ?_
    show (encPc f)[j]? = _
    unfold encPc
    rw [List.getElem?_append_left hj]
    exact hu
  clear hr
  have hfe := hok.e
  have hfn := hok.n
  have hzi := info117z
  rw [show (#[.int .i64 0, .int .i64 0, .slice none 0 0] : Array Value) = noR.toArray from rfl] at hzi
  have hl0 : noR.length = 3 := rfl
  have ho0 : ∀ u ∈ noR, u.oneCell' = true := by simp [noR, Value.oneCell']
  have hbd : Try.prog.built 117 [] = some noR.toArray := by kernel_rfl
  generalize hz0 : noR = z0 at *
  have HZ : Hid (noR = z0) := hz0
  clear hz0 hv hok
  have hyi := info138z
  have hyl : (headC zPc).length = 4 := rfl
  have hfl : (headC f).length = 4 := rfl
  have hfo : ∀ u ∈ headC f, u.oneCell' = true := by simp [headC, Value.oneCell']
  have HX : Hid (∀ W b, Blk W b (headC f) 138 → W.cell? ⟨b, 0, none⟩ = some (.int .i64 (f.e : Int)) ∧ W.cell? ⟨b, 3, none⟩ = some (.int .i64 (f.n : Int))) := fun W b h => ⟨h.cell 0, h.cell 3⟩
  generalize headC zPc = y0 at *
  generalize headC f = hc0 at *
  generalize H.length = n at *
  have h64 : (n : Int) - (p : Int) ≤ 64 := by omega
  by_cases c1 : f.e = 0
  · have c1' : (f.e : Int) = 0 := by omega
    generalize f.e = fe at *
    go_enter Try.func100, Try.ntmps100
    go_wp2_with (first
      | ((with_reducible show wpList _ _ _ ({ dst := _, op := .alloc 117, type := _, pos := _, after := _, guard := none } :: _) _ _); refine wpList_alloc_row rfl 117 rfl z0 hzi ?_; intro w1 b1 k1 s1; have hr := HR.out _ k1; have S1 : Hid (w1.heap.size = w.heap.size + 1) := s1; clear s1)
      | ((with_reducible show wpList _ _ _ ({ dst := _, op := .load 138 _, type := _, pos := _, after := _, guard := none } :: _) _ _); refine wpList_load_mid rfl 138 (.tmp 19) rfl g (o + p * 62) rfl hc0 _ hr Try.underlying138 rfl (by rw [hfl]; exact info138s) ?_)
      | ((with_reducible show wpList _ _ _ ({ dst := _, op := .alloc 138, type := _, pos := _, after := _, guard := none } :: _) _ _); refine wpList_alloc_row rfl 138 rfl y0 hyi ?_; intro w2 b2 k2 s2; have S2 : Hid (w2.heap.size = w1.heap.size + 1) := s2; clear s2)
      | ((with_reducible show wpList _ _ _ ({ dst := _, op := .store 138 _ _, type := _, pos := _, after := _, guard := none } :: _) _ _); refine wpList_store_whole rfl 138 (.tmp 6) (.tmp 20) rfl w1.heap.size hc0 rfl rfl y0 138 b2 (by omega) (by rw [hfl]; exact info138s) hfo ?_; intro w3 b3 k3 s3; clear s3; obtain ⟨q0, q3⟩ := HX.out _ _ b3; have b4 : Blk w3 w.heap.size z0 117 := (b1.below k2).block (k3.block _ (by have := S1.out; have := S2.out; omega) (by have := S1.out; omega)); have k5 : Below w.heap.size w w3 := kbel (bmore k1 k2) k3 (by have := S1.out; omega) (Nat.le_refl _))
      | ((with_reducible show wpList _ _ _ ({ dst := _, op := .build 117 _, type := _, pos := _, after := _, guard := none } :: _) _ _); refine wpList_build rfl 117 _ rfl #[] (by simp) _ hbd ?_)
      | ((with_reducible show wpList _ _ _ ({ dst := _, op := .store 117 _ _, type := _, pos := _, after := _, guard := none } :: _) _ _); refine wpList_store_whole rfl 117 (.tmp 4) (.tmp 39) rfl w.heap.size z0 rfl rfl z0 117 b4 rfl (by rw [hl0]; exact info117s) ho0 ?_; intro w6 b6 k6 s6))
    all_goals (refine bodyPost_ret (v := .tuple #[.agg z0.toArray, .bool false]) (ret100 b6 hl0 rfl rfl) rfl ⟨kbel k5 k6 (Nat.le_refl _) (Nat.le_refl _), ?_⟩; show _ = Ending.returned (.tuple #[.agg noR.toArray, .bool false]); rw [HZ.out])
  have c1' : ¬ (f.e : Int) = 0 := by omega
  by_cases c2 : f.n < 1
  · have c2' : (f.n : Int) < 1 := by omega
    generalize f.e = fe at *
    generalize f.n = fn at *
    go_enter Try.func100, Try.ntmps100
    go_wp2_with (first
      | ((with_reducible show wpList _ _ _ ({ dst := _, op := .alloc 117, type := _, pos := _, after := _, guard := none } :: _) _ _); refine wpList_alloc_row rfl 117 rfl z0 hzi ?_; intro w1 b1 k1 s1; have hr := HR.out _ k1; have S1 : Hid (w1.heap.size = w.heap.size + 1) := s1; clear s1)
      | ((with_reducible show wpList _ _ _ ({ dst := _, op := .load 138 _, type := _, pos := _, after := _, guard := none } :: _) _ _); refine wpList_load_mid rfl 138 (.tmp 19) rfl g (o + p * 62) rfl hc0 _ hr Try.underlying138 rfl (by rw [hfl]; exact info138s) ?_)
      | ((with_reducible show wpList _ _ _ ({ dst := _, op := .alloc 138, type := _, pos := _, after := _, guard := none } :: _) _ _); refine wpList_alloc_row rfl 138 rfl y0 hyi ?_; intro w2 b2 k2 s2; have S2 : Hid (w2.heap.size = w1.heap.size + 1) := s2; clear s2)
      | ((with_reducible show wpList _ _ _ ({ dst := _, op := .store 138 _ _, type := _, pos := _, after := _, guard := none } :: _) _ _); refine wpList_store_whole rfl 138 (.tmp 6) (.tmp 20) rfl w1.heap.size hc0 rfl rfl y0 138 b2 (by omega) (by rw [hfl]; exact info138s) hfo ?_; intro w3 b3 k3 s3; clear s3; obtain ⟨q0, q3⟩ := HX.out _ _ b3; have b4 : Blk w3 w.heap.size z0 117 := (b1.below k2).block (k3.block _ (by have := S1.out; have := S2.out; omega) (by have := S1.out; omega)); have k5 : Below w.heap.size w w3 := kbel (bmore k1 k2) k3 (by have := S1.out; omega) (Nat.le_refl _))
      | ((with_reducible show wpList _ _ _ ({ dst := _, op := .build 117 _, type := _, pos := _, after := _, guard := none } :: _) _ _); refine wpList_build rfl 117 _ rfl #[] (by simp) _ hbd ?_)
      | ((with_reducible show wpList _ _ _ ({ dst := _, op := .store 117 _ _, type := _, pos := _, after := _, guard := none } :: _) _ _); refine wpList_store_whole rfl 117 (.tmp 4) (.tmp 39) rfl w.heap.size z0 rfl rfl z0 117 b4 rfl (by rw [hl0]; exact info117s) ho0 ?_; intro w6 b6 k6 s6))
    all_goals (refine bodyPost_ret (v := .tuple #[.agg z0.toArray, .bool false]) (ret100 b6 hl0 rfl rfl) rfl ⟨kbel k5 k6 (Nat.le_refl _) (Nat.le_refl _), ?_⟩; show _ = Ending.returned (.tuple #[.agg noR.toArray, .bool false]); rw [HZ.out])
  · have c2' : ¬ (f.n : Int) < 1 := by omega
    have c3' : (n : Int) - (p : Int) < (f.n : Int) := by omega
    have c4 : ¬ (64 : Int) < (n : Int) - (p : Int) := by omega
    generalize f.e = fe at *
    generalize f.n = fn at *
    go_enter Try.func100, Try.ntmps100
    go_wp2_with (first
      | ((with_reducible show wpList _ _ _ ({ dst := _, op := .alloc 117, type := _, pos := _, after := _, guard := none } :: _) _ _); refine wpList_alloc_row rfl 117 rfl z0 hzi ?_; intro w1 b1 k1 s1; have hr := HR.out _ k1; have S1 : Hid (w1.heap.size = w.heap.size + 1) := s1; clear s1)
      | ((with_reducible show wpList _ _ _ ({ dst := _, op := .load 138 _, type := _, pos := _, after := _, guard := none } :: _) _ _); refine wpList_load_mid rfl 138 (.tmp 19) rfl g (o + p * 62) rfl hc0 _ hr Try.underlying138 rfl (by rw [hfl]; exact info138s) ?_)
      | ((with_reducible show wpList _ _ _ ({ dst := _, op := .alloc 138, type := _, pos := _, after := _, guard := none } :: _) _ _); refine wpList_alloc_row rfl 138 rfl y0 hyi ?_; intro w2 b2 k2 s2; have S2 : Hid (w2.heap.size = w1.heap.size + 1) := s2; clear s2)
      | ((with_reducible show wpList _ _ _ ({ dst := _, op := .store 138 _ _, type := _, pos := _, after := _, guard := none } :: _) _ _); refine wpList_store_whole rfl 138 (.tmp 6) (.tmp 20) rfl w1.heap.size hc0 rfl rfl y0 138 b2 (by omega) (by rw [hfl]; exact info138s) hfo ?_; intro w3 b3 k3 s3; clear s3; obtain ⟨q0, q3⟩ := HX.out _ _ b3; have b4 : Blk w3 w.heap.size z0 117 := (b1.below k2).block (k3.block _ (by have := S1.out; have := S2.out; omega) (by have := S1.out; omega)); have k5 : Below w.heap.size w w3 := kbel (bmore k1 k2) k3 (by have := S1.out; omega) (Nat.le_refl _))
      | ((with_reducible show wpList _ _ _ ({ dst := _, op := .build 117 _, type := _, pos := _, after := _, guard := none } :: _) _ _); refine wpList_build rfl 117 _ rfl #[] (by simp) _ hbd ?_)
      | ((with_reducible show wpList _ _ _ ({ dst := _, op := .store 117 _ _, type := _, pos := _, after := _, guard := none } :: _) _ _); refine wpList_store_whole rfl 117 (.tmp 4) (.tmp 39) rfl w.heap.size z0 rfl rfl z0 117 b4 rfl (by rw [hl0]; exact info117s) ho0 ?_; intro w6 b6 k6 s6))
    all_goals (refine bodyPost_ret (v := .tuple #[.agg z0.toArray, .bool false]) (ret100 b6 hl0 rfl rfl) rfl ⟨kbel k5 k6 (Nat.le_refl _) (Nat.le_refl _), ?_⟩; show _ = Ending.returned (.tuple #[.agg noR.toArray, .bool false]); rw [HZ.out])
end Go.Proofs.Ytnganmekiloigaa
