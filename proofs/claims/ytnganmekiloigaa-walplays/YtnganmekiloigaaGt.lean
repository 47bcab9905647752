/- standing: the pieces one by one. -/
import Derived.Test.YtnganmekiloigaaGs
namespace Go.Proofs.Ytnganmekiloigaa
open Go.RowKit
set_option maxRecDepth 100000
variable {w w' : World} {H L : List Pc}

theorem wpList_load_g {P : Program} {ops : Array Oper} {rest : List Oper} {o : Oper} {a : Act} {w : World} {Q : Exit → Act → World → Prop} (hw : Region.wanted o (yielded ops a.tmps) = true) (ty : TypeId) (x : Operand) (ho : o.op = .load ty x)
    (b i : Nat) (hx : a.eval x = .pointer (some ⟨b, i, none⟩)) (cs : List Value) (d : TypeDesc) (hc : w.rangeAt b i cs)
    (hu : P.underlying ty = some d) (hd : d.isRow = true) (hi : (P.info? ty).map (·.size) = some cs.length)
    (h : wpList P ops Q rest (a.put o.dst (.agg cs.toArray)) w) : wpList P ops Q (o :: rest) a w := by
  refine wpList_step fun K hK => ?_
  rw [if_pos hw]
  exact wp_load_mid ty x ho b i hx cs d hc hu hd hi (hK _ _ h)
theorem RW.lower {α : Type} {E : Ety α} {B B' : Nat} {u : Value} {L : List α} (h : RW E B w u L) (hB : B' ≤ B) : RW E B' w u L := by
  obtain ⟨h1, h2 | ⟨g, cap, cur, rfl, h3, h4⟩⟩ := h
  · exact ⟨h1, .inl h2⟩
  · exact ⟨h1, .inr ⟨g, cap, cur, rfl, Nat.le_trans hB h3, h4⟩⟩
/-- The bytes of the first pieces. -/
def bytesP (H : List Pc) (p m : Nat) : Bs := (List.range m).flatMap fun i => bytesAt H (p + i)
theorem bytesP_succ (H : List Pc) (p m : Nat) {x : Pc} (hx : H[p + m]? = some x) : bytesP H p (m + 1) = bytesP H p m ++ x.b.take x.z := by
  simp [bytesP, List.range_succ, bytesAt, hx]
theorem bytesP_len (H : List Pc) (p m : Nat) (h : ∀ y ∈ H, y.b.length = 57) : (bytesP H p m).length ≤ m * 57 := by
  induction m with
  | zero => simp [bytesP]
  | succ m ih =>
    have : bytesP H p (m + 1) = bytesP H p m ++ bytesAt H (p + m) := by simp [bytesP, List.range_succ]
    rw [this, List.length_append]
    have h2 : (bytesAt H (p + m)).length ≤ 57 := by
      unfold bytesAt
      split
      · simp
      · rename_i y hy
        rw [List.length_take, h y (List.mem_of_getElem? hy)]; omega
    omega
theorem due_eq {p m : Nat} {f x : Pc} (hx : H[p + m]? = some x) : due H p f m = ((x.e == f.e && x.p == p + m && x.k == m && x.n == f.n) && (if m + 1 < f.n then x.z == 57 else decide (x.z ≤ 57))) := by
  unfold due; rw [hx]
theorem due_sized {p m : Nat} {f x : Pc} (hx : H[p + m]? = some x) (h : (x.e == f.e && x.p == p + m && x.k == m && x.n == f.n) = true) : due H p f m = (if x.k + 1 < x.n then x.z == 57 else decide (x.z ≤ 57)) := by
  rw [due_eq hx, h, Bool.true_and]
  simp only [Bool.and_eq_true, beq_iff_eq] at h
  rw [h.1.2, h.2]
def dueH (f : Pc) (p m : Nat) : Pc := ⟨f.e, p + m, m, f.n, 0, []⟩

theorem lv_bytes {W : World} {b : Nat} {x : Pc} (h : Blk W b (encPc x) 141) (hz : x.z ≤ 57) (hb : x.b.length = 57) : LV EB W (.slice (some ⟨b, 5, none⟩) x.z 57) (x.b.take x.z) := by
  have hlt : (x.b.take x.z).length = x.z := by rw [List.length_take, hb]; omega
  refine ⟨_, 57, by rw [hlt], by rw [hlt]; exact hz, fun _ => ⟨b, 5, _, _, rfl, h.blw, fun j u hu => ?_⟩⟩
  rw [EB_cells] at hu
  have hj := (List.getElem?_eq_some_iff.1 hu).1
  rw [cellsB_length, hlt] at hj
  have e : encPc x = (headC x ++ [Value.int .i64 (x.z : Int)]) ++ cellsB (fix57 x.b) := by simp [encPc]
  have e5 : (headC x ++ [Value.int .i64 (x.z : Int)]).length = 5 := by simp [headC]
  rw [e, List.getElem?_append_right (by omega), fix57_eq hb, e5, Nat.add_sub_cancel_left, cellsB_get _ _ (by omega), ← hu, cellsB_get _ _ (by omega)]
  simp [List.getD_eq_getElem?_getD, hj]
set_option maxHeartbeats 2000000 in
theorem standing_go {v : Value} (hv : LV EPc w v H) (hH : H.length ≤ 64) (p : Nat) {f : Pc} (hf : H[p]? = some f) (hok : ∀ x ∈ H, x.Ok) (h : ¬ (f.e = 0 ∨ f.n < 1 ∨ min 64 (H.length - p) < f.n)) : Calls Try.prog 100 #[v, .int .i64 (p : Int)] w (SPost w (standP H p)) := by
  have hp := (List.getElem?_eq_some_iff.1 hf).1
  obtain ⟨g, o, c, rfl, hc⟩ := hv.some (by omega)
  have h1 : (p : Int) < (H.length : Int) := by omega
  have h2 : (0 : Int) ≤ (p : Int) := by omega
  have HR : Hid (∀ W m x, Below w.heap.size w W → H[p + m]? = some x → W.rangeAt g (o + p * 62 + m * 62) (encPc x)) := fun W m x k hx => by
    obtain ⟨g', o', he, hr⟩ := (hv.below k).rng hx
    simp only [Option.some.injEq, Addr.mk.injEq, and_true] at he
    obtain ⟨rfl, rfl⟩ := he
    rw [show o + p * 62 + m * 62 = o + (p + m) * 62 by omega]
    exact hr
  have HR0 : Hid (∀ W, Below w.heap.size w W → W.rangeAt g (o + p * 62) (headC f)) := fun W k => by
    intro j u hu
    have hj := (List.getElem?_eq_some_iff.1 hu).1
    have := HR.out W 0 f k hf j u (by unfold encPc; rw [List.getElem?_append_left hj]; exact hu)
    simpa using this
  have hfo := hok f (List.mem_of_getElem? hf)
  have hfe := hfo.e
  have hfn := hfo.n
  have HO : Hid (∀ m x, H[p + m]? = some x → x.Ok) := fun m x hx => hok x (List.mem_of_getElem? hx)
  have HG : Hid (∀ m, m < f.n → ∃ x, H[p + m]? = some x) := fun m hm => ⟨_, List.getElem?_eq_getElem (by omega)⟩
  have HNO : Hid (∀ m, m < f.n → due H p f m = false → standP H p = none) := fun m hm hd => stand_none3 hf hm hd
  have HYES : Hid ((∀ m, m < f.n → due H p f m = true) → standP H p = some ⟨f.e, f.n, bytesP H p f.n⟩) := fun hd => stand_of hf (by omega) (by omega) (by omega) (by omega) hd
  have HB : Hid (∀ m x, H[p + m]? = some x → bytesP H p (m + 1) = bytesP H p m ++ x.b.take x.z) := fun m x hx => bytesP_succ H p m hx
  have HD : Hid (∀ m x, H[p + m]? = some x → (x.e == f.e && x.p == p + m && x.k == m && x.n == f.n) = true → due H p f m = (if x.k + 1 < x.n then x.z == 57 else decide (x.z ≤ 57))) := fun m x hx => due_sized hx
  have HFW : Hid (∀ m x, H[p + m]? = some x → m ≤ 64 → (bytesP H p m).length + (x.b.take x.z).length ≤ 100000) := fun m x hx hm => by
    have h1 := bytesP_len H p m
    have h2 : (x.b.take x.z).length ≤ 57 := by rw [List.length_take, (hok x (List.mem_of_getElem? hx)).b]; omega
    have h3 := h1 (fun y hy => (hok y hy).b)
    omega
  have HD2 : Hid (∀ m x, H[p + m]? = some x → (x.e == f.e && x.p == p + m && x.k == m && x.n == f.n) = false → due H p f m = false) := fun m x hx hq => by rw [due_eq hx, hq, Bool.false_and]
  have hzi := info117z
  rw [show (#[.int .i64 0, .int .i64 0, .slice none 0 0] : Array Value) = noR.toArray from rfl] at hzi
  have hl0 : noR.length = 3 := rfl
  have ho0 : ∀ u ∈ noR, u.oneCell' = true := by simp [noR, Value.oneCell']
  have hbd : Try.prog.built 117 [] = some noR.toArray := by kernel_rfl
  generalize hz0 : noR = z0 at *
  have HZ : Hid (noR = z0) := hz0
  clear hz0 hv hok hfo hf
  have hyi := info138z
  have hyl : (headC zPc).length = 4 := rfl
  have hfl : (headC f).length = 4 := rfl
  have hfo : ∀ u ∈ headC f, u.oneCell' = true := by simp [headC, Value.oneCell']
  have HX : Hid (∀ W b, Blk W b (headC f) 138 → W.cell? ⟨b, 0, none⟩ = some (.int .i64 (f.e : Int)) ∧ W.cell? ⟨b, 3, none⟩ = some (.int .i64 (f.n : Int))) := fun W b h => ⟨h.cell 0, h.cell 3⟩
  generalize headC zPc = y0 at *
  have hpl : (encPc zPc).length = 62 := encPc_length _
  have hpi := info141a
  generalize encPc zPc = e0 at *
  generalize hhc0 : headC f = hc0 at *
  have HHC : Hid (headC f = hc0) := hhc0
  clear hhc0
  generalize hN : f.n = N at *
  have HN : Hid (f.n = N) := hN
  generalize hF : f.e = F at *
  have HF : Hid (f.e = F) := hF
  generalize H.length = n at *
  clear hN hF
  have c1' : ¬ (F : Int) = 0 := by omega
  have c1b : ((F : Int) == 0) = false := by simpa using c1'
  have c3b : decide ((n : Int) - (p : Int) < (N : Int)) = false := by simp; omega
  have c9 : (if (n : Int) - (p : Int) < 64 then (n : Int) - (p : Int) else 64) = (n : Int) - (p : Int) := by split <;> omega
  have c2' : ¬ (N : Int) < 1 := by omega
  have c3' : ¬ ((n : Int) - (p : Int) < (N : Int)) := by omega
  have c4' : ¬ ((64 : Int) < (N : Int)) := by omega
  have c5 : (p : Int) ≤ (p : Int) + (N : Int) := by omega
  have c6 : (p : Int) + (N : Int) ≤ (c : Int) := by omega
  have c7 : ¬ c = p := by omega
  have c8 : p + N ≤ c := by omega
  go_enter Try.func100, Try.ntmps100
  go_wp2_with (first
      | ((with_reducible show wpList _ _ _ ({ dst := _, op := .alloc 117, type := _, pos := _, after := _, guard := none } :: _) _ _); refine wpList_alloc_row rfl 117 rfl z0 hzi ?_; first
        | (intro w4 b4 k4 s4; have S4 : Hid (w4.heap.size = w3.heap.size + 1) := s4; clear s4; have r4 : Blk w4 w1.heap.size hc0 138 := b3.below k4; have a4 : Blk w4 w.heap.size z0 117 := a3.below k4; have q4 : Below w.heap.size w w4 := bmore q3 k4)
        | (intro w1 b1 k1 s1; have hr := HR0.out _ k1; have S1 : Hid (w1.heap.size = w.heap.size + 1) := s1; clear s1))
      | ((with_reducible show wpList _ _ _ ({ dst := _, op := .load 138 _, type := _, pos := _, after := _, guard := none } :: _) _ _); refine wpList_load_mid rfl 138 (.tmp 19) rfl g (o + p * 62) rfl hc0 _ hr Try.underlying138 rfl (by rw [hfl]; exact info138s) ?_)
      | ((with_reducible show wpList _ _ _ ({ dst := _, op := .alloc 138, type := _, pos := _, after := _, guard := none } :: _) _ _); refine wpList_alloc_row rfl 138 rfl y0 hyi ?_; intro w2 b2 k2 s2; have S2 : Hid (w2.heap.size = w1.heap.size + 1) := s2; clear s2)
      | ((with_reducible show wpList _ _ _ ({ dst := _, op := .store 138 _ _, type := _, pos := _, after := _, guard := none } :: _) _ _); refine wpList_store_whole rfl 138 (.tmp 6) (.tmp 20) rfl w1.heap.size hc0 rfl rfl y0 138 b2 (by omega) (by rw [hfl]; exact info138s) hfo ?_; intro w3 b3 k3 s3; have S3 : Hid (w3.heap.size = w2.heap.size) := s3; clear s3; obtain ⟨x0, x3⟩ := HX.out _ _ b3; have a3 : Blk w3 w.heap.size z0 117 := (b1.below k2).block (k3.block _ (by have := S1.out; have := S2.out; omega) (by have := S1.out; omega)); have q3 : Below w.heap.size w w3 := kbel (bmore k1 k2) k3 (by have := S1.out; omega) (Nat.le_refl _))
      | ((with_reducible show wpList _ _ _ ({ dst := _, op := .store 117 _ _, type := _, pos := _, after := _, guard := none } :: _) _ _); refine wpList_store_whole rfl 117 (.tmp 7) (.tmp 44) rfl w3.heap.size [.int .i64 (F : Int), .int .i64 (N : Int), .slice none 0 0] rfl rfl z0 117 b4 (by rw [hl0]; rfl) info117s (by simp [Value.oneCell']) ?_; intro w5 b5 k5 s5; have S5 : Hid (w5.heap.size = w4.heap.size) := s5; clear s5; have r5 : Blk w5 w1.heap.size hc0 138 := r4.block (k5.block _ (by have := S1.out; have := S2.out; have := S3.out; have := S4.out; omega) (by have := S2.out; have := S3.out; omega)); have a5 : Blk w5 w.heap.size z0 117 := a4.block (k5.block _ (by have := S1.out; have := S2.out; have := S3.out; have := S4.out; omega) (by have := S1.out; have := S2.out; have := S3.out; omega)); have q5 : Below w.heap.size w w5 := kbel q4 k5 (by have := S1.out; have := S2.out; have := S3.out; omega) (Nat.le_refl _); have x5 := (HX.out _ _ r5).2))
  have HSZ : Hid (w1.heap.size = w.heap.size + 1 ∧ w3.heap.size = w.heap.size + 2 ∧ w5.heap.size = w.heap.size + 3) := ⟨S1.out, by have := S1.out; have := S2.out; have := S3.out; omega, by have := S1.out; have := S2.out; have := S3.out; have := S4.out; have := S5.out; omega⟩
  have HR5 : Hid (Blk w5 w1.heap.size hc0 138) := r5
  have HA5 : Hid (Blk w5 w.heap.size z0 117) := a5
  have HB5 : Hid (Blk w5 w3.heap.size [.int .i64 (F : Int), .int .i64 (N : Int), .slice none 0 0] 117) := b5
  generalize hA1 : w1.heap.size = A1 at *
  generalize hA3 : w3.heap.size = A3 at *
  clear x5 b1 b2 b3 b4 b5 k1 k2 k3 k4 k5 r4 r5 a3 a4 a5 q3 q4 hr x0 x3 S1 S2 S3 S4 S5 hA1 hA3 HR0
  go_loopw [53] (fun q wr => ∃ (m : Nat) (u : Value), m ≤ N ∧ q = .int .i64 (m : Int) ∧ Hid (Blk wr A3 [.int .i64 (F : Int), .int .i64 (N : Int), u] 117) ∧ Hid (Blk wr A1 hc0 138) ∧ Hid (Blk wr w.heap.size z0 117) ∧ Hid (RW EB (w.heap.size + 3) wr u (bytesP H p m)) ∧ Hid (Below w.heap.size w wr) ∧ Hid (w.heap.size + 3 ≤ wr.heap.size) ∧ Hid (∀ j, j < m → due H p f j = true)) (fun q _ => N - (intOf q).toNat)
  case atStart => exact ⟨0, _, by omega, rfl, HB5, HR5, HA5, RW.nil _ _ _, q5, by have := HSZ.out; show _ ≤ _; omega, fun j hj => by omega⟩
  case round =>
    obtain ⟨m, u, hm, rfl, I3, I1, I0, IU, IB, IS, ID⟩ := hrel
    by_cases hlt : m < N
    · have hlt1 : (m : Int) < (N : Int) := by omega
      obtain ⟨x, hx⟩ := HG.out m hlt
      have hr := HR.out _ m x IB.out hx
      have xok := HO.out m x hx
      have hxl := encPc_length x
      have hxo := encPc_one x
      have hx4 : (headC x).length = 4 := rfl
      have HEX : Hid (∀ W b, Blk W b (encPc x) 141 → W.rangeAt b 0 (headC x) ∧ W.rangeAt b 0 (encPc x) ∧ W.cell? ⟨b, 4, none⟩ = some (.int .i64 (x.z : Int))) := fun W b h => ⟨h.range fun j v hv => by rw [Nat.zero_add]; unfold encPc; rw [List.getElem?_append_left (List.getElem?_eq_some_iff.1 hv).1]; exact hv, h.whole, h.cell 4⟩
      have HLV : Hid (∀ W b, Blk W b (encPc x) 141 → x.z ≤ 57 → LV EB W (.slice (some ⟨b, 5, none⟩) x.z 57) (x.b.take x.z)) := fun W b h hz => lv_bytes h hz xok.b
      have k109 := fun W => sized109 (w := W) x xok.n
      have hxz := xok.z
      have HFEW : Hid ((bytesP H p m).length + (x.b.take x.z).length ≤ 100000) := HFW.out m x hx (by omega)
      have HBm := HB.out m x hx
      have HDm : Hid _ := HD.out m x hx
      have HD2m : Hid _ := HD2.out m x hx
      have HNm : Hid _ := HNO.out m hlt
      obtain ⟨hd0, hhd⟩ : ∃ l : List Value, [.int .i64 (F : Int), .int .i64 ((p : Int) + (m : Int)), .int .i64 (m : Int), .int .i64 (N : Int)] = l := ⟨_, rfl⟩
      have hdq : headC (dueH f p m) = hd0 := by rw [← hhd]; unfold headC dueH; rw [HN.out, HF.out]; simp
      have hq : ∀ W, (binOp .neq 138 (.agg (headC x).toArray) (.agg hd0.toArray)).run Try.prog W = .ok (.bool (!(x.e == F && x.p == p + m && x.k == m && x.n == N))) W := fun W => by rw [← hdq, neq138 x (dueH f p m) W]; simp only [dueH, HF.out, HN.out]
      have hgr : ∀ W a b, (eqGuard .neq 138 a b (.agg (headC x).toArray) (.agg hd0.toArray)).run Try.prog W = .ok () W := fun W a b => by rw [← hdq]; exact grd138 a b x (dueH f p m) W
      have hdl : hd0.length = 4 := by rw [← hhd]; rfl
      have hdo : ∀ u ∈ hd0, u.oneCell' = true := by rw [← hhd]; simp [Value.oneCell']
      have HHD : Hid (.agg [.int .i64 (F : Int), .int .i64 ((p : Int) + (m : Int)), .int .i64 (m : Int), .int .i64 (N : Int)].toArray = Value.agg hd0.toArray) := by show _ = _; rw [hhd]
      clear hdq hhd
      generalize headC x = hx0 at *
      generalize hcx : encPc x = cx at *
      clear hcx
      have c10 : (p : Int) + (m : Int) < 9223372036854775807 := by omega
      obtain ⟨bb, hbb⟩ : ∃ bb, (x.e == F && x.p == p + m && x.k == m && x.n == N) = bb := ⟨_, rfl⟩
      rw [hbb] at hq
      cases bb
      · go_wp2_with (first
          | ((with_reducible show wpList _ _ _ ({ dst := _, op := .load 141 _, type := _, pos := _, after := _, guard := none } :: _) _ _); refine wpList_load_mid rfl 141 (.tmp 56) rfl g (o + p * 62 + m * 62) rfl cx _ hr Try.underlying141 rfl (by rw [hxl]; exact info141s) ?_)
          | ((with_reducible show wpList _ _ _ ({ dst := _, op := .alloc 141, type := _, pos := _, after := _, guard := none } :: _) _ _); refine wpList_alloc_row rfl 141 rfl e0 hpi ?_; intro w6 b6 k6 s6; have S6 : Hid (w6.heap.size = wr.heap.size + 1) := s6; clear s6)
          | ((with_reducible show wpList _ _ _ ({ dst := _, op := .store 141 _ _, type := _, pos := _, after := _, guard := none } :: _) _ _); refine wpList_store_whole rfl 141 (.tmp 9) (.tmp 57) rfl wr.heap.size cx rfl rfl e0 141 b6 (by omega) (by rw [hxl]; exact info141s) hxo ?_; intro w7 b7 k7 s7; have S7 : Hid (w7.heap.size = w6.heap.size) := s7; clear s7; have q7 : Below wr.heap.size wr w7 := kbel k6 k7 (Nat.le_refl _) (Nat.le_refl _); obtain ⟨x0, x3⟩ := HX.out _ _ (I1.out.below q7))
          | ((with_reducible show wpList _ _ _ ({ dst := _, op := .alloc 138, type := _, pos := _, after := _, guard := none } :: _) _ _); refine wpList_alloc_row rfl 138 rfl y0 hyi ?_; intro w8 b8 k8 s8; have S8 : Hid (w8.heap.size = w7.heap.size + 1) := s8; clear s8)
          | ((with_reducible show wpList _ _ _ ({ dst := _, op := .store 138 _ _, type := _, pos := _, after := _, guard := none } :: _) _ _); refine wpList_store_whole rfl 138 (.tmp 10) (.tmp 66) rfl w7.heap.size hd0 rfl HHD.out y0 138 b8 (by omega) (by rw [hdl]; exact info138s) hdo ?_; intro w9 b9 k9 s9; clear s9; have q9 : Below wr.heap.size wr w9 := kbel (bmore q7 k8) k9 (by have := q7.size; omega) (Nat.le_refl _); have b79 : Blk w9 wr.heap.size cx 141 := (b7.below k8).block (k9.block _ (by have := S6.out; have := S7.out; have := S8.out; omega) (by have := S6.out; have := S7.out; omega)); obtain ⟨y1, y2, y3⟩ := HEX.out _ _ b79; have y4 := b9.whole)
          | ((with_reducible show wpList _ _ _ ({ dst := _, op := .load 138 (.tmp 67), type := _, pos := _, after := _, guard := none } :: _) _ _); refine wpList_load_mid rfl 138 (.tmp 67) rfl wr.heap.size 0 rfl hx0 _ y1 Try.underlying138 rfl (by rw [hx4]; exact info138s) ?_)
          | ((with_reducible show wpList _ _ _ ({ dst := _, op := .load 138 (.tmp 10), type := _, pos := _, after := _, guard := none } :: _) _ _); refine wpList_load_mid rfl 138 (.tmp 10) rfl w7.heap.size 0 rfl hd0 _ y4 Try.underlying138 rfl (by rw [hdl]; exact info138s) ?_)
          | ((with_reducible show wpList _ _ _ ({ dst := _, op := .build 117 _, type := _, pos := _, after := _, guard := none } :: _) _ _); refine wpList_build rfl 117 _ rfl #[] (by simp) _ hbd ?_)
          | ((with_reducible show wpList _ _ _ ({ dst := _, op := .store 117 _ _, type := _, pos := _, after := _, guard := none } :: _) _ _); refine wpList_store_whole rfl 117 (.tmp 4) (.tmp 76) rfl w.heap.size z0 rfl rfl z0 117 (I0.out.below q9) rfl (by rw [hl0]; exact info117s) ho0 ?_; intro w10 b10 k10 s10))
        refine bodyPost_ret (v := .tuple #[.agg z0.toArray, .bool false]) (ret100 b10 hl0 rfl rfl) rfl ?_
        rw [HNm.out (HD2m.out hbb)]
        refine ⟨kbel (IB.out.trans (q9.mono IB.out.size)) k10 (Nat.le_refl _) (Nat.le_refl _), ?_⟩
        show _ = Ending.returned (.tuple #[.agg noR.toArray, .bool false])
        rw [HZ.out]
      · obtain ⟨b2, hb2⟩ : ∃ b2, (if x.k + 1 < x.n then x.z == 57 else decide (x.z ≤ 57)) = b2 := ⟨_, rfl⟩
        rw [hb2] at k109
        cases b2
        · go_wp2_with (first
          | ((with_reducible show wpList _ _ _ ({ dst := _, op := .load 141 _, type := _, pos := _, after := _, guard := none } :: _) _ _); refine wpList_load_mid rfl 141 (.tmp 56) rfl g (o + p * 62 + m * 62) rfl cx _ hr Try.underlying141 rfl (by rw [hxl]; exact info141s) ?_)
          | ((with_reducible show wpList _ _ _ ({ dst := _, op := .alloc 141, type := _, pos := _, after := _, guard := none } :: _) _ _); refine wpList_alloc_row rfl 141 rfl e0 hpi ?_; intro w6 b6 k6 s6; have S6 : Hid (w6.heap.size = wr.heap.size + 1) := s6; clear s6)
          | ((with_reducible show wpList _ _ _ ({ dst := _, op := .store 141 _ _, type := _, pos := _, after := _, guard := none } :: _) _ _); refine wpList_store_whole rfl 141 (.tmp 9) (.tmp 57) rfl wr.heap.size cx rfl rfl e0 141 b6 (by omega) (by rw [hxl]; exact info141s) hxo ?_; intro w7 b7 k7 s7; have S7 : Hid (w7.heap.size = w6.heap.size) := s7; clear s7; have q7 : Below wr.heap.size wr w7 := kbel k6 k7 (Nat.le_refl _) (Nat.le_refl _); obtain ⟨x0, x3⟩ := HX.out _ _ (I1.out.below q7))
          | ((with_reducible show wpList _ _ _ ({ dst := _, op := .alloc 138, type := _, pos := _, after := _, guard := none } :: _) _ _); refine wpList_alloc_row rfl 138 rfl y0 hyi ?_; intro w8 b8 k8 s8; have S8 : Hid (w8.heap.size = w7.heap.size + 1) := s8; clear s8)
          | ((with_reducible show wpList _ _ _ ({ dst := _, op := .store 138 _ _, type := _, pos := _, after := _, guard := none } :: _) _ _); refine wpList_store_whole rfl 138 (.tmp 10) (.tmp 66) rfl w7.heap.size hd0 rfl HHD.out y0 138 b8 (by omega) (by rw [hdl]; exact info138s) hdo ?_; intro w9 b9 k9 s9; clear s9; have q9 : Below wr.heap.size wr w9 := kbel (bmore q7 k8) k9 (by have := q7.size; omega) (Nat.le_refl _); have b79 : Blk w9 wr.heap.size cx 141 := (b7.below k8).block (k9.block _ (by have := S6.out; have := S7.out; have := S8.out; omega) (by have := S6.out; have := S7.out; omega)); obtain ⟨y1, y2, y3⟩ := HEX.out _ _ b79; have y4 := b9.whole)
          | ((with_reducible show wpList _ _ _ ({ dst := _, op := .load 138 (.tmp 67), type := _, pos := _, after := _, guard := none } :: _) _ _); refine wpList_load_mid rfl 138 (.tmp 67) rfl wr.heap.size 0 rfl hx0 _ y1 Try.underlying138 rfl (by rw [hx4]; exact info138s) ?_)
          | ((with_reducible show wpList _ _ _ ({ dst := _, op := .load 138 (.tmp 10), type := _, pos := _, after := _, guard := none } :: _) _ _); refine wpList_load_mid rfl 138 (.tmp 10) rfl w7.heap.size 0 rfl hd0 _ y4 Try.underlying138 rfl (by rw [hdl]; exact info138s) ?_)
          | ((with_reducible show wpList _ _ _ ({ dst := _, op := .load 141 _, type := _, pos := _, after := _, guard := some (4, false) } :: _) _ _); refine wpList_load_g (by simp [Region.wanted, yielded]) 141 (.tmp 9) rfl wr.heap.size 0 rfl cx _ y2 Try.underlying141 rfl (by rw [hxl]; exact info141s) ?_)
          | (go_at_call 109; (with_reducible refine (k109 _).mono ?_); rintro e w11 ⟨rfl, k11⟩; have q11 := bmore q9 k11)
          | ((with_reducible show wpList _ _ _ ({ dst := _, op := .build 117 _, type := _, pos := _, after := _, guard := none } :: _) _ _); refine wpList_build rfl 117 _ rfl #[] (by simp) _ hbd ?_)
          | ((with_reducible show wpList _ _ _ ({ dst := _, op := .store 117 _ _, type := _, pos := _, after := _, guard := none } :: _) _ _); refine wpList_store_whole rfl 117 (.tmp 4) (.tmp 76) rfl w.heap.size z0 rfl rfl z0 117 (I0.out.below q11) rfl (by rw [hl0]; exact info117s) ho0 ?_; intro w10 b10 k10 s10))
          refine bodyPost_ret (v := .tuple #[.agg z0.toArray, .bool false]) (ret100 b10 hl0 rfl rfl) rfl ?_
          rw [HNm.out ((HDm.out hbb).trans hb2)]
          refine ⟨kbel (IB.out.trans (q11.mono IB.out.size)) k10 (Nat.le_refl _) (Nat.le_refl _), ?_⟩
          show _ = Ending.returned (.tuple #[.agg noR.toArray, .bool false])
          rw [HZ.out]
        · have hz57 : x.z ≤ 57 := by
            split at hb2
            · rw [beq_iff_eq] at hb2; omega
            · exact of_decide_eq_true hb2
          have hz1 : (x.z : Int) ≤ 57 := by omega
          have hz2 : (0 : Int) ≤ (x.z : Int) := by omega
          go_wp2_with (first
          | ((with_reducible show wpList _ _ _ ({ dst := _, op := .load 141 _, type := _, pos := _, after := _, guard := none } :: _) _ _); refine wpList_load_mid rfl 141 (.tmp 56) rfl g (o + p * 62 + m * 62) rfl cx _ hr Try.underlying141 rfl (by rw [hxl]; exact info141s) ?_)
          | ((with_reducible show wpList _ _ _ ({ dst := _, op := .alloc 141, type := _, pos := _, after := _, guard := none } :: _) _ _); refine wpList_alloc_row rfl 141 rfl e0 hpi ?_; intro w6 b6 k6 s6; have S6 : Hid (w6.heap.size = wr.heap.size + 1) := s6; clear s6)
          | ((with_reducible show wpList _ _ _ ({ dst := _, op := .store 141 _ _, type := _, pos := _, after := _, guard := none } :: _) _ _); refine wpList_store_whole rfl 141 (.tmp 9) (.tmp 57) rfl wr.heap.size cx rfl rfl e0 141 b6 (by omega) (by rw [hxl]; exact info141s) hxo ?_; intro w7 b7 k7 s7; have S7 : Hid (w7.heap.size = w6.heap.size) := s7; clear s7; have q7 : Below wr.heap.size wr w7 := kbel k6 k7 (Nat.le_refl _) (Nat.le_refl _); obtain ⟨x0, x3⟩ := HX.out _ _ (I1.out.below q7))
          | ((with_reducible show wpList _ _ _ ({ dst := _, op := .alloc 138, type := _, pos := _, after := _, guard := none } :: _) _ _); refine wpList_alloc_row rfl 138 rfl y0 hyi ?_; intro w8 b8 k8 s8; have S8 : Hid (w8.heap.size = w7.heap.size + 1) := s8; clear s8)
          | ((with_reducible show wpList _ _ _ ({ dst := _, op := .store 138 _ _, type := _, pos := _, after := _, guard := none } :: _) _ _); refine wpList_store_whole rfl 138 (.tmp 10) (.tmp 66) rfl w7.heap.size hd0 rfl HHD.out y0 138 b8 (by omega) (by rw [hdl]; exact info138s) hdo ?_; intro w9 b9 k9 s9; clear s9; have q9 : Below wr.heap.size wr w9 := kbel (bmore q7 k8) k9 (by have := q7.size; omega) (Nat.le_refl _); have b79 : Blk w9 wr.heap.size cx 141 := (b7.below k8).block (k9.block _ (by have := S6.out; have := S7.out; have := S8.out; omega) (by have := S6.out; have := S7.out; omega)); obtain ⟨y1, y2, y3⟩ := HEX.out _ _ b79; have y4 := b9.whole)
          | ((with_reducible show wpList _ _ _ ({ dst := _, op := .load 138 (.tmp 67), type := _, pos := _, after := _, guard := none } :: _) _ _); refine wpList_load_mid rfl 138 (.tmp 67) rfl wr.heap.size 0 rfl hx0 _ y1 Try.underlying138 rfl (by rw [hx4]; exact info138s) ?_)
          | ((with_reducible show wpList _ _ _ ({ dst := _, op := .load 138 (.tmp 10), type := _, pos := _, after := _, guard := none } :: _) _ _); refine wpList_load_mid rfl 138 (.tmp 10) rfl w7.heap.size 0 rfl hd0 _ y4 Try.underlying138 rfl (by rw [hdl]; exact info138s) ?_)
          | ((with_reducible show wpList _ _ _ ({ dst := _, op := .load 141 _, type := _, pos := _, after := _, guard := some (4, false) } :: _) _ _); refine wpList_load_g (by simp [Region.wanted, yielded]) 141 (.tmp 9) rfl wr.heap.size 0 rfl cx _ y2 Try.underlying141 rfl (by rw [hxl]; exact info141s) ?_)
          | (go_at_call 109; (with_reducible refine (k109 _).mono ?_); rintro e w11 ⟨rfl, k11⟩; have q11 := bmore q9 k11))
          have q12 : Below wr.heap.size wr w11.drew := bmore q11 (Below.refl _ _).drew
          have j3 := I3.out.below q12
          have t0 : w11.drew.cell? ⟨A3, 2, none⟩ = some u := j3.cell 2
          have b12 := b79.below (bmore k11 (Below.refl _ _).drew)
          have t1 : w11.drew.cell? ⟨wr.heap.size, 4, none⟩ = some (.int .i64 (x.z : Int)) := (HEX.out _ _ b12).2.2
          obtain ⟨u', w12, hrun, hU12, hB12⟩ := rw_app (IU.out.below q12) (HLV.out _ _ b12 hz57) (HFEW.out) (by have := IS.out; have := q12.size; omega)
          have hA3 : A3 < w.heap.size + 3 := by have := HSZ.out; omega
          have j12 : Blk w12 A3 [.int .i64 (F : Int), .int .i64 (N : Int), u] 117 := j3.block (hB12.block _ hA3)
          have t2 : w12.cell? ⟨A3, 2, none⟩ = some u := j12.cell 2
          have t3 := j12.frozen 2
          obtain ⟨ua', uc', rfl, _⟩ := hU12.form
          obtain ⟨lu, hlu⟩ : ∃ lu, (bytesP H p m ++ x.b.take x.z).length = lu := ⟨_, rfl⟩
          have HU12 : Hid (RW EB (w.heap.size + 3) w12 (.slice ua' lu uc') (bytesP H p m ++ x.b.take x.z)) := by
            show RW _ _ _ _ _
            rw [← hlu]
            exact hU12
          rw [hlu] at hrun
          clear k109 hq hgr hU12 hlu
          have HN3 : Hid (Blk (w12.setCell ⟨A3, 2, none⟩ (.slice ua' lu uc')) A3 [.int .i64 (F : Int), .int .i64 (N : Int), .slice ua' lu uc'] 117) := j12.set (o := 2) (.slice ua' lu uc')
          have HN1 : Hid (Blk (w12.setCell ⟨A3, 2, none⟩ (.slice ua' lu uc')) A1 hc0 138) := ((I1.out.below q12).block (hB12.block _ (by have := HSZ.out; omega))).other (by have := HSZ.out; show _ ≠ A3; omega) _
          have HN0 : Hid (Blk (w12.setCell ⟨A3, 2, none⟩ (.slice ua' lu uc')) w.heap.size z0 117) := ((I0.out.below q12).block (hB12.block _ (by omega))).other (by have := HSZ.out; show _ ≠ A3; omega) _
          have HNU : Hid (RW EB (w.heap.size + 3) (w12.setCell ⟨A3, 2, none⟩ (.slice ua' lu uc')) (.slice ua' lu uc') (bytesP H p (m + 1))) := by
            show RW _ _ _ _ _
            rw [HBm]
            exact HU12.out.keep fun k hk => Below.heap_setCell _ _ _ _ (by have := (HU12.out.at hk).1; show k ≠ A3; omega)
          have HNB : Hid (Below w.heap.size w (w12.setCell ⟨A3, 2, none⟩ (.slice ua' lu uc'))) := bset ((IB.out.trans (q12.mono IB.out.size)).trans (hB12.mono (by omega))) (by have := HSZ.out; show _ ≤ A3; omega) _
          have HNS : Hid (w.heap.size + 3 ≤ (w12.setCell ⟨A3, 2, none⟩ (.slice ua' lu uc')).heap.size) := by have := IS.out; have := q12.size; have := hB12.size; show _ ≤ _; simp [World.setCell]; omega
          have HND : Hid (∀ j, j < m + 1 → due H p f j = true) := fun j hj => by
            rcases Nat.lt_succ_iff_lt_or_eq.1 hj with h | rfl
            · exact ID.out j h
            · exact (HDm.out hbb).trans hb2
          go_region_law (refine step_append_run rfl (.tmp 78) (.tmp 82) 33 rfl u (.slice (some ⟨wr.heap.size, 5, none⟩) x.z 57) rfl rfl (.slice ua' lu uc') w12 hrun ?_)
          all_goals (go_wp2_with fail; exact ⟨⟨m + 1, _, by omega, by simp, HN3, HN1, HN0, HNU, HNB, HNS, HND⟩, by simp only [intOf]; omega⟩)
    · have hlt1 : ¬ (m : Int) < (N : Int) := by omega
      obtain rfl : m = N := by omega
      have hr := I3.out.whole
      have HFIN := HYES.out ID.out
      obtain ⟨ua, uc, rfl, _⟩ := IU.out.form
      obtain ⟨lu, hlu⟩ : ∃ lu, (bytesP H p m).length = lu := ⟨_, rfl⟩
      have HU12 : Hid (RW EB (w.heap.size + 3) wr (.slice ua lu uc) (bytesP H p m)) := by
        show RW _ _ _ _ _
        rw [← hlu]
        exact IU.out
      rw [hlu] at hr
      clear hlu IU
      go_wp2_with (first
        | ((with_reducible show wpList _ _ _ ({ dst := _, op := .load 117 _, type := _, pos := _, after := _, guard := none } :: _) _ _); refine wpList_load_mid rfl 117 (.tmp 7) rfl A3 0 rfl _ _ hr Try.underlying117 rfl info117s ?_)
        | ((with_reducible show wpList _ _ _ ({ dst := _, op := .store 117 _ _, type := _, pos := _, after := _, guard := none } :: _) _ _); refine wpList_store_whole rfl 117 (.tmp 4) (.tmp 86) rfl w.heap.size [.int .i64 (F : Int), .int .i64 (m : Int), .slice ua lu uc] rfl rfl z0 117 I0.out (by rw [hl0]; rfl) info117s (by simp [Value.oneCell']) ?_; intro w10 b10 k10 s10))
      refine bodyPost_ret (v := .tuple #[.agg #[.int .i64 (F : Int), .int .i64 (m : Int), .slice ua lu uc], .bool true]) (ret100 b10 rfl rfl rfl) rfl ?_
      refine ⟨kbel IB.out k10 (Nat.le_refl _) (Nat.le_refl _), _, rfl, ?_⟩
      refine (HU12.out.keep fun k hk => k10.block k (HU12.out.at hk).2 (by have := (HU12.out.at hk).1; omega)).lower (by omega)
end Go.Proofs.Ytnganmekiloigaa
