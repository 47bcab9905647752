/- codec's reader: a byte, the next one. -/
import Derived.Test.YthfkmedpcmiibaaDoorCpr
namespace Go.Proofs.YthfkmedpcmiibaaDoor
open Go.RowKit Go.Lib

/-- Every old block but R stands. -/
structure But (R : Nat) (w w' : World) : Prop where
  os : w'.os = w.os
  tape : w'.tape = w.tape
  output : w'.output = w.output
  size : w.heap.size ≤ w'.heap.size
  block : ∀ k, k < w.heap.size → k ≠ R → w'.heap[k]? = w.heap[k]?

theorem But.refl (R : Nat) (w : World) : But R w w := ⟨rfl, rfl, rfl, Nat.le_refl _, fun _ _ _ => rfl⟩
theorem But.trans {R : Nat} {a b c : World} (h : But R a b) (k : But R b c) : But R a c :=
  ⟨k.os.trans h.os, k.tape.trans h.tape, k.output.trans h.output, Nat.le_trans h.size k.size, fun i hi hr => (k.block i (Nat.lt_of_lt_of_le hi h.size) hr).trans (h.block i hi hr)⟩
theorem But.of {R : Nat} {a b : World} (h : Below a.heap.size a b) : But R a b := ⟨h.os, h.tape, h.output, h.size, fun k hk _ => h.block k hk⟩
theorem But.below {R B : Nat} {a b : World} (h : But R a b) (hR : B ≤ R) (hB : B ≤ a.heap.size) : Below B a b := ⟨h.os, h.tape, h.output, h.size, fun k hk => h.block k (by omega) (by omega)⟩
theorem But.set (R : Nat) (w : World) (v : Value) : But R w (w.setCell ⟨R, 0, none⟩ v) :=
  ⟨rfl, rfl, rfl, by simp [World.setCell], fun k _ hk => Below.heap_setCell _ _ _ _ (fun e => hk e)⟩
theorem But.cell {R : Nat} {a b : World} (h : But R a b) {p : Addr} (hp : p.block < a.heap.size) (hR : p.block ≠ R) : b.cell? p = a.cell? p := by
  simp only [World.cell?, h.block _ hp hR]
theorem But.at {R : Nat} {a b : World} (h : But R a b) {k o : Nat} {l : Bs} (hk : k < a.heap.size) (hR : k ≠ R) (hat : At a k o l) : At b k o l := fun i hi => (h.cell (p := ⟨k, o + i, none⟩) hk hR).trans (hat i hi)

/-- The reader R stands at the bytes l, which lie in the block b. -/
def RD (R b : Nat) (l : Bs) (W : World) : Prop :=
  ∃ a c, W.cell? ⟨R, 0, none⟩ = some (.slice a l.length c) ∧ l.length ≤ c ∧ c ≤ maxLen ∧ W.frozen? ⟨R, 0, none⟩ = false ∧ (0 < l.length → ∃ o, a = some ⟨b, o, none⟩ ∧ At W b o l)
theorem RD.below {R b : Nat} {l : Bs} {W W' : World} (h : RD R b l W) (hb : Below W.heap.size W W') : RD R b l W' := by
  obtain ⟨a, c, h1, h2, h3, h4, h5⟩ := h
  have hR : R < W.heap.size := World.block_lt_of_cell? _ _ h1
  refine ⟨a, c, (hb.cell (p := ⟨R, 0, none⟩) hR).trans h1, h2, h3, (hb.frozen (p := ⟨R, 0, none⟩) hR).trans h4, fun h0 => ?_⟩
  obtain ⟨o, h6, h7⟩ := h5 h0
  exact ⟨o, h6, h7.below hb⟩

set_option maxRecDepth 100000 in
set_option maxHeartbeats 400000 in
theorem peek67 (R b : Nat) (x : UInt8) (l : Bs) (w : World) (h : RD R b (x :: l) w) :
    Calls Tryd.prog 66 #[.pointer (some ⟨R, 0, none⟩)] w fun e w' => e = .returned (.int .u8 x.toNat) ∧ w' = w := by
  obtain ⟨a, c, h0, _, _, _, h5⟩ := h
  obtain ⟨o, rfl, hat⟩ := h5 (by simp)
  have hx := hat 0 (by simp)
  simp only [Nat.add_zero, List.getD_cons_zero] at hx
  obtain ⟨n, hn⟩ : ∃ n, (x :: l).length = n := ⟨_, rfl⟩
  have hn' : 0 < n := by rw [← hn]; simp
  rw [hn] at h0
  clear hn h5 hat
  have hn0 : ¬ ((n : Int) = 0) := by omega
  have hn1 : (0 : Int) < (n : Int) := by omega
  go_enter Tryd.func66, Tryd.ntmps66
  go_wp2
  go_ret
  exact ⟨rfl, rfl⟩

theorem rd_set {R b : Nat} {l : Bs} {w : World} {v : Value} {a : Option Addr} {c : Nat} (hR : b ≠ R) (h0 : w.cell? ⟨R, 0, none⟩ = some v) (hz : w.frozen? ⟨R, 0, none⟩ = false) (h1 : l.length ≤ c) (h2 : c ≤ maxLen) (h3 : 0 < l.length → ∃ o, a = some ⟨b, o, none⟩ ∧ At w b o l) :
    RD R b l (w.setCell ⟨R, 0, none⟩ (.slice a l.length c)) := by
  refine ⟨a, c, World.cell?_setCell_same _ _ _ h0, h1, h2, by simpa using hz, fun h => ?_⟩
  obtain ⟨o, e, hat⟩ := h3 h
  exact ⟨o, e, fun i hi => by rw [World.cell?_setCell_far _ _ _ _ (fun e => hR e.symm)]; exact hat i hi⟩

set_option maxRecDepth 100000 in
set_option maxHeartbeats 400000 in
theorem next69 (R b : Nat) (x : UInt8) (l : Bs) (w : World) (hR : b ≠ R) (h : RD R b (x :: l) w) :
    Calls Tryd.prog 68 #[.pointer (some ⟨R, 0, none⟩)] w fun e w' => e = .returned (.int .u8 x.toNat) ∧ RD R b l w' ∧ But R w w' := by
  have c67 := peek67 R b x l w h
  obtain ⟨a, c, h0, hc, hm, hz, h5⟩ := h
  obtain ⟨o, rfl, hat⟩ := h5 (by simp)
  have hS1 : Hid (RD R b l (w.setCell ⟨R, 0, none⟩ (.slice (some ⟨b, o + 1, none⟩) l.length (c - 1)))) := rd_set hR h0 hz (by simp at hc; omega) (by omega) fun _ => ⟨o + 1, rfl, fun i hi => by
    have := hat (i + 1) (by simpa using hi)
    rw [show o + 1 + i = o + (i + 1) by omega, this]
    rfl⟩
  have hS2 : Hid (c = 1 → RD R b l (w.setCell ⟨R, 0, none⟩ (.slice (some ⟨b, o, none⟩) l.length 0))) := fun h1 => rd_set hR h0 hz (by simp at hc; omega) (by omega) fun h => by simp at hc; omega
  obtain ⟨n, hn⟩ : ∃ n, l.length = n := ⟨_, rfl⟩
  rw [hn] at hS1 hS2
  rw [List.length_cons, hn] at h0 hc
  clear h5 hat hn
  have hn1 : (0 : Int) < ((n + 1 : Nat) : Int) := by omega
  have hn2 : 1 ≤ n + 1 := by omega
  go_enter Tryd.func68, Tryd.ntmps68
  go_wp2_with (go_at_call 66; (refine c67.mono ?_; rintro e w1 ⟨rfl, rfl⟩))
  · go_ret
    exact ⟨rfl, hS2.out (by assumption), But.set _ _ _⟩
  · go_ret
    exact ⟨rfl, hS1.out, But.set _ _ _⟩

set_option maxRecDepth 100000 in
set_option maxHeartbeats 400000 in
theorem point62 (R b : Nat) (x y : UInt8) (l : Bs) (w : World) (hR : b ≠ R) (h : RD R b (x :: y :: l) w) :
    Calls Tryd.prog 57 #[.pointer (some ⟨R, 0, none⟩)] w fun e w' => e = .returned (.int .i64 ((x.toNat : Int) * 256 + (y.toNat : Int) - 1000)) ∧ RD R b l w' ∧ But R w w' := by
  have c1 := next69 R b x (y :: l) w hR h
  have c2 := fun W h => next69 R b y l W hR h
  have hx := x.toNat_lt
  have hy := y.toNat_lt
  have w1 : IntKind.i64.wrap (x.toNat : Int) = x.toNat := by simp [IntKind.wrap, IntKind.bits, IntKind.signed]; omega
  go_enter Tryd.func57, Tryd.ntmps57
  go_wp2_with (first
    | (go_at_call 68; (refine c1.mono ?_; rintro e wa ⟨rfl, hr1, hb1⟩; clear c1))
    | (go_at_call 68; (refine (c2 _ hr1).mono ?_; rintro e wb ⟨rfl, hr2, hb2⟩)))
  go_ret
  exact ⟨by rw [show (x.toNat : Int) * 256 + (y.toNat : Int) - 1000 = (x.toNat : Int) * 256 + (y.toNat : Int) + -1000 by omega]; rfl, hr2, hb1.trans hb2⟩

theorem rd_sb {R b : Nat} {l : Bs} {w : World} {v : Value} (h : RD R b l w) (hv : w.cell? ⟨R, 0, none⟩ = some v) : SB w v l := by
  obtain ⟨a, c, h0, h1, h2, _, h5⟩ := h
  rw [hv] at h0
  obtain rfl := Option.some.inj h0
  by_cases hl : 0 < l.length
  · obtain ⟨o, rfl, hat⟩ := h5 hl
    exact .inr ⟨b, o, c, rfl, hl, h1, h2, hat⟩
  · have : l = [] := List.eq_nil_of_length_eq_zero (by omega)
    subst this
    exact .inl ⟨a, c, rfl, rfl⟩

theorem val_cells {w w1 : World} {o : Obj} {R : Nat} (hR : R < w.heap.size) (h1 : Below (w.alloc o).heap.size (w.alloc o) w1) (o' : Obj) (u : Value) (i : Nat) :
    ((w1.alloc o').setCell ⟨R, 0, none⟩ u).cell? ⟨w1.heap.size, i, none⟩ = (w1.alloc o').cell? ⟨w1.heap.size, i, none⟩ ∧
    ((w1.alloc o').setCell ⟨R, 0, none⟩ u).cell? ⟨w.heap.size, i, none⟩ = (w.alloc o).cell? ⟨w.heap.size, i, none⟩ ∧
    ((w1.alloc o').setCell ⟨R, 0, none⟩ u).frozen? ⟨w.heap.size, i, none⟩ = (w.alloc o).frozen? ⟨w.heap.size, i, none⟩ := by
  have hz := h1.size
  simp at hz
  have b1 : Below (w.alloc o).heap.size (w.alloc o) (w1.alloc o') := h1.alloc (by simp; omega) o'
  refine ⟨World.cell?_setCell_far _ _ _ _ (by simp; omega), ?_, ?_⟩
  · rw [World.cell?_setCell_far _ _ _ _ (by simp; omega)]
    exact b1.cell (p := ⟨w.heap.size, i, none⟩) (by simp)
  · rw [World.frozen?_setCell]
    exact b1.frozen (p := ⟨w.heap.size, i, none⟩) (by simp)
theorem but_set3 {R : Nat} {w w1 : World} {o : Obj} (h1 : Below (w.alloc o).heap.size (w.alloc o) w1) (o' : Obj) (u x0 x1 x2 : Value) :
    But R w (((((w1.alloc o').setCell ⟨R, 0, none⟩ u).setCell ⟨w.heap.size, 0, none⟩ x0).setCell ⟨w.heap.size, 1, none⟩ x1).setCell ⟨w.heap.size, 2, none⟩ x2) := by
  have b : Below w.heap.size w (w1.alloc o') := bmore (bmore (al w o) h1) (al _ _)
  have c := (But.of (R := R) b).trans (But.set R _ u)
  refine ⟨c.os, c.tape, c.output, by simpa [World.setCell] using c.size, fun k hk hR => ?_⟩
  rw [Below.heap_setCell _ _ _ _ (by simp; omega), Below.heap_setCell _ _ _ _ (by simp; omega), Below.heap_setCell _ _ _ _ (by simp; omega)]
  exact c.block k hk hR
theorem rd_set3 {R b B : Nat} {l : Bs} {W : World} (h : RD R b l W) (hR : R ≠ B) (hb : b ≠ B) (x0 x1 x2 : Value) : RD R b l (((W.setCell ⟨B, 0, none⟩ x0).setCell ⟨B, 1, none⟩ x1).setCell ⟨B, 2, none⟩ x2) := by
  obtain ⟨a, c, h1, h2, h3, h4, h5⟩ := h
  have hc : ∀ p : Addr, p.block ≠ B → (((W.setCell ⟨B, 0, none⟩ x0).setCell ⟨B, 1, none⟩ x1).setCell ⟨B, 2, none⟩ x2).cell? p = W.cell? p := fun p hp => by
    rw [World.cell?_setCell_far _ _ _ _ (fun e => hp e.symm), World.cell?_setCell_far _ _ _ _ (fun e => hp e.symm), World.cell?_setCell_far _ _ _ _ (fun e => hp e.symm)]
  refine ⟨a, c, (hc _ hR).trans h1, h2, h3, by simpa using h4, fun h => ?_⟩
  obtain ⟨o, e, hat⟩ := h5 h
  exact ⟨o, e, fun i hi => (hc _ hb).trans (hat i hi)⟩

set_option maxRecDepth 100000 in
set_option maxHeartbeats 400000 in
theorem value68 (R b : Nat) (x : Vt) (p : Bs) (w : World) (hR : b ≠ R) (hx : okV x = true) (hi : inI64 x.2.1) (hlen : (bytesT x ++ p).length ≤ 140737488355328) (hg : Good w) (h : RD R b (bytesT x ++ p) w) :
    Calls Tryd.prog 67 #[.pointer (some ⟨R, 0, none⟩)] w fun e w' => e = .returned (V x.1 x.2.1 x.2.2) ∧ RD R b p w' ∧ But R w w' := by
  have hsb := fun v hv => rd_sb h (v := v) hv
  have hbl := bytesT_len hx
  obtain ⟨a, c, h0, hc, hm, hz, h5⟩ := h
  obtain ⟨o, rfl, hat⟩ := h5 (by simp; omega)
  have k25 := fun o' => read23 _ _ (w.alloc o') hlen ((hsb _ h0).below (al _ _)) (hg.below (al _ _))
  have hrd : rdV (bytesT x ++ p) = (x.1, x.2.1, bs x.2.2, (bytesT x).length, 0) := rdV_bytes hx hi p
  rw [hrd, str_bs] at k25
  have hRz : R < w.heap.size := World.block_lt_of_cell? _ _ h0
  have hbz : b < w.heap.size := World.block_lt_of_cell? _ _ (hat 0 (by simp; omega))
  have hkeep : ∀ o' w1, Below (w.alloc o').heap.size (w.alloc o') w1 → Below w.heap.size w w1 := fun o' w1 hb1 => bmore (al _ _) hb1
  have hat2 := hat.drop (bytesT x).length
  rw [List.drop_append_of_le_length (by omega), List.drop_eq_nil_of_le (by omega), List.nil_append] at hat2
  have hS1 : Hid (∀ w1, Below w.heap.size w w1 → RD R b p (w1.setCell ⟨R, 0, none⟩ (.slice (some ⟨b, o + (bytesT x).length, none⟩) p.length (c - (bytesT x).length)))) := fun w1 hb1 =>
    rd_set hR ((hb1.cell (p := ⟨R, 0, none⟩) hRz).trans h0) ((hb1.frozen (p := ⟨R, 0, none⟩) hRz).trans hz) (by simp at hc; omega) (by omega) fun _ => ⟨_, rfl, hat2.below hb1⟩
  have hS2 : Hid (∀ w1, c = (bytesT x).length → Below w.heap.size w w1 → RD R b p (w1.setCell ⟨R, 0, none⟩ (.slice (some ⟨b, o, none⟩) p.length 0))) := fun w1 h1 hb1 =>
    rd_set hR ((hb1.cell (p := ⟨R, 0, none⟩) hRz).trans h0) ((hb1.frozen (p := ⟨R, 0, none⟩) hRz).trans hz) (by simp at hc; omega) (by omega) fun h => by simp at hc; omega
  have hq := fun w1 (hb1 : Below w.heap.size w w1) => (hb1.cell (p := ⟨R, 0, none⟩) hRz).trans h0
  have hf := fun w1 (hb1 : Below w.heap.size w w1) => (hb1.frozen (p := ⟨R, 0, none⟩) hRz).trans hz
  rw [List.length_append] at h0 hc hq hlen k25
  obtain ⟨xk, xn, xs⟩ := x
  simp only at k25
  generalize (bytesT (xk, xn, xs)).length = M at *
  generalize p.length = Q at *
  clear hsb hrd h5 hat hat2
  go_enter Tryd.func67, Tryd.ntmps67
  go_wp2_with (go_at_call 71; (refine (k25 _).mono ?_; rintro e w1 ⟨rfl, hb1⟩; have hb2 := hkeep _ _ hb1; have hq1 := fun ob => hq _ (bmore hb2 (al w1 ob)); have hf1 := fun ob => hf _ (bmore hb2 (al w1 ob)); have e0 := fun u => val_cells hRz hb1 (.cells #[.int .u8 xk, .int .i64 xn, .string xs] 56) u 0; have e1 := fun u => val_cells hRz hb1 (.cells #[.int .u8 xk, .int .i64 xn, .string xs] 56) u 1; have e2 := fun u => val_cells hRz hb1 (.cells #[.int .u8 xk, .int .i64 xn, .string xs] 56) u 2; simp at e0 e1 e2; have i0 := fun u => (e0 u).1; have i1 := fun u => (e1 u).1; have i2 := fun u => (e2 u).1; have j0 := fun u => (e0 u).2.1; have j1 := fun u => (e1 u).2.1; have j2 := fun u => (e2 u).2.1; have f0 := (e0 undef).2.2; have f1 := (e1 undef).2.2; have f2 := (e2 undef).2.2; clear e0 e1 e2))
  · exact bodyPost_ret (v := V xk xn xs) (by simp [results, Tryd.results67, go_sem, j0, j1, j2]) rfl ⟨rfl, rd_set3 (hS2.out _ (by assumption) (bmore hb2 (al _ _))) (by omega) (by omega) _ _ _, but_set3 hb1 _ _ _ _ _⟩
  · exact bodyPost_ret (v := V xk xn xs) (by simp [results, Tryd.results67, go_sem, j0, j1, j2]) rfl ⟨rfl, rd_set3 (hS1.out _ (bmore hb2 (al _ _))) (by omega) (by omega) _ _ _, but_set3 hb1 _ _ _ _ _⟩

end Go.Proofs.YthfkmedpcmiibaaDoor
