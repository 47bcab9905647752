/- The steps of the law TopCounts. -/
import Derived.Test.YtnganmekiloigaaHm
namespace Go.Proofs.Ytnganmekiloigaa
open Go.RowKit
set_option maxRecDepth 100000
variable {w w' : World} {B d s x : Nat} {D : Dk} {W : Wl} {G : List Nat}
/-- A crash, where a log stands on the disk. -/
theorem lg_crash {l : List Bool} {v : Value} (h : Alone B w d s D G) (hv : KB w v l) (hvB : ∀ a n c, v = .slice (some a) n c → 0 < l.length → a.block < B) (hw : D.wait.length ≤ 100000) :
    Calls Try.prog 18 #[.pointer (some ⟨d, 0, none⟩), v] w fun e w' => e = .returned (.tuple #[]) ∧ Alone B w' d s (D.crash l) G ∧ Kept G w w' ∧ Below B w w' := by
  obtain ⟨wv, h1, h2, hb⟩ := h
  refine (crash18 h1 hw v l hv (fun a n c e h0 hf => by have := hb.1 _ hf; have := hvB a n c e h0; omega)).mono ?_
  rintro e w' ⟨h3, h4⟩
  exact ⟨h3, alone_left h2 hb h4⟩
/-- Open on a disk where nothing waits: the log that it answers. -/
theorem lg_open {R h E cnt en u e1 : Nat} {sure : List Bs} (hA : Alone B w d s D []) (i : Inv R D h E cnt en u e1 sure []) (hR : 2 ≤ R) (hR2 : R ≤ 64) (hE : E = great (pcs D.secs) + 1) :
    Calls Try.prog 35 #[.pointer (some ⟨d, 0, none⟩)] w fun e w' => ∃ x ua uc, e = .returned (.tuple #[.pointer (some ⟨x, 0, none⟩), .slice ua sure.length uc, .int .i64 0]) ∧ LG B w' d s D x ⟨h, E, cnt, en, false⟩ [] ∧ RL w' (.slice ua sure.length uc) sure ∧ Below w.heap.size w w' ∧ w.heap.size ≤ x := by
  have hsz : B ≤ w.heap.size := by obtain ⟨_, _, _, _, h⟩ := hA; exact h
  have hcn : cnt = sure.length := by rw [i.cnt']; simp
  have hen : en = u := by rw [i.en']; simp [layAll]
  refine (open_inv hA i hR hR2).mono ?_
  rintro e w1 ⟨x, ua, uc, rfl, hb, hr, hB, hx⟩
  refine ⟨x, ua, uc, rfl, ⟨?_, by rw [hE, hcn, hen]; exact hb, by simp, by omega⟩, hr, hB, hx⟩
  obtain ⟨wv, p1, p2, p3, p4⟩ := hA
  refine ⟨wv, p1.below hB, fun g hg => ?_, p3, Nat.le_trans p4 hB.size⟩
  have : g = x := by simpa using hg
  subst this
  exact ⟨fun hf => by have := p1.foot_lt _ hf; omega, hb.lt⟩
/-- Numbers as records. -/
def numL (n : Nat) : List Bs := (List.range n).map fun k => [UInt8.ofNat k]
theorem numL_succ (n : Nat) : numL (n + 1) = numL n ++ [[UInt8.ofNat n]] := by simp [numL, List.range_succ]
theorem numL_length (n : Nat) : (numL n).length = n := by simp [numL]
theorem numL_take {n k : Nat} (h : k ≤ n) : (numL n).take k = numL k := by
  unfold numL
  rw [← List.map_take, List.take_range, Nat.min_eq_left h]
theorem numL_get {n k : Nat} (h : k < n) : (numL n)[k]? = some [UInt8.ofNat k] := by simp [numL, h]
/-- A log of the numbers below nx, of which q are sure. -/
structure C13 (W0 wr : World) (d s x nx i q : Nat) : Prop where
  ex : ∃ D W u e1 sure more, LG W0.heap.size wr d s D x W [] ∧ Inv 32 D W.half W.e W.cnt W.en u e1 sure more ∧ W.br = false ∧ sure ++ more = numL nx ∧ W.e ≤ 1 + i ∧ q ≤ sure.length
  below : Below W0.heap.size W0 wr
/-- Behind a crash. -/
structure K13 (W0 wr : World) (d s nx i q : Nat) : Prop where
  ex : ∃ D h cnt en u e1 n, Alone W0.heap.size wr d s D [] ∧ Inv 32 D h (great (pcs D.secs) + 1) cnt en u e1 (numL n) [] ∧ great (pcs D.secs) + 1 ≤ 2 + i ∧ q ≤ n ∧ n ≤ nx
  below : Below W0.heap.size W0 wr
section
variable {W0 wr w5 : World} {nx i q : Nat}
theorem C13.new (hA : LG W0.heap.size wr d s (newDk (2 * 32)) x ⟨0, 1, 0, 0, false⟩ []) (hB : Below W0.heap.size W0 wr) : C13 W0 wr d s x 0 0 0 := ⟨⟨_, _, _, _, [], [], hA, inv_new 32, rfl, rfl, Nat.le_refl _, Nat.zero_le _⟩, hB⟩
theorem C13.below' (h : C13 W0 wr d s x nx i q) (k : Below wr.heap.size wr w5) : C13 W0 w5 d s x nx i q := by
  obtain ⟨⟨D, W, u, e1, sure, more, A, I, hbr, hn, he, hq⟩, hB⟩ := h
  exact ⟨⟨D, W, u, e1, sure, more, A.below k, I, hbr, hn, he, hq⟩, hB.trans (k.mono hB.size)⟩
theorem C13.append (h : C13 W0 wr d s x nx i q) (hi : i ≤ 8) (hnx : nx ≤ 100) (xb : UInt8) (hxb : xb.toNat = nx) :
    Calls Try.prog 42 #[.pointer (some ⟨x, 0, none⟩), .slice (some ⟨wr.heap.size, 0, none⟩) 1 1] (wr.alloc (.cells #[.int .u8 (xb.toNat : Int)] 5)) fun e w' => (e = .returned (.tuple #[.int .i64 0, .int .i64 15]) ∧ C13 W0 w' d s x nx i q) ∨ (e = .returned (.tuple #[.int .i64 (nx : Int), .int .i64 0]) ∧ C13 W0 w' d s x (nx + 1) i q) := by
  have hex : xb = UInt8.ofNat nx := by apply UInt8.toNat_inj.1; rw [UInt8.toNat_ofNat']; omega
  obtain ⟨⟨D, W, u, e1, sure, more, A, I, hbr, hn, he, hq⟩, hB⟩ := h
  have hcn : W.cnt = nx := by rw [I.cnt', ← List.length_append, hn, numL_length]
  have hwl : D.wait.length ≤ 50000 := by rw [I.wait, waitOf_length]; have := I.en'; have := I.room; omega
  have A5 := A.add (al wr (.cells #[.int .u8 (xb.toNat : Int)] 5)) (Nat.le_refl _) (by simp)
  have k := al wr (.cells #[.int .u8 (xb.toNat : Int)] 5)
  have hnp1 : np [xb] = 1 := by simp [np]
  by_cases hf : W.en + np [xb] ≤ 32
  · refine (append42_ok (R := 32) (l := [xb]) A5 hbr I.cut I.off hwl I.len (by omega) I.half (by omega) (by omega) (lv_one xb) (by simp) (by simp) (fun g o hg => by cases hg; simp) hf).mono ?_
    rintro e w6 ⟨rfl, A6, K6, B6⟩
    have I6 := I.append (b := [xb]) (by simp) hf (D' := D.more (W.half * 32 + W.en) (layP W.e W.en [xb])) rfl
    refine .inr ⟨by rw [hcn], ⟨_, _, _, _, sure, more ++ [[xb]], A6.less (by simp), I6, rfl, ?_, he, hq⟩, hB.trans ((k.mono hB.size).trans B6)⟩
    rw [← List.append_assoc, hn, numL_succ, hex]
  · refine (append42_full (R := 32) (n := 1) A5 hbr I.len (by omega) I.room (by omega) (by omega)).mono ?_
    rintro e w6 ⟨rfl, B6⟩
    exact .inl ⟨rfl, ⟨D, W, u, e1, sure, more, (A.below k).below B6, I, hbr, hn, he, hq⟩, hB.trans ((bmore k B6).mono hB.size)⟩
theorem C13.flush (h : C13 W0 wr d s x nx i q) : Calls Try.prog 39 #[.pointer (some ⟨x, 0, none⟩)] wr fun e w' => e = .returned (.int .i64 0) ∧ C13 W0 w' d s x nx i nx := by
  obtain ⟨⟨D, W, u, e1, sure, more, A, I, hbr, hn, he, hq⟩, hB⟩ := h
  have hwl : D.wait.length ≤ 100000 := by rw [I.wait, waitOf_length]; have := I.en'; have := I.room; omega
  obtain ⟨f1, e', I2⟩ := I.flush (by omega)
  refine (flush39 A hbr f1 hwl A.glt).mono ?_
  rintro e w1 ⟨rfl, A1, K1, B1⟩
  refine ⟨rfl, ⟨_, W, _, _, sure ++ more, [], A1, I2, hbr, by rw [List.append_nil, hn], he, by rw [hn, numL_length]; exact Nat.le_refl _⟩, hB.trans B1⟩
theorem C13.crash {l : List Bool} {v : Value} (h : C13 W0 wr d s x nx i q) (hi : i ≤ 8) (hv : KB wr v l) (hvB : ∀ a n c, v = .slice (some a) n c → 0 < l.length → a.block < W0.heap.size) :
    Calls Try.prog 18 #[.pointer (some ⟨d, 0, none⟩), v] wr fun e w' => e = .returned (.tuple #[]) ∧ K13 W0 w' d s nx i q := by
  obtain ⟨⟨D, W, u, e1, sure, more, A, I, hbr, hn, he, hq⟩, hB⟩ := h
  have hwl : D.wait.length ≤ 100000 := by rw [I.wait, waitOf_length]; have := I.en'; have := I.room; omega
  refine (lg_crash A.alone hv hvB hwl).mono ?_
  rintro e w1 ⟨rfl, A1, K1, B1⟩
  obtain ⟨j, u', e', hj, hc, hE, hf, hg, I2, hw⟩ := I.crash (by omega) (by omega) l
  have hl : (sure ++ more).length = nx := by rw [hn, numL_length]
  rw [List.length_append] at hl
  have e1 : sure ++ more.take j = numL (sure.length + j) := by
    rw [← numL_take (show sure.length + j ≤ nx by omega), ← hn, List.take_length_add_append]
  rw [e1] at I2
  exact ⟨rfl, ⟨_, _, _, _, _, _, sure.length + j, A1, I2, by omega, by omega, by omega⟩, hB.trans B1⟩
theorem K13.opens (h : K13 W0 wr d s nx i q) : Calls Try.prog 35 #[.pointer (some ⟨d, 0, none⟩)] wr fun e w' => ∃ x ua uc n, e = .returned (.tuple #[.pointer (some ⟨x, 0, none⟩), .slice ua n uc, .int .i64 0]) ∧ q ≤ n ∧ n ≤ nx ∧ RL w' (.slice ua n uc) (numL n) ∧ C13 W0 w' d s x n (i + 1) 0 := by
  obtain ⟨⟨D, h, cnt, en, u, e1, n, A, I, he, hq, hn⟩, hB⟩ := h
  refine (lg_open A I (by omega) (by omega) rfl).mono ?_
  rintro e w1 ⟨x, ua, uc, rfl, A1, hr, B1, hx⟩
  rw [numL_length] at hr ⊢
  exact ⟨x, ua, uc, n, rfl, hq, hn, hr, ⟨_, _, _, _, numL n, [], A1, I, rfl, by simp, by show great (pcs D.secs) + 1 ≤ _; omega, Nat.zero_le _⟩, hB.trans (B1.mono hB.size)⟩
theorem C13.len (h : C13 W0 wr d s x nx i q) : Calls Try.prog 46 #[.pointer (some ⟨x, 0, none⟩)] wr fun e w' => e = .returned (.int .i64 (nx : Int)) ∧ w' = wr := by
  obtain ⟨⟨D, W, u, e1, sure, more, A, I, hbr, hn, he, hq⟩, hB⟩ := h
  have := len46 A.wal
  rw [I.cnt', ← List.length_append, hn, numL_length] at this
  exact this
theorem C13.leq (h : C13 W0 wr d s x nx i q) {q' : Nat} (hq' : q' ≤ q) : C13 W0 wr d s x nx i q' := by
  obtain ⟨⟨D, W, u, e1, sure, more, A, I, hbr, hn, he, hq⟩, hB⟩ := h
  exact ⟨⟨D, W, u, e1, sure, more, A, I, hbr, hn, he, by omega⟩, hB⟩
theorem C13.i8 (h : C13 W0 wr d s x nx i q) {i' : Nat} (hi' : i ≤ i') : C13 W0 wr d s x nx i' q := by
  obtain ⟨⟨D, W, u, e1, sure, more, A, I, hbr, hn, he, hq⟩, hB⟩ := h
  exact ⟨⟨D, W, u, e1, sure, more, A, I, hbr, hn, by omega, hq⟩, hB⟩
end
end Go.Proofs.Ytnganmekiloigaa
