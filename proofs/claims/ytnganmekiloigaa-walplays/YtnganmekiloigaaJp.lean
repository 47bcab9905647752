/- The steps of the law TopCounts. · A log's story: what is sure, and what was appended behind that, as lists of records in memory. -/
import Derived.Test.YtnganmekiloigaaHm
/-! ### The steps of the law TopCounts. -/
namespace Go.Proofs.Ytnganmekiloigaa
open Go.RowKit
set_option maxRecDepth 100000
variable {w w' : World} {B d s x : Nat} {D : Dk} {W : Wl} {G : List Nat}
/-- A crash, where a log stands on the disk. -/
theorem lg_crash {l : List Bool} {v : Value} (h : Alone B w d s D G) (hv : KB w v l) (hvB : ∀ a n c, v = .slice (some a) n c → 0 < l.length → a.block < B) (hw : D.wait.length ≤ 100000) :
    Calls Try.prog 18 #[.pointer (some ⟨d, 0, none⟩), v] w fun e w' => e = .returned (.tuple #[]) ∧ Alone B w' d s (D.crash l) G ∧ Kept G w w' ∧ Below B w w' := by
  obtain ⟨wv, h1, h2, hb⟩ := h
  refine (crash18 h1 hw v l hv (fun a n c e h0 hf => by have := hb.1 _ hf; have := hvB a n c e h0; omega)).mono ?_
  rintro e w' ⟨h3, h4⟩
  exact ⟨h3, alone_left h2 hb h4⟩
/-- Open on a disk where nothing waits: the log that it answers. -/
theorem lg_open {R h E cnt en u e1 : Nat} {sure : List Bs} (hA : Alone B w d s D []) (i : Inv R D h E cnt en u e1 sure []) (hR : 2 ≤ R) (hR2 : R ≤ 64) (hE : E = great (pcs D.secs) + 1) :
    Calls Try.prog 35 #[.pointer (some ⟨d, 0, none⟩)] w fun e w' => ∃ x ua uc, e = .returned (.tuple #[.pointer (some ⟨x, 0, none⟩), .slice ua sure.length uc, .int .i64 0]) ∧ LG B w' d s D x ⟨h, E, cnt, en, false⟩ [] ∧ RL w' (.slice ua sure.length uc) sure ∧ Below w.heap.size w w' ∧ w.heap.size ≤ x := by
  have hsz : B ≤ w.heap.size := by obtain ⟨_, _, _, _, h⟩ := hA; exact h
  have hcn : cnt = sure.length := by rw [i.cnt']; simp
  have hen : en = u := by rw [i.en']; simp [layAll]
  refine (open_inv hA i hR hR2).mono ?_
  rintro e w1 ⟨x, ua, uc, rfl, hb, hr, hB, hx⟩
  refine ⟨x, ua, uc, rfl, ⟨?_, by rw [hE, hcn, hen]; exact hb, by simp, by omega⟩, hr, hB, hx⟩
  obtain ⟨wv, p1, p2, p3, p4⟩ := hA
  refine ⟨wv, p1.below hB, fun g hg => ?_, p3, Nat.le_trans p4 hB.size⟩
  have : g = x := by simpa using hg
  subst this
  exact ⟨fun hf => by have := p1.foot_lt _ hf; omega, hb.lt⟩
/-- Numbers as records. -/
def numL (n : Nat) : List Bs := (List.range n).map fun k => [UInt8.ofNat k]
theorem numL_succ (n : Nat) : numL (n + 1) = numL n ++ [[UInt8.ofNat n]] := by simp [numL, List.range_succ]
theorem numL_length (n : Nat) : (numL n).length = n := by simp [numL]
theorem numL_take {n k : Nat} (h : k ≤ n) : (numL n).take k = numL k := by
  unfold numL
  rw [← List.map_take, List.take_range, Nat.min_eq_left h]
theorem numL_get {n k : Nat} (h : k < n) : (numL n)[k]? = some [UInt8.ofNat k] := by simp [numL, h]
/-- A log of the numbers below nx, of which q are sure. -/
structure C13 (W0 wr : World) (d s x nx i q : Nat) : Prop where
  ex : ∃ D W u e1 sure more, LG W0.heap.size wr d s D x W [] ∧ Inv 32 D W.half W.e W.cnt W.en u e1 sure more ∧ W.br = false ∧ sure ++ more = numL nx ∧ W.e ≤ 1 + i ∧ q ≤ sure.length
  below : Below W0.heap.size W0 wr
/-- Behind a crash. -/
structure K13 (W0 wr : World) (d s nx i q : Nat) : Prop where
  ex : ∃ D h cnt en u e1 n, Alone W0.heap.size wr d s D [] ∧ Inv 32 D h (great (pcs D.secs) + 1) cnt en u e1 (numL n) [] ∧ great (pcs D.secs) + 1 ≤ 2 + i ∧ q ≤ n ∧ n ≤ nx
  below : Below W0.heap.size W0 wr
section
variable {W0 wr w5 : World} {nx i q : Nat}
theorem C13.new (hA : LG W0.heap.size wr d s (newDk (2 * 32)) x ⟨0, 1, 0, 0, false⟩ []) (hB : Below W0.heap.size W0 wr) : C13 W0 wr d s x 0 0 0 := ⟨⟨_, _, _, _, [], [], hA, inv_new 32, rfl, rfl, Nat.le_refl _, Nat.zero_le _⟩, hB⟩
theorem C13.below' (h : C13 W0 wr d s x nx i q) (k : Below wr.heap.size wr w5) : C13 W0 w5 d s x nx i q := by
  obtain ⟨⟨D, W, u, e1, sure, more, A, I, hbr, hn, he, hq⟩, hB⟩ := h
  exact ⟨⟨D, W, u, e1, sure, more, A.below k, I, hbr, hn, he, hq⟩, hB.trans (k.mono hB.size)⟩
theorem C13.append (h : C13 W0 wr d s x nx i q) (hi : i ≤ 8) (hnx : nx ≤ 100) (xb : UInt8) (hxb : xb.toNat = nx) :
    Calls Try.prog 42 #[.pointer (some ⟨x, 0, none⟩), .slice (some ⟨wr.heap.size, 0, none⟩) 1 1] (wr.alloc (.cells #[.int .u8 (xb.toNat : Int)] 5)) fun e w' => (e = .returned (.tuple #[.int .i64 0, .int .i64 15]) ∧ C13 W0 w' d s x nx i q) ∨ (e = .returned (.tuple #[.int .i64 (nx : Int), .int .i64 0]) ∧ C13 W0 w' d s x (nx + 1) i q) := by
  have hex : xb = UInt8.ofNat nx := by apply UInt8.toNat_inj.1; rw [UInt8.toNat_ofNat']; omega
  obtain ⟨⟨D, W, u, e1, sure, more, A, I, hbr, hn, he, hq⟩, hB⟩ := h
  have hcn : W.cnt = nx := by rw [I.cnt', ← List.length_append, hn, numL_length]
  have hwl : D.wait.length ≤ 50000 := by rw [I.wait, waitOf_length]; have := I.en'; have := I.room; omega
  have A5 := A.add (al wr (.cells #[.int .u8 (xb.toNat : Int)] 5)) (Nat.le_refl _) (by simp)
  have k := al wr (.cells #[.int .u8 (xb.toNat : Int)] 5)
  have hnp1 : np [xb] = 1 := by simp [np]
  by_cases hf : W.en + np [xb] ≤ 32
  · refine (append42_ok (R := 32) (l := [xb]) A5 hbr I.cut I.off hwl I.len (by omega) I.half (by omega) (by omega) (lv_one xb) (by simp) (by simp) (fun g o hg => by cases hg; simp) hf).mono ?_
    rintro e w6 ⟨rfl, A6, K6, B6⟩
    have I6 := I.append (b := [xb]) (by simp) hf (D' := D.more (W.half * 32 + W.en) (layP W.e W.en [xb])) rfl
    refine .inr ⟨by rw [hcn], ⟨_, _, _, _, sure, more ++ [[xb]], A6.less (by simp), I6, rfl, ?_, he, hq⟩, hB.trans ((k.mono hB.size).trans B6)⟩
    rw [← List.append_assoc, hn, numL_succ, hex]
  · refine (append42_full (R := 32) (n := 1) A5 hbr I.len (by omega) I.room (by omega) (by omega)).mono ?_
    rintro e w6 ⟨rfl, B6⟩
    exact .inl ⟨rfl, ⟨D, W, u, e1, sure, more, (A.below k).below B6, I, hbr, hn, he, hq⟩, hB.trans ((bmore k B6).mono hB.size)⟩
theorem C13.flush (h : C13 W0 wr d s x nx i q) : Calls Try.prog 39 #[.pointer (some ⟨x, 0, none⟩)] wr fun e w' => e = .returned (.int .i64 0) ∧ C13 W0 w' d s x nx i nx := by
  obtain ⟨⟨D, W, u, e1, sure, more, A, I, hbr, hn, he, hq⟩, hB⟩ := h
  have hwl : D.wait.length ≤ 100000 := by rw [I.wait, waitOf_length]; have := I.en'; have := I.room; omega
  obtain ⟨f1, e', I2⟩ := I.flush (by omega)
  refine (flush39 A hbr f1 hwl A.glt).mono ?_
  rintro e w1 ⟨rfl, A1, K1, B1⟩
  refine ⟨rfl, ⟨_, W, _, _, sure ++ more, [], A1, I2, hbr, by rw [List.append_nil, hn], he, by rw [hn, numL_length]; exact Nat.le_refl _⟩, hB.trans B1⟩
theorem C13.crash {l : List Bool} {v : Value} (h : C13 W0 wr d s x nx i q) (hi : i ≤ 8) (hv : KB wr v l) (hvB : ∀ a n c, v = .slice (some a) n c → 0 < l.length → a.block < W0.heap.size) :
    Calls Try.prog 18 #[.pointer (some ⟨d, 0, none⟩), v] wr fun e w' => e = .returned (.tuple #[]) ∧ K13 W0 w' d s nx i q := by
  obtain ⟨⟨D, W, u, e1, sure, more, A, I, hbr, hn, he, hq⟩, hB⟩ := h
  have hwl : D.wait.length ≤ 100000 := by rw [I.wait, waitOf_length]; have := I.en'; have := I.room; omega
  refine (lg_crash A.alone hv hvB hwl).mono ?_
  rintro e w1 ⟨rfl, A1, K1, B1⟩
  obtain ⟨j, u', e', hj, hc, hE, hf, hg, I2, hw⟩ := I.crash (by omega) (by omega) l
  have hl : (sure ++ more).length = nx := by rw [hn, numL_length]
  rw [List.length_append] at hl
  have e1 : sure ++ more.take j = numL (sure.length + j) := by
    rw [← numL_take (show sure.length + j ≤ nx by omega), ← hn, List.take_length_add_append]
  rw [e1] at I2
  exact ⟨rfl, ⟨_, _, _, _, _, _, sure.length + j, A1, I2, by omega, by omega, by omega⟩, hB.trans B1⟩
theorem K13.opens (h : K13 W0 wr d s nx i q) : Calls Try.prog 35 #[.pointer (some ⟨d, 0, none⟩)] wr fun e w' => ∃ x ua uc n, e = .returned (.tuple #[.pointer (some ⟨x, 0, none⟩), .slice ua n uc, .int .i64 0]) ∧ q ≤ n ∧ n ≤ nx ∧ RL w' (.slice ua n uc) (numL n) ∧ C13 W0 w' d s x n (i + 1) 0 := by
  obtain ⟨⟨D, h, cnt, en, u, e1, n, A, I, he, hq, hn⟩, hB⟩ := h
  refine (lg_open A I (by omega) (by omega) rfl).mono ?_
  rintro e w1 ⟨x, ua, uc, rfl, A1, hr, B1, hx⟩
  rw [numL_length] at hr ⊢
  exact ⟨x, ua, uc, n, rfl, hq, hn, hr, ⟨_, _, _, _, numL n, [], A1, I, rfl, by simp, by show great (pcs D.secs) + 1 ≤ _; omega, Nat.zero_le _⟩, hB.trans (B1.mono hB.size)⟩
theorem C13.len (h : C13 W0 wr d s x nx i q) : Calls Try.prog 46 #[.pointer (some ⟨x, 0, none⟩)] wr fun e w' => e = .returned (.int .i64 (nx : Int)) ∧ w' = wr := by
  obtain ⟨⟨D, W, u, e1, sure, more, A, I, hbr, hn, he, hq⟩, hB⟩ := h
  have := len46 A.wal
  rw [I.cnt', ← List.length_append, hn, numL_length] at this
  exact this
theorem C13.leq (h : C13 W0 wr d s x nx i q) {q' : Nat} (hq' : q' ≤ q) : C13 W0 wr d s x nx i q' := by
  obtain ⟨⟨D, W, u, e1, sure, more, A, I, hbr, hn, he, hq⟩, hB⟩ := h
  exact ⟨⟨D, W, u, e1, sure, more, A, I, hbr, hn, he, by omega⟩, hB⟩
theorem C13.i8 (h : C13 W0 wr d s x nx i q) {i' : Nat} (hi' : i ≤ i') : C13 W0 wr d s x nx i' q := by
  obtain ⟨⟨D, W, u, e1, sure, more, A, I, hbr, hn, he, hq⟩, hB⟩ := h
  exact ⟨⟨D, W, u, e1, sure, more, A, I, hbr, hn, by omega, hq⟩, hB⟩
end
end Go.Proofs.Ytnganmekiloigaa
/-! ### A log's story: what is sure, and what was appended behind that, as lists of records in memory. -/
namespace Go.Proofs.Ytnganmekiloigaa
open Go.RowKit
set_option maxRecDepth 100000
variable {w w' : World} {B d s x : Nat} {D : Dk} {W : Wl} {G G' : List Nat}
section
variable {α : Type} {E : Ety α} {L : List α} {v : Value}
/-- A value reads as a list that lies in a block of G. -/
def LVG (G : List Nat) (E : Ety α) (w : World) (v : Value) (L : List α) : Prop := LV E w v L ∧ ∀ a n c, v = .slice (some a) n c → 0 < L.length → a.block ∈ G
theorem LVG.kept (h : LVG G E w v L) (k : Kept G w w') : LVG G E w' v L := by
  obtain ⟨h1, h2⟩ := h
  obtain ⟨a, c, rfl⟩ := h1.form
  refine ⟨?_, h2⟩
  by_cases h0 : 0 < L.length
  · exact lv_keepAt h1 fun g o hg => k g (by subst hg; exact h2 _ _ _ rfl h0)
  · obtain rfl : L = [] := List.eq_nil_of_length_eq_zero (by omega)
    exact ⟨a, c, rfl, h1.cap.2, fun h => absurd h h0⟩
theorem LVG.mono (h : LVG G E w v L) (hG : ∀ g ∈ G, g ∈ G') : LVG G' E w v L := ⟨h.1, fun a n c e h0 => hG _ (h.2 a n c e h0)⟩
theorem LVG.below (h : LVG G E w v L) (k : Below w.heap.size w w') : LVG G E w' v L := ⟨h.1.below k, h.2⟩
end
/-- A value reads as a list of records; all lies in blocks of G. -/
def RLG (G : List Nat) (w : World) (v : Value) (L : List Bs) : Prop := ∃ vs : List Sl, LVG G EV w v vs ∧ vs.length = L.length ∧ ∀ (i : Nat) (y : Sl) (b : Bs), vs[i]? = some y → L[i]? = some b → LVG G EB w (slV y) b
section
variable {v : Value} {L : List Bs}
theorem RLG.kept (h : RLG G w v L) (k : Kept G w w') : RLG G w' v L := by
  obtain ⟨vs, h1, h2, h3⟩ := h
  exact ⟨vs, h1.kept k, h2, fun i y b hy hb => (h3 i y b hy hb).kept k⟩
theorem RLG.mono (h : RLG G w v L) (hG : ∀ g ∈ G, g ∈ G') : RLG G' w v L := by
  obtain ⟨vs, h1, h2, h3⟩ := h
  exact ⟨vs, h1.mono hG, h2, fun i y b hy hb => (h3 i y b hy hb).mono hG⟩
theorem RLG.below (h : RLG G w v L) (k : Below w.heap.size w w') : RLG G w' v L := by
  obtain ⟨vs, h1, h2, h3⟩ := h
  exact ⟨vs, h1.below k, h2, fun i y b hy hb => (h3 i y b hy hb).below k⟩
theorem RLG.nil (G : List Nat) (w : World) : RLG G w (.slice none 0 0) [] := ⟨[], ⟨LV.nil EV w none 0, fun a n c e => by cases e⟩, rfl, fun i y b hy => by simp at hy⟩
theorem RLG.form (h : RLG G w v L) : ∃ a c, v = .slice a L.length c := by
  obtain ⟨vs, h1, h2, _⟩ := h
  obtain ⟨a, c, rfl⟩ := h1.1.form
  exact ⟨a, c, by rw [h2]⟩
theorem RLG.rl (h : RLG G w v L) : RL w v L := by
  obtain ⟨vs, h1, h2, h3⟩ := h
  exact ⟨vs, h1.1, h2, fun i y b hy hb => (h3 i y b hy hb).1⟩
/-- A new row of records that are known. -/
theorem rlg_row {g n c : Nat} {vs : List Sl} (h : LV EV w (.slice (some ⟨g, 0, none⟩) n c) vs) (hl : vs.length = L.length) (hel : ∀ (i : Nat) (y : Sl) (b : Bs), vs[i]? = some y → L[i]? = some b → LVG G EB w (slV y) b) : RLG (g :: G) w (.slice (some ⟨g, 0, none⟩) n c) L :=
  ⟨vs, ⟨h, fun a n c e _ => by cases e; simp⟩, hl, fun i y b hy hb => (hel i y b hy hb).mono (fun g hg => List.mem_cons_of_mem _ hg)⟩
end
/-- Records behind others. -/
theorem els_app {vs ws : List Sl} {L M : List Bs} (hl : vs.length = L.length) (h1 : ∀ (i : Nat) (y : Sl) (b : Bs), vs[i]? = some y → L[i]? = some b → LVG G EB w (slV y) b) (h2 : ∀ (i : Nat) (y : Sl) (b : Bs), ws[i]? = some y → M[i]? = some b → LVG G EB w (slV y) b) :
    ∀ (i : Nat) (y : Sl) (b : Bs), (vs ++ ws)[i]? = some y → (L ++ M)[i]? = some b → LVG G EB w (slV y) b := fun i y b hy hb => by
  by_cases hi : i < vs.length
  · rw [List.getElem?_append_left hi] at hy
    rw [List.getElem?_append_left (by omega)] at hb
    exact h1 i y b hy hb
  · rw [List.getElem?_append_right (by omega)] at hy
    rw [List.getElem?_append_right (by omega), ← hl] at hb
    exact h2 _ y b hy hb
theorem els_one {y : Sl} {b : Bs} (h : LVG G EB w (slV y) b) : ∀ (i : Nat) (y' : Sl) (b' : Bs), [y][i]? = some y' → [b][i]? = some b' → LVG G EB w (slV y') b' := fun i y' b' hy hb => by
  cases i with
  | zero => simp at hy hb; subst hy hb; exact h
  | succ i => simp at hy
theorem ru_emptyE {α : Type} (E : Ety α) (t : TypeId) : RU E w.heap.size (w.alloc (.cells #[] t)) (.slice (some ⟨w.heap.size, 0, none⟩) 0 0) [] := .inl ⟨rfl, ⟨w.heap.size, 0, none⟩, rfl, Nat.le_refl _, by simp⟩
theorem lv_oneV (y : Sl) : LV EV (w.alloc (.cells #[slV y] 33)) (.slice (some ⟨w.heap.size, 0, none⟩) 1 1) [y] := lv_blk EV (L := [y]) (g := w.heap.size) (t := 33) (blk_new w [slV y] 33) 1 (by simp)
/-- A block that was there first is not the disk's. -/
theorem LG.low {g : Nat} (h : LG B w d s D x W G) (hg : g < B) : LG B w d s D x W (g :: G) := by
  have hx := h.bx
  obtain ⟨wv, p1, p2, p3, p4⟩ := h.disk
  refine ⟨⟨wv, p1, fun g' hg' => ?_, p3, p4⟩, h.wal, fun hm => ?_, h.bx⟩
  · simp only [List.mem_cons] at hg'
    rcases hg' with rfl | rfl | hg'
    · exact p2 _ (by simp)
    · exact ⟨fun hf => by have := p3 _ hf; omega, by omega⟩
    · exact p2 g' (by simp [hg'])
  · rcases List.mem_cons.1 hm with e | hm
    · omega
    · exact h.nx hm
theorem lg_bytes {q : Nat} {H : List Nat} {v : Value} {l : Bs} (h : LG B w d s D x W (q :: H)) (hq : q ∉ H) (hqB : B ≤ q) (hv : InB B w v l) : ∃ H', (∀ g ∈ H, g ∈ H') ∧ q ∉ H' ∧ LG B w d s D x W (q :: H') ∧ LVG H' EB w v l := by
  have hlv := lv_of_in hv
  obtain ⟨a, c, rfl, _, _, h3⟩ := hv
  by_cases h0 : 0 < l.length
  · obtain ⟨b, o, rfl, hb, _⟩ := h3 h0
    refine ⟨b :: H, fun g hg => List.mem_cons_of_mem _ hg, fun hm => ?_, (h.low hb).less (fun g hg => ?_), hlv, fun a n c e _ => by cases e; simp⟩
    · rcases List.mem_cons.1 hm with e | hm
      · omega
      · exact hq hm
    · simp only [List.mem_cons] at hg ⊢
      rcases hg with rfl | rfl | hg
      · exact .inr (.inl rfl)
      · exact .inl rfl
      · exact .inr (.inr hg)
  · exact ⟨H, fun g hg => hg, hq, h, hlv, fun a n c e h => absurd h h0⟩
/-- A block of one's own is turned. -/
theorem LG.poke {q : Nat} (h : LG B w d s D x W G) (hq : q ∈ G) (k : Keep (fun b => b = q) w w') : LG B w' d s D x W G :=
  ⟨(Alone.keepOne (g := q) (G := x :: G) (h.disk.less (fun g hg => by
    simp only [List.mem_cons] at hg ⊢
    rcases hg with rfl | rfl | hg
    · exact .inr hq
    · exact .inl rfl
    · exact .inr hg)) k).less (fun g hg => List.mem_cons_of_mem _ hg), h.wal.block (k.block x h.wal.lt (fun e => h.nx (e ▸ hq))), h.nx, h.bx⟩
/-- A log, and its story in the block q. -/
structure Sy (B : Nat) (w : World) (d s x q E : Nat) : Prop where
  ex : ∃ D W H u e1 S M sv mv, LG B w d s D x W (q :: H) ∧ q ∉ H ∧ B ≤ q ∧ Inv 6 D W.half W.e W.cnt W.en u e1 S M ∧ W.br = false ∧ W.e ≤ E ∧ Blk w q [sv, mv] 67 ∧ RLG H w sv S ∧ RLG H w mv M
theorem Sy.below {q E : Nat} (h : Sy B w d s x q E) (k : Below w.heap.size w w') : Sy B w' d s x q E := by
  obtain ⟨D, W, H, u, e1, S, M, sv, mv, A, hq, hB, I, hbr, he, hb, hS, hM⟩ := h.ex
  exact ⟨D, W, H, u, e1, S, M, sv, mv, A.below k, hq, hB, I, hbr, he, hb.below k, hS.below k, hM.below k⟩
theorem Sy.up {q E E' : Nat} (h : Sy B w d s x q E) (hE : E ≤ E') : Sy B w d s x q E' := by
  obtain ⟨D, W, H, u, e1, S, M, sv, mv, A, hq, hB, I, hbr, he, hb, hS, hM⟩ := h.ex
  exact ⟨D, W, H, u, e1, S, M, sv, mv, A, hq, hB, I, hbr, by omega, hb, hS, hM⟩
theorem lay_len {e : Nat} : ∀ {l : List Bs} {u : Nat}, (∀ b ∈ l, 1 ≤ b.length) → l.length ≤ (layAll e u l).length
  | [], _, _ => by simp
  | b :: r, u, h => by
    rw [layAll, List.length_append, lay_length, List.length_cons]
    have h1 := h b (by simp)
    have h2 := lay_len (e := e) (l := r) (u := u + np b) (fun c hc => h c (by simp [hc]))
    have : 1 ≤ np b := by unfold np; omega
    omega
/-- A log has no more records than a half has sectors. -/
theorem Inv.few {R h E cnt en u e1 : Nat} {sure more : List Bs} (i : Inv R D h E cnt en u e1 sure more) : sure.length + more.length ≤ R := by
  have h1 := i.chain.le
  have h2 := lay_len (e := E) (u := u) (l := more) (fun b hb => (i.recs b hb).1)
  have := i.en'
  have := i.room
  omega
theorem short40 (a : Option Addr) (n c : Nat) (hn : n ≤ c) (w : World) : Calls Try.prog 40 #[.slice a n c] w fun e w' => e = .returned (.slice a (min n 400) c) ∧ w' = w := by
  by_cases h : 400 < n
  · have h1 : (400 : Int) < (n : Int) := by omega
    have h2 : 400 ≤ c := by omega
    have h3 : (400 : Int) ≤ (c : Int) := by omega
    have h4 : ¬ c < 400 := by omega
    have h5 : min n 400 = 400 := by omega
    rw [h5]
    clear h5
    go_enter Try.func40, Try.ntmps40
    go_wp2
    go_ret
    exact ⟨rfl, rfl⟩
  · have h1 : ¬ (400 : Int) < (n : Int) := by omega
    have h5 : min n 400 = n := by omega
    rw [h5]
    clear h5
    go_enter Try.func40, Try.ntmps40
    go_wp2
    go_ret
    exact ⟨rfl, rfl⟩
theorem bits37 (a : Option Addr) (n c : Nat) (hn : n ≤ c) (w : World) : Calls Try.prog 37 #[.slice a n c] w fun e w' => e = .returned (.slice a (min n 40) c) ∧ w' = w := by
  by_cases h : 40 < n
  · have h1 : (40 : Int) < (n : Int) := by omega
    have h2 : 40 ≤ c := by omega
    have h3 : (40 : Int) ≤ (c : Int) := by omega
    have h4 : ¬ c < 40 := by omega
    have h5 : min n 40 = 40 := by omega
    rw [h5]
    clear h5
    go_enter Try.func37, Try.ntmps37
    go_wp2
    go_ret
    exact ⟨rfl, rfl⟩
  · have h1 : ¬ (40 : Int) < (n : Int) := by omega
    have h5 : min n 40 = n := by omega
    rw [h5]
    clear h5
    go_enter Try.func37, Try.ntmps37
    go_wp2
    go_ret
    exact ⟨rfl, rfl⟩
theorem inb_take {B0 : Nat} {a : Option Addr} {n c k : Nat} {l : Bs} (h : InB B0 w (.slice a n c) l) : InB B0 w (.slice a (min n k) c) (l.take k) := by
  obtain ⟨a', c', hv, h1, h2, h3⟩ := h
  simp only [Value.slice.injEq] at hv
  obtain ⟨rfl, rfl, rfl⟩ := hv
  refine ⟨a, c, by rw [List.length_take, Nat.min_comm], by rw [List.length_take]; omega, h2, fun h0 => ?_⟩
  rw [List.length_take] at h0
  obtain ⟨b, o, rfl, hb, hat⟩ := h3 (by omega)
  refine ⟨b, o, rfl, hb, fun i hi => ?_⟩
  rw [List.length_take] at hi
  rw [hat i (by omega)]
  simp [List.getD_eq_getElem?_getD, show i < k by omega]
theorem ink_take {B0 : Nat} {a : Option Addr} {n c k : Nat} {l : List Bool} (h : InK B0 w (.slice a n c) l) : InK B0 w (.slice a (min n k) c) (l.take k) := by
  obtain ⟨a', c', hv, h1, h2, h3⟩ := h
  simp only [Value.slice.injEq] at hv
  obtain ⟨rfl, rfl, rfl⟩ := hv
  refine ⟨a, c, by rw [List.length_take, Nat.min_comm], by rw [List.length_take]; omega, h2, fun h0 => ?_⟩
  rw [List.length_take] at h0
  obtain ⟨b, o, rfl, hb, hat⟩ := h3 (by omega)
  refine ⟨b, o, rfl, hb, fun i hi => ?_⟩
  rw [List.length_take] at hi
  rw [hat i (by omega)]
  simp [List.getD_eq_getElem?_getD, show i < k by omega]
end Go.Proofs.Ytnganmekiloigaa
