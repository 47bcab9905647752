/- The program's disk alone; live. -/
import Derived.Test.YtnganmekiloigaaPy
namespace Go.Proofs.Ytnganmekiloigaa
open Go.RowKit
set_option maxRecDepth 100000
variable {w w' : World} {B d s : Nat} {D : Dk} {G : List Nat}

/-- The program's disk; none of these blocks is its. -/
def Alone (B : Nat) (w : World) (d s : Nat) (D : Dk) (G : List Nat) : Prop := ∃ wv, PD w d s wv D ∧ (∀ g ∈ G, ¬ foot d s wv g ∧ g < w.heap.size) ∧ (∀ k, foot d s wv k → B ≤ k) ∧ B ≤ w.heap.size
/-- These blocks are as they were. -/
def Kept (G : List Nat) (w w' : World) : Prop := ∀ g ∈ G, w'.heap[g]? = w.heap[g]?
theorem Alone.new (h : Alone B w d s D G) (o : Obj) : Alone B (w.alloc o) d s D (w.heap.size :: G) := by
  obtain ⟨wv, h1, h2, hb, hz⟩ := h
  refine ⟨wv, h1.below (al w o), fun g hg => ?_, hb, by simp; omega⟩
  rcases List.mem_cons.1 hg with rfl | hg
  · exact ⟨fun hf => Nat.lt_irrefl _ (h1.foot_lt _ hf), by simp⟩
  · exact ⟨(h2 g hg).1, by have := (h2 g hg).2; simp; omega⟩
theorem Alone.below (h : Alone B w d s D G) (hb : Below w.heap.size w w') : Alone B w' d s D G := by
  obtain ⟨wv, h1, h2, h3, h4⟩ := h
  exact ⟨wv, h1.below hb, fun g hg => ⟨(h2 g hg).1, Nat.lt_of_lt_of_le (h2 g hg).2 hb.size⟩, h3, Nat.le_trans h4 hb.size⟩
theorem Alone.less {G' : List Nat} (h : Alone B w d s D G) (hG : ∀ g ∈ G', g ∈ G) : Alone B w d s D G' := by
  obtain ⟨wv, h1, h2, h3⟩ := h
  exact ⟨wv, h1, fun g hg => h2 g (hG g hg), h3⟩
theorem kept_below (h : Alone B w d s D G) (hb : Below w.heap.size w w') : Kept G w w' := by
  obtain ⟨wv, h1, h2, _⟩ := h
  exact fun g hg => hb.block g (h2 g hg).2
theorem alone_left {wv : Value} {D' : Dk} (h2 : ∀ g ∈ G, ¬ foot d s wv g ∧ g < w.heap.size) (hb : (∀ k, foot d s wv k → B ≤ k) ∧ B ≤ w.heap.size) (hl : Left w d s wv D' w') : Alone B w' d s D' G ∧ Kept G w w' ∧ Below B w w' := by
  obtain ⟨wv', h3, h4, h5⟩ := hl
  refine ⟨⟨wv', h3, fun g hg => ⟨fun hf => ?_, Nat.lt_of_lt_of_le (h2 g hg).2 h4.size⟩, fun k hk => ?_, Nat.le_trans hb.2 h4.size⟩, fun g hg => h4.block g (h2 g hg).2 (h2 g hg).1, h4.below hb.2 hb.1⟩
  · rcases h5 g hf with hf | hf
    · exact (h2 g hg).1 hf
    · have := (h2 g hg).2
      omega
  · rcases h5 k hk with hf | hf
    · exact hb.1 k hf
    · exact Nat.le_trans hb.2 hf
/-- A Write, a Crash, a Cut, a Flush, a Read: the disk alone. -/
theorem alone22 (h : Alone B w d s D G) (i : Int) (v : Value) (l : Bs) (hv : SB w v l) (hvG : ∀ a n c, v = .slice (some a) n c → 0 < l.length → a.block ∈ G) (hw : D.wait.length ≤ 100000) :
    Calls Try.prog 22 #[.pointer (some ⟨d, 0, none⟩), .int .i64 i, v] w fun e w' => e = .returned (.int .i64 (D.write i l).1) ∧ Alone B w' d s (D.write i l).2 G ∧ Kept G w w' ∧ Below B w w' := by
  obtain ⟨wv, h1, h2, hb⟩ := h
  refine (write22 h1 i v l hv (fun a n c e h0 hf => (h2 _ (hvG a n c e h0)).1 hf) hw).mono ?_
  rintro e w' ⟨h3, h4⟩
  exact ⟨h3, alone_left h2 hb h4⟩
theorem alone18 (h : Alone B w d s D G) (v : Value) (l : List Bool) (hv : KB w v l) (hvG : ∀ a n c, v = .slice (some a) n c → 0 < l.length → a.block ∈ G) (hw : D.wait.length ≤ 100000) :
    Calls Try.prog 18 #[.pointer (some ⟨d, 0, none⟩), v] w fun e w' => e = .returned (.tuple #[]) ∧ Alone B w' d s (D.crash l) G ∧ Kept G w w' ∧ Below B w w' := by
  obtain ⟨wv, h1, h2, hb⟩ := h
  refine (crash18 h1 hw v l hv (fun a n c e h0 hf => (h2 _ (hvG a n c e h0)).1 hf)).mono ?_
  rintro e w' ⟨h3, h4⟩
  exact ⟨h3, alone_left h2 hb h4⟩
theorem alone23 (h : Alone B w d s D G) (n : Int) (hn : -9223372036854775808 ≤ n ∧ n ≤ 9223372036854775807) :
    Calls Try.prog 23 #[.pointer (some ⟨d, 0, none⟩), .int .i64 n] w fun e w' => e = .returned (.tuple #[]) ∧ Alone B w' d s (D.doCut n) G ∧ Kept G w w' ∧ Below B w w' := by
  obtain ⟨wv, h1, h2, hb⟩ := h
  refine (cut23 h1 n hn).mono ?_
  rintro e w' ⟨h3, h4, h5⟩
  exact ⟨h3, alone_left h2 hb (Left.same h4 h5)⟩
theorem alone24 (h : Alone B w d s D G) (hw : D.wait.length ≤ 100000) :
    Calls Try.prog 24 #[.pointer (some ⟨d, 0, none⟩)] w fun e w' => e = .returned (.int .i64 D.flush.1) ∧ Alone B w' d s D.flush.2 G ∧ Kept G w w' ∧ Below B w w' := by
  obtain ⟨wv, h1, h2, hb⟩ := h
  refine (flush24 h1 hw).mono ?_
  rintro e w' ⟨h3, h4⟩
  exact ⟨h3, alone_left h2 hb h4⟩
theorem alone20 (h : Alone B w d s D G) : Calls Try.prog 20 #[.pointer (some ⟨d, 0, none⟩)] w fun e w' => e = .returned (.bool D.off) ∧ w' = w := by
  obtain ⟨wv, h1, _⟩ := h
  exact off20 h1
theorem alone21 (h : Alone B w d s D G) : Calls Try.prog 21 #[.pointer (some ⟨d, 0, none⟩)] w fun e w' => e = .returned (.int .i64 (D.wait.length : Int)) ∧ w' = w := by
  obtain ⟨wv, h1, _⟩ := h
  exact waiting21 h1
theorem alone19 (h : Alone B w d s D G) (i : Int) (hr : D.reach i = 0) (hw : D.wait.length ≤ 100000) :
    Calls Try.prog 19 #[.pointer (some ⟨d, 0, none⟩), .int .i64 i] w fun e w' => ∃ g, e = .returned (.tuple #[.slice (some ⟨g, 0, none⟩) 64 64, .int .i64 0]) ∧ Alone B w' d s D (g :: G) ∧ Kept G w w' ∧ Blk w' g (cellsB (D.read i).1) 5 ∧ (D.read i).1.length = 64 ∧ Below w.heap.size w w' := by
  have h' := h
  obtain ⟨wv, h1, h2, hb⟩ := h
  have hii : 0 ≤ i ∧ i < D.secs.length := by
    unfold Dk.reach at hr
    split at hr
    · omega
    · split at hr
      · assumption
      · omega
  have hrd : D.read i = (latest D.secs D.wait i.toNat, 0) := by unfold Dk.read; rw [if_pos hr]
  have hl := latest_length h1.ok i.toNat (by omega)
  refine (read19 h1 i hw).mono ?_
  rintro e w' ⟨v, h3, h4, h5⟩
  rw [hrd] at h3 h4 ⊢
  rcases h4 with ⟨_, e0⟩ | ⟨g, rfl, h6, h7, h8⟩
  · simp only at e0
    rw [e0] at hl
    simp at hl
  · refine ⟨g, h3, ?_, kept_below h' h5, h7, hl, h5⟩
    refine ⟨wv, h1.below h5, fun k hk => ?_, hb.1, Nat.le_trans hb.2 h5.size⟩
    rcases List.mem_cons.1 hk with rfl | hk
    · exact ⟨fun hf => by have := h1.foot_lt _ hf; omega, h7.lt⟩
    · exact ⟨(h2 k hk).1, Nat.lt_of_lt_of_le (h2 k hk).2 h5.size⟩
theorem sb_new (w : World) (b : UInt8) : SB (w.alloc (.cells #[.int .u8 (b.toNat : Int)] 5)) (.slice (some ⟨w.heap.size, 0, none⟩) 1 1) [b] := by
  refine .inr ⟨w.heap.size, 0, 1, rfl, by simp, by simp, by simp [maxLen], fun i hi => ?_⟩
  have hi0 : i = 0 := by simp at hi; omega
  subst hi0
  exact (blk_new w [.int .u8 (b.toNat : Int)] 5).cell 0
theorem kb_new (w : World) (b : Bool) : KB (w.alloc (.cells #[.bool b] 4)) (.slice (some ⟨w.heap.size, 0, none⟩) 1 1) [b] := by
  refine .inr ⟨w.heap.size, 0, 1, rfl, by simp, fun i hi => ?_⟩
  have hi0 : i = 0 := by simp at hi; omega
  subst hi0
  exact (blk_new w [.bool b] 4).cell 0
theorem Kept.blk {g : Nat} {l : List Value} {t : TypeId} (h : Blk w g l t) (hk : Kept G w w') (hg : g ∈ G) : Blk w' g l t := h.block (hk g hg)

def L1 : Dk := ((newDk 2).write 0 [7]).2
def L2 : Dk := L1.crash []
def L3 : Dk := L2.doCut 1
def L4 : Dk := (L3.write 1 [9]).2
def L5 : Dk := (L4.write 1 []).2
def L6 : Dk := L5.crash [true]

theorem live_foot {z k : Nat} (h : foot (z + 1) z (.slice none 0 0) k) : z ≤ k := by
  rcases h with h | h | h
  · omega
  · omega
  · cases h
set_option maxHeartbeats 1000000 in
theorem live_aux (W : World) (L0 L1 L2 L3 L4 L5 L6 : Dk) (b2 b6 : Bs) (c29 : Calls Try.prog 29 #[.int .i64 2] W fun e w' => e = .returned (.pointer (some ⟨W.heap.size + 1, 0, none⟩)) ∧ PD w' (W.heap.size + 1) W.heap.size (.slice none 0 0) L0 ∧ Below W.heap.size W w')
    (d1 : L0.write 0 [7] = (0, L1)) (d2 : L1.crash [] = L2) (d3 : L2.doCut 1 = L3) (d4 : L3.write 1 [9] = (0, L4)) (d5 : L4.write 1 [] = (7, L5)) (d6 : L5.crash [true] = L6) (f4 : L5.off = true) (r2 : L2.reach 0 = 0) (r6 : L6.reach 1 = 0) (q2 : L2.read 0 = (b2, 0)) (q6 : L6.read 1 = (b6, 0))
    (z2 : (cellsB b2)[0]? = some (.int .u8 0)) (z6 : (cellsB b6)[0]? = some (.int .u8 9))
    (n0 : L0.wait.length ≤ 100000) (n1 : L1.wait.length ≤ 100000) (n2 : L2.wait.length ≤ 100000) (n3 : L3.wait.length ≤ 100000) (n4 : L4.wait.length ≤ 100000) (n5 : L5.wait.length ≤ 100000) (n6 : L6.wait.length ≤ 100000) :
    Calls Try.prog 16 #[] W fun e w' => e = .returned (.bool true) ∧ Below W.heap.size W w' := by
  have HA0 : Hid (∀ w1, PD w1 (W.heap.size + 1) W.heap.size (.slice none 0 0) L0 → Below W.heap.size W w1 → Alone W.heap.size w1 (W.heap.size + 1) W.heap.size L0 []) := fun w1 h1 hB => ⟨_, h1, fun g hg => by simp at hg, fun k hk => live_foot hk, hB.size⟩
  have H1 : Hid (∀ w1, Alone W.heap.size w1 (W.heap.size + 1) W.heap.size L0 [] → Calls Try.prog 22 #[.pointer (some ⟨W.heap.size + 1, 0, none⟩), .int .i64 0, .slice (some ⟨w1.heap.size, 0, none⟩) 1 1] (w1.alloc (.cells #[.int .u8 7] 5)) fun e w' => e = .returned (.int .i64 0) ∧ Alone W.heap.size w' (W.heap.size + 1) W.heap.size L1 [w1.heap.size] ∧ Kept [w1.heap.size] (w1.alloc (.cells #[.int .u8 7] 5)) w' ∧ Below W.heap.size (w1.alloc (.cells #[.int .u8 7] 5)) w') := fun w1 h => by
    have := alone22 (h.new (.cells #[.int .u8 7] 5)) 0 _ [7] (sb_new w1 7) (fun a n c e _ => by cases e; simp) n0
    rw [d1] at this
    exact this
  have H2 : Hid (∀ w2 G, Alone W.heap.size w2 (W.heap.size + 1) W.heap.size L1 G → Calls Try.prog 18 #[.pointer (some ⟨W.heap.size + 1, 0, none⟩), .slice none 0 0] w2 fun e w' => e = .returned (.tuple #[]) ∧ Alone W.heap.size w' (W.heap.size + 1) W.heap.size L2 G ∧ Kept G w2 w' ∧ Below W.heap.size w2 w') := fun w2 G h => by
    have := alone18 h (.slice none 0 0) [] (.inl ⟨none, 0, rfl, rfl⟩) (fun a n c e _ => by cases e) n1
    rw [d2] at this
    exact this
  have H3 : Hid (∀ w3 G, Alone W.heap.size w3 (W.heap.size + 1) W.heap.size L2 G → Calls Try.prog 19 #[.pointer (some ⟨W.heap.size + 1, 0, none⟩), .int .i64 0] w3 fun e w' => ∃ g, e = .returned (.tuple #[.slice (some ⟨g, 0, none⟩) 64 64, .int .i64 0]) ∧ Alone W.heap.size w' (W.heap.size + 1) W.heap.size L2 (g :: G) ∧ Kept G w3 w' ∧ Blk w' g (cellsB b2) 5 ∧ b2.length = 64 ∧ Below w3.heap.size w3 w') := fun w3 G h => by
    have := alone19 h 0 r2 n2
    rw [q2] at this
    exact this
  have H4 : Hid (∀ w4 G, Alone W.heap.size w4 (W.heap.size + 1) W.heap.size L2 G → Calls Try.prog 23 #[.pointer (some ⟨W.heap.size + 1, 0, none⟩), .int .i64 1] w4 fun e w' => e = .returned (.tuple #[]) ∧ Alone W.heap.size w' (W.heap.size + 1) W.heap.size L3 G ∧ Kept G w4 w' ∧ Below W.heap.size w4 w') := fun w4 G h => by
    have := alone23 h 1 (by omega)
    rw [d3] at this
    exact this
  have H5 : Hid (∀ w5 G, Alone W.heap.size w5 (W.heap.size + 1) W.heap.size L3 G → Calls Try.prog 22 #[.pointer (some ⟨W.heap.size + 1, 0, none⟩), .int .i64 1, .slice (some ⟨w5.heap.size, 0, none⟩) 1 1] (w5.alloc (.cells #[.int .u8 9] 5)) fun e w' => e = .returned (.int .i64 0) ∧ Alone W.heap.size w' (W.heap.size + 1) W.heap.size L4 (w5.heap.size :: G) ∧ Kept (w5.heap.size :: G) (w5.alloc (.cells #[.int .u8 9] 5)) w' ∧ Below W.heap.size (w5.alloc (.cells #[.int .u8 9] 5)) w') := fun w5 G h => by
    have := alone22 (h.new (.cells #[.int .u8 9] 5)) 1 _ [9] (sb_new w5 9) (fun a n c e _ => by cases e; simp) n3
    rw [d4] at this
    exact this
  have H6 : Hid (∀ w6 G, Alone W.heap.size w6 (W.heap.size + 1) W.heap.size L4 G → Calls Try.prog 22 #[.pointer (some ⟨W.heap.size + 1, 0, none⟩), .int .i64 1, .slice none 0 0] w6 fun e w' => e = .returned (.int .i64 7) ∧ Alone W.heap.size w' (W.heap.size + 1) W.heap.size L5 G ∧ Kept G w6 w' ∧ Below W.heap.size w6 w') := fun w6 G h => by
    have := alone22 h 1 (.slice none 0 0) [] (.inl ⟨none, 0, rfl, rfl⟩) (fun a n c e _ => by cases e) n4
    rw [d5] at this
    exact this
  have H7 : Hid (∀ w7 G, Alone W.heap.size w7 (W.heap.size + 1) W.heap.size L5 G → Calls Try.prog 20 #[.pointer (some ⟨W.heap.size + 1, 0, none⟩)] w7 fun e w' => e = .returned (.bool true) ∧ w' = w7) := fun w7 G h => by
    have := alone20 h
    rw [f4] at this
    exact this
  have H8 : Hid (∀ w8 G, Alone W.heap.size w8 (W.heap.size + 1) W.heap.size L5 G → Calls Try.prog 18 #[.pointer (some ⟨W.heap.size + 1, 0, none⟩), .slice (some ⟨w8.heap.size, 0, none⟩) 1 1] (w8.alloc (.cells #[.bool true] 4)) fun e w' => e = .returned (.tuple #[]) ∧ Alone W.heap.size w' (W.heap.size + 1) W.heap.size L6 (w8.heap.size :: G) ∧ Kept (w8.heap.size :: G) (w8.alloc (.cells #[.bool true] 4)) w' ∧ Below W.heap.size (w8.alloc (.cells #[.bool true] 4)) w') := fun w8 G h => by
    have := alone18 (h.new (.cells #[.bool true] 4)) _ [true] (kb_new w8 true) (fun a n c e _ => by cases e; simp) n5
    rw [d6] at this
    exact this
  have H9 : Hid (∀ w9 G, Alone W.heap.size w9 (W.heap.size + 1) W.heap.size L6 G → Calls Try.prog 19 #[.pointer (some ⟨W.heap.size + 1, 0, none⟩), .int .i64 1] w9 fun e w' => ∃ g, e = .returned (.tuple #[.slice (some ⟨g, 0, none⟩) 64 64, .int .i64 0]) ∧ Alone W.heap.size w' (W.heap.size + 1) W.heap.size L6 (g :: G) ∧ Kept G w9 w' ∧ Blk w' g (cellsB b6) 5 ∧ b6.length = 64 ∧ Below w9.heap.size w9 w') := fun w9 G h => by
    have := alone19 h 1 r6 n6
    rw [q6] at this
    exact this
  clear r2 r6 f4 n0 n1 n2 n3 n4 n5 n6 d1 d2 d3 d4 d5 d6 q2 q6
  go_enter Try.func16, Try.ntmps16
  go_wp2_with (first
    | (go_at_call 29; (refine c29.mono ?_; rintro e w1 ⟨rfl, hp1, hB1⟩; have A1 := HA0.out w1 hp1 hB1; clear hp1 c29 HA0))
    | (go_at_call 22; (refine (H1.out w1 A1).mono ?_; rintro e w2 ⟨rfl, A2, K2, B2⟩; have F2 := hB1.trans (((al w1 _).mono hB1.size).trans B2); clear H1 K2 B2 A1 hB1))
    | (go_at_call 18; (refine (H2.out w2 _ A2).mono ?_; rintro e w3 ⟨rfl, A3, K3, B3⟩; have F3 := F2.trans B3; clear H2 K3 B3 A2 F2))
    | (go_at_call 19; (refine (H3.out w3 _ A3).mono ?_; rintro e w4 ⟨g4, rfl, A4, K4, Q4, _, B4⟩; have F4 := F3.trans (B4.mono F3.size); clear H3 K4 B4 A3 F3))
    | (go_at_call 23; (refine (H4.out w4 _ A4).mono ?_; rintro e w5 ⟨rfl, A5, K5, B5⟩; have F5 := F4.trans B5; have Q5 := (Kept.blk Q4 K5 (by simp)).below (al w5 (.cells #[.int .u8 9] 5)); clear H4 K5 B5 A4 F4 Q4))
    | (go_at_call 22; (refine (H5.out w5 _ A5).mono ?_; rintro e w6 ⟨rfl, A6, K6, B6⟩; have F6 := F5.trans (((al w5 _).mono F5.size).trans B6); have Q6 := Kept.blk Q5 K6 (by simp); clear H5 K6 B6 A5 F5 Q5))
    | (go_at_call 22; (refine (H6.out w6 _ A6).mono ?_; rintro e w7 ⟨rfl, A7, K7, B7⟩; have F7 := F6.trans B7; have Q7 := Kept.blk Q6 K7 (by simp); clear H6 K7 B7 A6 F6 Q6))
    | (go_at_call 20; (refine (H7.out w7 _ A7).mono ?_; rintro e w8 ⟨rfl, rfl⟩; have Q8 := Q7.below (al w8 (.cells #[.bool true] 4)); clear H7 Q7))
    | (go_at_call 18; (refine (H8.out w8 _ A7).mono ?_; rintro e w9 ⟨rfl, A9, K9, B9⟩; have F9 := F7.trans (((al w8 _).mono F7.size).trans B9); have Q9 := Kept.blk Q8 K9 (by simp); clear H8 K9 B9 A7 F7 Q8))
    | (go_at_call 19; (refine (H9.out w9 _ A9).mono ?_; rintro e wa ⟨ga, rfl, Aa, Ka, Qa, _, Ba⟩; have Fa := F9.trans (Ba.mono F9.size); have y2 : wa.cell? ⟨g4, 0, none⟩ = some (.int .u8 0) := ((Kept.blk Q9 Ka (by simp)).cell 0).trans z2; have y6 : wa.cell? ⟨ga, 0, none⟩ = some (.int .u8 9) := (Qa.cell 0).trans z6; clear H9 Ka Ba A9 Aa F9 Q9 Qa)))
  go_ret
  exact ⟨rfl, Fa⟩

theorem live16 (W : World) : Calls Try.prog 16 #[] W fun e w' => e = .returned (.bool true) ∧ Below W.heap.size W w' :=
  live_aux W (newDk 2) L1 L2 L3 L4 L5 L6 (L2.read 0).1 (L6.read 1).1 (new29 2 W (by omega) (by omega)) (by kernel_rfl) (by kernel_rfl) (by kernel_rfl) (by kernel_rfl) (by kernel_rfl) (by kernel_rfl) (by kernel_rfl) (by kernel_rfl) (by kernel_rfl) (by kernel_rfl) (by kernel_rfl) (by kernel_rfl) (by kernel_rfl) (by decide) (by decide) (by decide) (by decide) (by decide) (by decide) (by decide)
end Go.Proofs.Ytnganmekiloigaa
