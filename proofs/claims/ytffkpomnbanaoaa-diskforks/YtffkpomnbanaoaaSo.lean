/- The law DiskSome. -/
import Derived.Test.YtffkpomnbanaoaaCu
namespace Go.Proofs.Ytffkpomnbanaoaa
open Go.RowKit
set_option maxRecDepth 100000

theorem InB.up {W W' : World} {v : Value} {l : Bs} (h : InB W.heap.size W v l) (hB : Below W.heap.size W W') : InB W'.heap.size W' v l := by
  obtain ⟨a, c, h1, h2, h3, h4⟩ := h
  refine ⟨a, c, h1, h2, h3, fun h0 => ?_⟩
  obtain ⟨b, o, e, hb, hat⟩ := h4 h0
  exact ⟨b, o, e, Nat.lt_of_lt_of_le hb hB.size, fun i hi => (hB.cell (p := ⟨b, o + i, none⟩) hb).trans (hat i hi)⟩
theorem InK.up {W W' : World} {v : Value} {l : List Bool} (h : InK W.heap.size W v l) (hB : Below W.heap.size W W') : InK W'.heap.size W' v l := by
  obtain ⟨a, c, h1, h2, h3, h4⟩ := h
  refine ⟨a, c, h1, h2, h3, fun h0 => ?_⟩
  obtain ⟨b, o, e, hb, hat⟩ := h4 h0
  exact ⟨b, o, e, Nat.lt_of_lt_of_le hb hB.size, fun i hi => (hB.cell (p := ⟨b, o + i, none⟩) hb).trans (hat i hi)⟩
theorem InD.up {W W' : World} {v : Value} {l : List Deed} (h : InD W.heap.size W v l) (hB : Below W.heap.size W W') : InD W'.heap.size W' v l := by
  obtain ⟨a, c, h1, h2, h3⟩ := h
  refine ⟨a, c, h1, h2, fun h0 => ?_⟩
  obtain ⟨b, o, e, hb, hat⟩ := h3 h0
  refine ⟨b, o, e, Nat.lt_of_lt_of_le hb hB.size, fun j x hx => ?_⟩
  obtain ⟨vb, vk, ⟨y0, y1, y2, y3⟩, hib, hik, hr⟩ := hat j x hx
  exact ⟨vb, vk, ⟨(hB.cell (p := ⟨b, o + j * 4, none⟩) hb).trans y0, (hB.cell (p := ⟨b, o + j * 4 + 1, none⟩) hb).trans y1, (hB.cell (p := ⟨b, o + j * 4 + 2, none⟩) hb).trans y2, (hB.cell (p := ⟨b, o + j * 4 + 3, none⟩) hb).trans y3⟩, hib.up hB, hik.up hB, hr⟩

/-- A disk that is neither cut nor off, of four sectors, where nothing waits. -/
structure Calm (D : Dk) : Prop where
  secs : D.secs.length = 4
  wait : D.wait = []
  cut : D.cut = false
  off : D.off = false
theorem calm_crash (l : List Deed) : Calm ((played l).crash []) := ⟨by simp [Dk.crash, land_length, (played_secs l).1], rfl, rfl, rfl⟩
theorem calm_reach {D : Dk} (h1 : D.secs.length = 4) (h2 : D.off = false) : D.reach 2 = 0 := by
  unfold Dk.reach
  rw [h2, if_neg (by simp), if_pos (by rw [h1]; omega)]
theorem calm_write {D : Dk} (h1 : D.secs.length = 4) (h2 : D.off = false) (h3 : D.cut = false) (x : UInt8) : D.write 2 [x] = (0, { D with wait := D.wait ++ [(2, pad [x])] }) := by
  have hs : D.spend = (true, D) := by unfold Dk.spend; rw [h3, if_neg (by simp)]
  unfold Dk.write
  rw [if_pos (calm_reach h1 h2), if_pos (by simp), hs]
  rfl
theorem calm_read {D : Dk} (h1 : D.secs.length = 4) (h2 : D.off = false) (h3 : D.wait = []) : D.read 2 = (D.secs.getD 2 [], 0) := by
  unfold Dk.read
  rw [if_pos (calm_reach h1 h2), h3]
  rfl
theorem pad_first (x : UInt8) : (cellsB (pad [x]))[0]? = some (.int .u8 (x.toNat : Int)) := by simp [cellsB, pad]
/-- What becomes of the sector. -/
theorem some_sector {D : Dk} (h : Calm D) (x0 x1 : UInt8) (k0 k1 : Bool) :
    let D4 := ({ D with wait := [(2, pad [x0]), (2, pad [x1])] } : Dk).crash [k0, k1]
    D4.reach 2 = 0 ∧ D4.read 2 = (if k1 then pad [x1] else if k0 then pad [x0] else D.secs.getD 2 [], 0) := by
  intro D4
  have h1 : D4.secs.length = 4 := by simp [D4, Dk.crash, land_length, h.secs]
  have h2 : D4.off = false := rfl
  refine ⟨calm_reach h1 h2, ?_⟩
  rw [calm_read h1 h2 rfl]
  have hl : 2 < D.secs.length := by rw [h.secs]; omega
  have e : D4.secs = if k1 then (if k0 then D.secs.set 2 (pad [x0]) else D.secs).set 2 (pad [x1]) else (if k0 then D.secs.set 2 (pad [x0]) else D.secs) := rfl
  rw [e]
  cases k0 <;> cases k1 <;> simp [List.getD_eq_getElem?_getD, hl]

theorem alone22_new {B d s : Nat} {D : Dk} {G : List Nat} {w : World} (h : Alone B w d s D G) (x : UInt8) (hw : D.wait.length ≤ 100000) :
    Calls Try.prog 22 #[.pointer (some ⟨d, 0, none⟩), .int .i64 2, .slice (some ⟨w.heap.size, 0, none⟩) 1 1] (w.alloc (.cells #[.int .u8 (x.toNat : Int)] 5)) fun e w' => e = .returned (.int .i64 (D.write 2 [x]).1) ∧ Alone B w' d s (D.write 2 [x]).2 G ∧ Kept G w w' ∧ Below B w w' := by
  have hz : B ≤ w.heap.size := by obtain ⟨_, _, _, _, hz⟩ := h; exact hz
  refine (alone22 (h.new (.cells #[.int .u8 (x.toNat : Int)] 5)) 2 _ [x] (sb_new w x) (fun a n c e _ => by cases e; simp) hw).mono ?_
  rintro e w' ⟨h1, h2, h3, h4⟩
  refine ⟨h1, h2.less (fun g hg => by simp [hg]), fun g hg => (h3 g (by simp [hg])).trans (kept_below h (al w _) g hg), ((al w _).mono hz).trans h4⟩
theorem alone22_over {B d s : Nat} {D : Dk} {G : List Nat} {w : World} (h : Alone B w d s D G) (x y : UInt8) (hw : D.wait.length ≤ 100000) :
    Calls Try.prog 22 #[.pointer (some ⟨d, 0, none⟩), .int .i64 2, .slice (some ⟨w.heap.size, 0, none⟩) 1 1] ((w.alloc (.cells #[.int .u8 (x.toNat : Int)] 5)).alloc (.cells #[.int .u8 (y.toNat : Int)] 5)) fun e w' => e = .returned (.int .i64 (D.write 2 [x]).1) ∧ Alone B w' d s (D.write 2 [x]).2 ((w.heap.size + 1) :: G) ∧ Kept G w w' ∧ Below B w w' ∧ Blk w' (w.heap.size + 1) [.int .u8 (y.toNat : Int)] 5 := by
  have hz : B ≤ w.heap.size := by obtain ⟨_, _, _, _, hz⟩ := h; exact hz
  have h' := (h.new (.cells #[.int .u8 (x.toNat : Int)] 5)).new (.cells #[.int .u8 (y.toNat : Int)] 5)
  have hbn := blk_new (w.alloc (.cells #[.int .u8 (x.toNat : Int)] 5)) [.int .u8 (y.toNat : Int)] 5
  simp only [World.size_alloc] at h' hbn
  refine (alone22 h' 2 _ [x] ((sb_new w x).below (al _ _)) (fun a n c e _ => by cases e; simp) hw).mono ?_
  rintro e w' ⟨h1, h2, h3, h4⟩
  have hB2 := bmore (al w (.cells #[.int .u8 (x.toNat : Int)] 5)) (al _ (.cells #[.int .u8 (y.toNat : Int)] 5))
  refine ⟨h1, h2.less (fun g hg => ?_), fun g hg => (h3 g (by simp [hg])).trans (kept_below h hB2 g hg), (hB2.mono hz).trans h4, Kept.blk hbn h3 (by simp)⟩
  rcases List.mem_cons.1 hg with rfl | hg
  · simp
  · simp [hg]
theorem alone22_under {B d s : Nat} {D : Dk} {G : List Nat} {w : World} (h : Alone B w d s D G) (x y : UInt8) (hw : D.wait.length ≤ 100000) :
    Calls Try.prog 22 #[.pointer (some ⟨d, 0, none⟩), .int .i64 2, .slice (some ⟨w.heap.size + 1, 0, none⟩) 1 1] ((w.alloc (.cells #[.int .u8 (y.toNat : Int)] 5)).alloc (.cells #[.int .u8 (x.toNat : Int)] 5)) fun e w' => e = .returned (.int .i64 (D.write 2 [x]).1) ∧ Alone B w' d s (D.write 2 [x]).2 (w.heap.size :: G) ∧ Kept G w w' ∧ Below B w w' ∧ Blk w' w.heap.size [.int .u8 (y.toNat : Int)] 5 := by
  have hz : B ≤ w.heap.size := by obtain ⟨_, _, _, _, hz⟩ := h; exact hz
  have hbn := (blk_new w [.int .u8 (y.toNat : Int)] 5)
  have := alone22_new (h.new (.cells #[.int .u8 (y.toNat : Int)] 5)) x hw
  simp only [World.size_alloc] at this
  refine this.mono ?_
  rintro e w' ⟨h1, h2, h3, h4⟩
  exact ⟨h1, h2, fun g hg => (h3 g (by simp [hg])).trans (kept_below h (al w _) g hg), ((al w _).mono hz).trans h4, Kept.blk hbn h3 (by simp)⟩
theorem alone22_old {B d s g : Nat} {D : Dk} {G : List Nat} {w : World} (h : Alone B w d s D (g :: G)) (x : UInt8) (hb : Blk w g [.int .u8 (x.toNat : Int)] 5) (hw : D.wait.length ≤ 100000) :
    Calls Try.prog 22 #[.pointer (some ⟨d, 0, none⟩), .int .i64 2, .slice (some ⟨g, 0, none⟩) 1 1] w fun e w' => e = .returned (.int .i64 (D.write 2 [x]).1) ∧ Alone B w' d s (D.write 2 [x]).2 G ∧ Kept G w w' ∧ Below B w w' := by
  refine (alone22 h 2 _ [x] (.inr ⟨g, 0, 1, rfl, by simp, by simp, by simp [maxLen], fun i hi => ?_⟩) (fun a n c e _ => by cases e; simp) hw).mono ?_
  · have hi0 : i = 0 := by simp at hi; omega
    subst hi0
    exact hb.cell 0
  · rintro e w' ⟨h1, h2, h3, h4⟩
    exact ⟨h1, h2.less (fun g hg => by simp [hg]), fun g hg => h3 g (by simp [hg]), h4⟩
theorem kb_new2 (w : World) (a b : Bool) : KB (w.alloc (.cells #[.bool a, .bool b] 4)) (.slice (some ⟨w.heap.size, 0, none⟩) 2 2) [a, b] := by
  have hb := blk_new w [.bool a, .bool b] 4
  refine .inr ⟨w.heap.size, 0, 2, rfl, by simp, fun i hi => ?_⟩
  have hi2 : i = 0 ∨ i = 1 := by simp at hi; omega
  rcases hi2 with rfl | rfl
  · exact hb.cell 0
  · exact hb.cell 1
end Go.Proofs.Ytffkpomnbanaoaa
