/- play: deeds on both disks. -/
import Derived.Test.YtnganmekiloigaaDd
namespace Go.Proofs.Ytnganmekiloigaa
open Go.RowKit
set_option maxRecDepth 100000
variable {W : World}

/-- A deed: what, where, bytes, truths. -/
abbrev Deed := Int × Int × Bs × List Bool
def played (l : List Deed) : Dk := l.foldl (fun D x => D.deed x.1 x.2.1 x.2.2.1 x.2.2.2) (newDk 4)
theorem played_snoc (l : List Deed) (x : Deed) : played (l ++ [x]) = (played l).deed x.1 x.2.1 x.2.2.1 x.2.2.2 := by simp [played]
theorem write_secs (D : Dk) (i : Int) (b : Bs) : (D.write i b).2.secs.length = D.secs.length ∧ (D.write i b).2.wait.length ≤ D.wait.length + 1 := by
  obtain ⟨q1, q2, q3⟩ := spend_secs D
  unfold Dk.write
  split
  · split
    · split
      · exact ⟨by rw [q1], by simp [q2]⟩
      · exact ⟨by rw [q1], by rw [q2]; omega⟩
    · exact ⟨rfl, Nat.le_succ _⟩
  · exact ⟨rfl, Nat.le_succ _⟩
theorem flush_secs (D : Dk) : D.flush.2.secs.length = D.secs.length ∧ D.flush.2.wait.length ≤ D.wait.length := by
  obtain ⟨q1, q2, q3⟩ := spend_secs D
  unfold Dk.flush
  split
  · exact ⟨rfl, Nat.le_refl _⟩
  · split
    · exact ⟨by simp [land_length], by simp⟩
    · exact ⟨by rw [q1], by rw [q2]; exact Nat.le_refl _⟩
theorem deed_secs (D : Dk) (k i : Int) (l : Bs) (kl : List Bool) : (D.deed k i l kl).secs.length = D.secs.length ∧ (D.deed k i l kl).wait.length ≤ D.wait.length + 1 := by
  unfold Dk.deed
  split
  · exact write_secs D i _
  · split
    · exact ⟨(flush_secs D).1, Nat.le_succ_of_le (flush_secs D).2⟩
    · split
      · unfold Dk.doCut
        split <;> exact ⟨rfl, by simp⟩
      · split
        · exact ⟨by simp [Dk.crash, land_length], by simp [Dk.crash]⟩
        · exact ⟨rfl, by omega⟩
theorem played_secs (l : List Deed) : (played l).secs.length = 4 ∧ (played l).wait.length ≤ l.length := by
  have : ∀ (n : Nat) (l : List Deed), l.length = n → (played l).secs.length = 4 ∧ (played l).wait.length ≤ l.length := by
    intro n
    induction n with
    | zero =>
      intro l hl
      have : l = [] := List.eq_nil_of_length_eq_zero hl
      subst this
      exact ⟨by simp [played, newDk], by simp [played, newDk]⟩
    | succ n ih =>
      intro l hl
      obtain ⟨a, x, rfl⟩ : ∃ a x, l = a ++ [x] := ⟨l.dropLast, l.getLast (by intro e; simp [e] at hl), (List.dropLast_concat_getLast _).symm⟩
      have ha := ih a (by simpa using hl)
      have hd := deed_secs (played a) x.1 x.2.1 x.2.2.1 x.2.2.2
      rw [played_snoc]
      exact ⟨hd.1.trans ha.1, by simp; omega⟩
  exact this _ l rfl

/-- A deed's cells. -/
def DeedAt (B0 : Nat) (W : World) (b o : Nat) (x : Deed) : Prop := ∃ vb vk, (W.cell? ⟨b, o, none⟩ = some (.int .i64 x.1) ∧ W.cell? ⟨b, o + 1, none⟩ = some (.int .i64 x.2.1) ∧ W.cell? ⟨b, o + 2, none⟩ = some vb ∧ W.cell? ⟨b, o + 3, none⟩ = some vk) ∧ InB B0 W vb x.2.2.1 ∧ InK B0 W vk x.2.2.2 ∧ -9223372036854775808 ≤ x.2.1 ∧ x.2.1 ≤ 9223372036854775807
/-- The slice v reads as these deeds, all below B0. -/
def InD (B0 : Nat) (W : World) (v : Value) (l : List Deed) : Prop := ∃ a c, v = .slice a l.length c ∧ (l.length : Int) ≤ 9223372036854775807 ∧ (0 < l.length → ∃ b o, a = some ⟨b, o, none⟩ ∧ b < B0 ∧ ∀ j x, l[j]? = some x → DeedAt B0 W b (o + j * 4) x)
theorem InB.below {B0 : Nat} {W W' : World} {v : Value} {l : Bs} (h : InB B0 W v l) (hB : Below B0 W W') : InB B0 W' v l := by
  obtain ⟨a, c, h1, h2, h3, h4⟩ := h
  refine ⟨a, c, h1, h2, h3, fun h0 => ?_⟩
  obtain ⟨b, o, e, hb, hat⟩ := h4 h0
  exact ⟨b, o, e, hb, fun i hi => (hB.cell (p := ⟨b, o + i, none⟩) hb).trans (hat i hi)⟩
theorem InK.below {B0 : Nat} {W W' : World} {v : Value} {l : List Bool} (h : InK B0 W v l) (hB : Below B0 W W') : InK B0 W' v l := by
  obtain ⟨a, c, h1, h2, h3, h4⟩ := h
  refine ⟨a, c, h1, h2, h3, fun h0 => ?_⟩
  obtain ⟨b, o, e, hb, hat⟩ := h4 h0
  exact ⟨b, o, e, hb, fun i hi => (hB.cell (p := ⟨b, o + i, none⟩) hb).trans (hat i hi)⟩
theorem InB.form {B0 : Nat} {v : Value} {l : Bs} (h : InB B0 W v l) : ∃ a n c, v = .slice a n c := by
  obtain ⟨a, c, h1, _⟩ := h
  exact ⟨a, _, c, h1⟩
theorem InK.form {B0 : Nat} {v : Value} {l : List Bool} (h : InK B0 W v l) : ∃ a n c, v = .slice a n c := by
  obtain ⟨a, c, h1, _⟩ := h
  exact ⟨a, _, c, h1⟩
theorem two_new {w1 w2 : World} (h1 : PD w1 (W.heap.size + 1) W.heap.size (.slice none 0 0) (newDk 4)) (hB1 : Below W.heap.size W w1) (h2 : RD w2 (w1.heap.size + 1) (.slice (some ⟨w1.heap.size, 0, none⟩) 4 4) (.slice none 0 0) (newDk 4)) (hB2 : Below w1.heap.size w1 w2) :
    Two W.heap.size (W.heap.size + 1) W.heap.size (w1.heap.size + 1) (newDk 4) w2 := by
  have hd := h1.dlt
  refine ⟨_, _, _, h1.below hB2, h2, fun k hk hf => ?_, fun k hk => ?_, fun k hk => ?_, Nat.le_trans hB1.size hB2.size⟩
  · rcases hk with rfl | rfl | hk
    · rcases hf with e | e | e
      · omega
      · simp only [Value.ownBlock, Option.some.injEq] at e; omega
      · cases e
    · rcases hf with e | e | e
      · omega
      · simp only [Value.ownBlock, Option.some.injEq] at e; omega
      · cases e
    · cases hk
  · rcases hk with rfl | rfl | hk
    · omega
    · omega
    · cases hk
  · have := hB1.size
    rcases hk with rfl | hk | hk
    · omega
    · simp only [Value.ownBlock, Option.some.injEq] at hk; omega
    · cases hk

set_option maxHeartbeats 2000000 in
theorem play15 (v : Value) (l : List Deed) (hv : InD W.heap.size W v l) :
    Calls Try.prog 15 #[v] W fun e w' => ∃ d s r, e = .returned (.tuple #[.pointer (some ⟨d, 0, none⟩), .pointer (some ⟨r, 0, none⟩), .bool true]) ∧ Two W.heap.size d s r (played (l.take 40)) w' ∧ Below W.heap.size W w' := by
  obtain ⟨a, c, rfl, hmx, hat⟩ := hv
  have c29 := new29 4 W (by omega) (by omega)
  have HC45 : Hid (∀ w, Calls Try.prog 45 #[.int .i64 4] w fun e w' => e = .returned (.pointer (some ⟨w.heap.size + 1, 0, none⟩)) ∧ RD w' (w.heap.size + 1) (.slice (some ⟨w.heap.size, 0, none⟩) 4 4) (.slice none 0 0) (newDk 4) ∧ Below w.heap.size w w') := fun w => rnew45 4 w (by omega) (by omega)
  have HAT : Hid (0 < l.length → ∃ b o, a = some ⟨b, o, none⟩ ∧ b < W.heap.size ∧ ∀ j x, l[j]? = some x → DeedAt W.heap.size W b (o + j * 4) x) := hat
  obtain ⟨n, hn⟩ : ∃ n, l.length = n := ⟨_, rfl⟩
  have HN : Hid (l.length = n) := hn
  rw [hn] at hmx ⊢
  clear hat hn
  go_enter Try.func15, Try.ntmps15
  go_wp2_with (first
    | (go_at_call 29; (refine c29.mono ?_; rintro e w1 ⟨rfl, hp1, hB1⟩; have HP1 : Hid (PD w1 (W.heap.size + 1) W.heap.size (.slice none 0 0) (newDk 4)) := hp1; clear hp1))
    | (go_at_call 45; (refine (HC45.out _).mono ?_; rintro e w2 ⟨rfl, hp2, hB2⟩; have HT := two_new HP1.out hB1 hp2 hB2; clear hp2)))
  have hB3 : Below W.heap.size W w2 := hB1.trans (hB2.mono hB1.size)
  go_loopw [7] (fun p wr => ∃ m : Nat, m ≤ n ∧ m ≤ 40 ∧ p = .int .i64 (m : Int) ∧ Two W.heap.size (W.heap.size + 1) W.heap.size (w1.heap.size + 1) (played (l.take m)) wr ∧ Below W.heap.size W wr) (fun p _ => n - (intOf p).toNat)
  case atStart => exact ⟨0, by omega, by omega, rfl, HT, hB3⟩
  case round =>
    obtain ⟨m, hm, hm40, rfl, hT, hB⟩ := hrel
    by_cases hlt : m < n
    · have hlt1 : (m : Int) < (n : Int) := by omega
      by_cases h40 : m < 40
      · have h41 : (m : Int) < 40 := by omega
        obtain ⟨b, o, rfl, hb, hall⟩ := HAT.out (by rw [HN.out]; omega)
        obtain ⟨x, hx⟩ : ∃ x, l[m]? = some x := ⟨_, List.getElem?_eq_getElem (by rw [HN.out]; exact hlt)⟩
        have HTK : Hid (l.take (m + 1) = l.take m ++ [x]) := by
          have hm' := List.getElem?_eq_some_iff.1 hx
          show _ = _
          rw [List.take_succ_eq_append_getElem hm'.1, hm'.2]
        obtain ⟨vb, vk, ⟨y0, y1, y2, y3⟩, hib, hik, hr1⟩ := hall m x hx
        have e0 := (hB.cell (p := ⟨b, o + m * 4, none⟩) hb).trans y0
        have e1 := (hB.cell (p := ⟨b, o + m * 4 + 1, none⟩) hb).trans y1
        have e2 := (hB.cell (p := ⟨b, o + m * 4 + 2, none⟩) hb).trans y2
        have e3 := (hB.cell (p := ⟨b, o + m * 4 + 3, none⟩) hb).trans y3
        obtain ⟨wv, lv, xv, hBo⟩ := hT
        have hps := played_secs (l.take m)
        have hpl : (l.take m).length ≤ 40 := by rw [List.length_take]; omega
        have c27 := do27 hBo hps.1 (by omega) x.1 x.2.1 hr1 vb vk x.2.2.1 x.2.2.2 (hib.below hB) (hik.below hB)
        rw [← played_snoc, ← HTK.out] at c27
        obtain ⟨xb1, xb2, xb3, rfl⟩ := hib.form
        obtain ⟨xk1, xk2, xk3, rfl⟩ := hik.form
        clear hib hik hall y0 y1 y2 y3 hBo hx
        go_wp2_with (go_at_call 27; (refine c27.mono ?_; rintro e w5 ⟨rfl, hT5, hB5⟩))
        go_roundw
        case rel => exact ⟨m + 1, by omega, by omega, by simp, hT5, hB.trans hB5⟩
        case measure => simp only [intOf]; omega
      · have h41 : ¬ (m : Int) < 40 := by omega
        obtain rfl : m = 40 := by omega
        go_wp2
        exact bodyPost_ret (results_tmp3 rfl _ _ _) rfl ⟨_, _, _, rfl, hT, hB⟩
    · have hlt1 : ¬ (m : Int) < (n : Int) := by omega
      have hte : l.take m = l.take 40 := by rw [List.take_of_length_le (by rw [HN.out]; omega), List.take_of_length_le (by rw [HN.out]; omega)]
      rw [hte] at hT
      go_wp2
      exact bodyPost_ret (results_tmp3 rfl _ _ _) rfl ⟨_, _, _, rfl, hT, hB⟩
end Go.Proofs.Ytnganmekiloigaa
