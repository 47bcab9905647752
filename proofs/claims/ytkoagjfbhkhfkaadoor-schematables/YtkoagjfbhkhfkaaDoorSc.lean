/- schema.Column, rightColumns, rightParent, Right. -/
import Derived.Test.YtkoagjfbhkhfkaaDoorNm
import Derived.Lib.Strings
namespace Go.Proofs.YtkoagjfbhkhfkaaDoor
open Go.RowKit Go.Lib
set_option maxRecDepth 100000

abbrev str (l : Bs) : ByteArray := ⟨l.toArray⟩
theorem bs_str (l : Bs) : bs (str l) = l := by simp [bs]
theorem str_bs (s : ByteArray) : str (bs s) = s := str_of_list s
theorem str_inj {l : Bs} {s : ByteArray} (h : str l = s) : l = bs s := by rw [← h, bs_str]
theorem ne_list {a b : ByteArray} (h : a ≠ b) : (a.toList == b.toList) = false := by
  rw [beq_eq_false_iff_ne, toList_data, toList_data]
  intro e
  exact h (ByteArray.ext (Array.toList_inj.1 e))
/-- A column: its name, its kind. -/
abbrev Cl := Bs × Nat
def ColsAt (w : World) (g o : Nat) (l : List Cl) : Prop := ∀ i x, l[i]? = some x → w.cell? ⟨g, o + i * 2, none⟩ = some (.string (str x.1)) ∧ w.cell? ⟨g, o + i * 2 + 1, none⟩ = some (.int .u8 (x.2 : Int))
/-- The slice v reads as these columns. -/
def SC (w : World) (v : Value) (l : List Cl) : Prop := ∃ a c, v = .slice a l.length c ∧ (0 < l.length → ∃ g o, a = some ⟨g, o, none⟩ ∧ g < w.heap.size ∧ ColsAt w g o l)
theorem SC.below {w w' : World} {v : Value} {l : List Cl} (h : SC w v l) (hb : Below w.heap.size w w') : SC w' v l := by
  obtain ⟨a, c, h1, h2⟩ := h
  refine ⟨a, c, h1, fun h0 => ?_⟩
  obtain ⟨g, o, h3, h4, h5⟩ := h2 h0
  exact ⟨g, o, h3, Nat.lt_of_lt_of_le h4 hb.size, fun i x hx => ⟨(hb.cell (p := ⟨g, o + i * 2, none⟩) h4).trans (h5 i x hx).1, (hb.cell (p := ⟨g, o + i * 2 + 1, none⟩) h4).trans (h5 i x hx).2⟩⟩
/-- The place of a name among columns. -/
def colFrom : Nat → List Cl → Bs → Int
  | _, [], _ => -1
  | k, x :: r, s => if x.1 = s then (k : Int) else colFrom (k + 1) r s
def colB (l : List Cl) (s : Bs) : Int := colFrom 0 l s

set_option maxHeartbeats 2000000 in
theorem column17 (v : Value) (l : List Cl) (s : ByteArray) (w : World) (hv : SC w v l) (hl : l.length ≤ 1000) :
    Calls Tryd.prog 13 #[v, .string s] w fun e w' => e = .returned (.int .i64 (colB l (bs s))) ∧ Below w.heap.size w w' := by
  obtain ⟨a, c, rfl, hat⟩ := hv
  obtain ⟨N, hN⟩ : ∃ N, l.length = N := ⟨_, rfl⟩
  have HNN : Hid (l.length = N) := hN
  have HA : Hid (0 < l.length → ∃ g o, a = some ⟨g, o, none⟩ ∧ g < w.heap.size ∧ ColsAt w g o l) := hat
  rw [hN] at hl ⊢
  clear hN hat
  go_enter Tryd.func13, Tryd.ntmps13
  go_wp2
  go_loopw [9] (fun p wr => ∃ m : Nat, m ≤ N ∧ p = .int .i64 (m : Int) ∧ Below w.heap.size w wr ∧ Hid (colB l (bs s) = colFrom m (l.drop m) (bs s))) (fun p _ => N - (RowKit.intOf p).toNat)
  case atStart => exact ⟨0, by omega, rfl, Below.refl _ _, by show _ = _; simp [colB]⟩
  case round =>
    obtain ⟨m, hm, rfl, hB, HC⟩ := hrel
    by_cases hlt : m < N
    · have hlt1 : (m : Int) < (N : Int) := by omega
      have hlt0 : (0 : Int) ≤ (m : Int) := by omega
      obtain ⟨x, hx⟩ : ∃ x, l[m]? = some x := ⟨_, List.getElem?_eq_getElem (by rw [HNN.out]; exact hlt)⟩
      have hdr : l.drop m = x :: l.drop (m + 1) := by
        have hm' := List.getElem?_eq_some_iff.1 hx
        rw [List.drop_eq_getElem_cons hm'.1, hm'.2]
      obtain ⟨g, o, rfl, hgl, hco⟩ := HA.out (by rw [HNN.out]; omega)
      obtain ⟨h0, h1⟩ := hco m x hx
      have c0 := (hB.cell (p := ⟨g, o + m * 2, none⟩) hgl).trans h0
      have c1 := (hB.cell (p := ⟨g, o + m * 2 + 1, none⟩) hgl).trans h1
      have hgw : g < wr.heap.size := Nat.lt_of_lt_of_le hgl hB.size
      rw [hdr] at HC
      clear hco h0 h1 hx hdr
      by_cases he : x.1 = bs s
      · have hs : str x.1 = s := by rw [he, str_bs]
        have HR : Hid (colB l (bs s) = (m : Int)) := by show _ = _; rw [HC.out, colFrom, if_pos he]
        rw [hs] at c0
        clear HC hs he
        go_wp2
        go_ret
        exact ⟨by rw [HR.out]; rfl, hB.alloc hB.size _⟩
      · have hne : str x.1 ≠ s := fun e => he (str_inj e)
        have hnd := ne_list hne
        have HR : Hid (colB l (bs s) = colFrom (m + 1) (l.drop (m + 1)) (bs s)) := by show _ = _; rw [HC.out, colFrom, if_neg he]
        clear HC hne he
        generalize str x.1 = q at *
        go_wp2
        go_roundw
        case rel => exact ⟨m + 1, by omega, by simp, hB.alloc hB.size _, HR⟩
        case measure => simp [RowKit.intOf]; omega
    · have hlt1 : ¬ (m : Int) < (N : Int) := by omega
      have HR : Hid (colB l (bs s) = -1) := by
        show _ = _
        rw [HC.out, List.drop_eq_nil_of_le (by rw [HNN.out]; omega)]; rfl
      clear HC
      go_wp2
      go_ret
      exact ⟨by rw [HR.out]; rfl, hB⟩

/-! ### Right -/
def rcFrom (l : List Cl) : Nat → List Cl → Bool
  | _, [] => true
  | m, x :: r => nameR x.1 && decide (colB l x.1 = (m : Int)) && (decide (x.2 = 1) || decide (x.2 = 2)) && rcFrom l (m + 1) r
def rcB (l : List Cl) : Bool := decide (1 ≤ l.length) && decide (l.length ≤ 4) && rcFrom l 0 l
def rpB (p : Bs) (r : Int) (n : Nat) : Bool := if p = [] then decide (r = 0) else nameR p && decide (1 ≤ r) && decide (r < (n : Int))
def rtB (n : Bs) (l : List Cl) (p : Bs) (r : Int) : Bool := nameR n && rcB l && rpB p r l.length
abbrev TB (n : ByteArray) (v : Value) (p : ByteArray) (r : Int) : Value := .agg #[.string n, v, .string p, .int .i64 r]
theorem str_size (l : Bs) : (str l).size = l.length := rfl

set_option maxHeartbeats 4000000 in
theorem rightCols12 (v : Value) (l : List Cl) (w : World) (hv : SC w v l) (hl : l.length ≤ 1000) :
    Calls Tryd.prog 35 #[v] w fun e w' => e = .returned (.bool (rcB l)) ∧ Below w.heap.size w w' := by
  have hv' := hv
  have HSC : Hid (∀ w1, Below w.heap.size w w1 → SC w1 v l) := fun w1 h => hv'.below h
  obtain ⟨a, c, rfl, hat⟩ := hv
  obtain ⟨N, hN⟩ : ∃ N, l.length = N := ⟨_, rfl⟩
  have HNN : Hid (l.length = N) := hN
  have HA : Hid (0 < l.length → ∃ g o, a = some ⟨g, o, none⟩ ∧ g < w.heap.size ∧ ColsAt w g o l) := hat
  have H17 : Hid (∀ w1 (s : ByteArray), Below w.heap.size w w1 → Calls Tryd.prog 13 #[.slice a N c, .string s] w1 fun e w' => e = .returned (.int .i64 (colB l (bs s))) ∧ Below w1.heap.size w1 w') := fun w1 s h => by
    have := column17 _ l s w1 (HSC.out w1 h) hl
    rw [hN] at this
    exact this
  rw [hN] at hl ⊢
  clear hN hat hv' HSC
  unfold rcB
  rw [HNN.out]
  by_cases h1 : 1 ≤ N
  · have h1i : ¬ (N : Int) < 1 := by omega
    by_cases h4 : N ≤ 4
    · have h4i : ¬ (4 : Int) < (N : Int) := by omega
      simp only [h1, h4, decide_true, Bool.true_and]
      go_enter Tryd.func35, Tryd.ntmps35
      go_wp2
      go_loopw [15] (fun p wr => ∃ m : Nat, m ≤ N ∧ p = .int .i64 (m : Int) ∧ Below w.heap.size w wr ∧ Hid (rcFrom l 0 l = rcFrom l m (l.drop m))) (fun p _ => N - (RowKit.intOf p).toNat)
      case atStart => exact ⟨0, by omega, rfl, Below.refl _ _, by show _ = _; simp⟩
      case round =>
        obtain ⟨m, hm, rfl, hB, HC⟩ := hrel
        by_cases hlt : m < N
        · have hlt1 : (m : Int) < (N : Int) := by omega
          have hlt0 : (0 : Int) ≤ (m : Int) := by omega
          obtain ⟨x, hx⟩ : ∃ x, l[m]? = some x := ⟨_, List.getElem?_eq_getElem (by rw [HNN.out]; exact hlt)⟩
          have hdr : l.drop m = x :: l.drop (m + 1) := by
            have hm' := List.getElem?_eq_some_iff.1 hx
            rw [List.drop_eq_getElem_cons hm'.1, hm'.2]
          obtain ⟨g, o, rfl, hgl, hco⟩ := HA.out (by rw [HNN.out]; omega)
          obtain ⟨h0, h1'⟩ := hco m x hx
          have c0 := (hB.cell (p := ⟨g, o + m * 2, none⟩) hgl).trans h0
          have c1 := (hB.cell (p := ⟨g, o + m * 2 + 1, none⟩) hgl).trans h1'
          have c11 := fun w1 => name13 (str x.1) w1
          rw [bs_str] at c11
          rw [hdr, rcFrom] at HC
          clear hco h0 h1' hx hdr
          obtain ⟨xn, xk⟩ := x
          simp only at c0 c1 c11 HC
          have c17 := fun w1 h => H17.out w1 (str xn) h
          rw [bs_str] at c17
          generalize nameR xn = nb at *
          generalize colB l xn = ci at *
          generalize str xn = q at *
          have hgo : Below w.heap.size w (wr.alloc (.cells #[.string q, .int .u8 (xk : Int)] 44)) := hB.alloc hB.size _
          cases nb
          · have HR : Hid (rcFrom l 0 l = false) := by show _ = _; rw [HC.out]; simp
            clear HC
            go_wp2_with (go_at_call 34; refine (c11 _).mono ?_; rintro e w1 ⟨rfl, hb1⟩)
            go_ret
            exact ⟨by rw [HR.out]; rfl, hgo.trans (hb1.mono hgo.size)⟩
          · by_cases hcm : ci = (m : Int)
            · subst hcm
              by_cases hk1 : xk = 1
              · subst hk1
                have HR : Hid (rcFrom l 0 l = rcFrom l (m + 1) (l.drop (m + 1))) := by show _ = _; rw [HC.out]; simp
                clear HC
                go_wp2_with (first
                  | (go_at_call 34; refine (c11 _).mono ?_; rintro e w1 ⟨rfl, hb1⟩; have F1 := hgo.trans (hb1.mono hgo.size); have e0 := (hb1.cell (p := ⟨wr.heap.size, 0, none⟩) (by simp)); have e1 := (hb1.cell (p := ⟨wr.heap.size, 1, none⟩) (by simp)); simp at e0 e1)
                  | (go_at_call 13; refine (c17 w1 F1).mono ?_; rintro e w2 ⟨rfl, hb2⟩; have F2 := F1.trans (hb2.mono F1.size); have hzz : wr.heap.size < w1.heap.size := (by have := hb1.size; simp at this; omega); have g1 := (hb2.cell (p := ⟨wr.heap.size, 1, none⟩) hzz).trans e1))
                go_roundw
                case rel => exact ⟨m + 1, by omega, by simp, F2, HR⟩
                case measure => simp [RowKit.intOf]; omega
              · have hk1i : ¬ (xk : Int) = 1 := by omega
                by_cases hk2 : xk = 2
                · subst hk2
                  have HR : Hid (rcFrom l 0 l = rcFrom l (m + 1) (l.drop (m + 1))) := by show _ = _; rw [HC.out]; simp
                  clear HC
                  go_wp2_with (first
                    | (go_at_call 34; refine (c11 _).mono ?_; rintro e w1 ⟨rfl, hb1⟩; have F1 := hgo.trans (hb1.mono hgo.size); have e0 := (hb1.cell (p := ⟨wr.heap.size, 0, none⟩) (by simp)); have e1 := (hb1.cell (p := ⟨wr.heap.size, 1, none⟩) (by simp)); simp at e0 e1)
                    | (go_at_call 13; refine (c17 w1 F1).mono ?_; rintro e w2 ⟨rfl, hb2⟩; have F2 := F1.trans (hb2.mono F1.size); have hzz : wr.heap.size < w1.heap.size := (by have := hb1.size; simp at this; omega); have g1 := (hb2.cell (p := ⟨wr.heap.size, 1, none⟩) hzz).trans e1))
                  go_roundw
                  case rel => exact ⟨m + 1, by omega, by simp, F2, HR⟩
                  case measure => simp [RowKit.intOf]; omega
                · have hk2i : ¬ (xk : Int) = 2 := by omega
                  have k1b : ((xk : Int) != 1) = true := by simp; omega
                  have k2b : ((xk : Int) != 2) = true := by simp; omega
                  have HR : Hid (rcFrom l 0 l = false) := by show _ = _; rw [HC.out]; simp [hk1, hk2]
                  clear HC
                  go_wp2_with (first
                    | (go_at_call 34; refine (c11 _).mono ?_; rintro e w1 ⟨rfl, hb1⟩; have F1 := hgo.trans (hb1.mono hgo.size); have e0 := (hb1.cell (p := ⟨wr.heap.size, 0, none⟩) (by simp)); have e1 := (hb1.cell (p := ⟨wr.heap.size, 1, none⟩) (by simp)); simp at e0 e1)
                    | (go_at_call 13; refine (c17 w1 F1).mono ?_; rintro e w2 ⟨rfl, hb2⟩; have F2 := F1.trans (hb2.mono F1.size); have hzz : wr.heap.size < w1.heap.size := (by have := hb1.size; simp at this; omega); have g1 := (hb2.cell (p := ⟨wr.heap.size, 1, none⟩) hzz).trans e1))
                  go_ret
                  exact ⟨by rw [HR.out]; rfl, F2⟩
            · have HR : Hid (rcFrom l 0 l = false) := by show _ = _; rw [HC.out]; simp [hcm]
              clear HC
              go_wp2_with (first
                | (go_at_call 34; refine (c11 _).mono ?_; rintro e w1 ⟨rfl, hb1⟩; have F1 := hgo.trans (hb1.mono hgo.size); have e0 := (hb1.cell (p := ⟨wr.heap.size, 0, none⟩) (by simp)); have e1 := (hb1.cell (p := ⟨wr.heap.size, 1, none⟩) (by simp)); simp at e0 e1)
                | (go_at_call 13; refine (c17 w1 F1).mono ?_; rintro e w2 ⟨rfl, hb2⟩; have F2 := F1.trans (hb2.mono F1.size); have hzz : wr.heap.size < w1.heap.size := (by have := hb1.size; simp at this; omega); have g1 := (hb2.cell (p := ⟨wr.heap.size, 1, none⟩) hzz).trans e1))
              go_ret
              exact ⟨by rw [HR.out]; rfl, F2⟩
        · have hlt1 : ¬ (m : Int) < (N : Int) := by omega
          have HR : Hid (rcFrom l 0 l = true) := by
            show _ = _
            rw [HC.out, List.drop_eq_nil_of_le (by rw [HNN.out]; omega)]; rfl
          clear HC
          go_wp2
          go_ret
          exact ⟨by rw [HR.out]; rfl, hB⟩
    · have h4i : (4 : Int) < (N : Int) := by omega
      simp only [h4, decide_false, Bool.and_false, Bool.false_and]
      go_enter Tryd.func35, Tryd.ntmps35
      go_wp2
      go_ret
      exact ⟨rfl, Below.refl _ _⟩
  · have h1i : (N : Int) < 1 := by omega
    simp only [h1, decide_false, Bool.false_and]
    go_enter Tryd.func35, Tryd.ntmps35
    go_wp2
    go_ret
    exact ⟨rfl, Below.refl _ _⟩

theorem rightParent13 (n p : ByteArray) (v : Value) (l : List Cl) (r : Int) (w : World) (hv : SC w v l) :
    Calls Tryd.prog 36 #[TB n v p r] w fun e w' => e = .returned (.bool (rpB (bs p) r l.length)) ∧ Below w.heap.size w w' := by
  obtain ⟨a, c, rfl, _⟩ := hv
  generalize l.length = N at *
  unfold rpB
  by_cases h0 : bs p = []
  · obtain rfl : p = ⟨#[]⟩ := by have := congrArg str h0; rw [str_bs] at this; exact this
    rw [if_pos h0]
    by_cases hr : r = 0
    · subst hr
      go_enter Tryd.func36, Tryd.ntmps36
      go_wp2
      go_ret
      exact ⟨by simp, al _ _⟩
    · go_enter Tryd.func36, Tryd.ntmps36
      go_wp2
      go_ret
      exact ⟨by simp [hr], al _ _⟩
  · rw [if_neg h0]
    have hem : p.toList.isEmpty = false := by
      rw [toList_data]
      cases hb : bs p with
      | nil => exact absurd hb h0
      | cons x t => rw [show p.data.toList = x :: t from hb]; rfl
    have c11 := fun w1 => name13 p w1
    generalize nameR (bs p) = nb at *
    clear h0
    cases nb
    · simp only [Bool.false_and]
      go_enter Tryd.func36, Tryd.ntmps36
      go_wp2_with (go_at_call 34; refine (c11 _).mono ?_; rintro e w1 ⟨rfl, hb1⟩)
      go_ret
      exact ⟨rfl, bmore (al _ _) hb1⟩
    · simp only [Bool.true_and]
      by_cases h1 : 1 ≤ r
      · by_cases h2 : r < (N : Int)
        · go_enter Tryd.func36, Tryd.ntmps36
          go_wp2_with (go_at_call 34; refine (c11 _).mono ?_; rintro e w1 ⟨rfl, hb1⟩; have e1 := (hb1.cell (p := ⟨w.heap.size, 1, none⟩) (by simp)); have e3 := (hb1.cell (p := ⟨w.heap.size, 3, none⟩) (by simp)); simp at e1 e3)
          go_ret
          exact ⟨by simp [h1, h2], bmore (al _ _) hb1⟩
        · go_enter Tryd.func36, Tryd.ntmps36
          go_wp2_with (go_at_call 34; refine (c11 _).mono ?_; rintro e w1 ⟨rfl, hb1⟩; have e1 := (hb1.cell (p := ⟨w.heap.size, 1, none⟩) (by simp)); have e3 := (hb1.cell (p := ⟨w.heap.size, 3, none⟩) (by simp)); simp at e1 e3)
          go_ret
          exact ⟨by simp [h1], bmore (al _ _) hb1⟩
      · go_enter Tryd.func36, Tryd.ntmps36
        go_wp2_with (go_at_call 34; refine (c11 _).mono ?_; rintro e w1 ⟨rfl, hb1⟩; have e1 := (hb1.cell (p := ⟨w.heap.size, 1, none⟩) (by simp)); have e3 := (hb1.cell (p := ⟨w.heap.size, 3, none⟩) (by simp)); simp at e1 e3)
        go_ret
        exact ⟨by simp; omega, bmore (al _ _) hb1⟩
set_option maxHeartbeats 1000000 in
theorem right8 (n p : ByteArray) (v : Value) (l : List Cl) (r : Int) (w : World) (hv : SC w v l) (hl : l.length ≤ 1000) :
    Calls Tryd.prog 11 #[TB n v p r] w fun e w' => e = .returned (.bool (rtB (bs n) l (bs p) r)) ∧ Below w.heap.size w w' := by
  have c11 := fun w1 => name13 n w1
  have H12 : Hid (∀ w1, Below w.heap.size w w1 → Calls Tryd.prog 35 #[v] w1 fun e w' => e = .returned (.bool (rcB l)) ∧ Below w1.heap.size w1 w') := fun w1 h => rightCols12 v l w1 (hv.below h) hl
  have H13 : Hid (∀ w1, Below w.heap.size w w1 → Calls Tryd.prog 36 #[TB n v p r] w1 fun e w' => e = .returned (.bool (rpB (bs p) r l.length)) ∧ Below w1.heap.size w1 w') := fun w1 h => rightParent13 n p v l r w1 (hv.below h)
  obtain ⟨a, c, rfl, _⟩ := hv
  unfold rtB
  generalize nameR (bs n) = b1 at *
  generalize rcB l = b2 at *
  generalize rpB (bs p) r l.length = b3 at *
  generalize l.length = N at *
  cases b1
  · simp only [Bool.false_and]
    go_enter Tryd.func11, Tryd.ntmps11
    go_wp2_with (go_at_call 34; refine (c11 _).mono ?_; rintro e w1 ⟨rfl, hb1⟩)
    go_ret
    exact ⟨rfl, bmore (al _ _) hb1⟩
  · cases b2
    · simp only [Bool.false_and, Bool.and_false]
      go_enter Tryd.func11, Tryd.ntmps11
      go_wp2_with (first
        | (go_at_call 34; refine (c11 _).mono ?_; rintro e w1 ⟨rfl, hb1⟩; have e1 := (hb1.cell (p := ⟨w.heap.size, 1, none⟩) (by simp)); simp at e1; have F1 := bmore (al _ _) hb1)
        | (go_at_call 35; refine (H12.out w1 F1).mono ?_; rintro e w2 ⟨rfl, hb2⟩))
      go_ret
      exact ⟨rfl, bmore F1 hb2⟩
    · simp only [Bool.true_and]
      go_enter Tryd.func11, Tryd.ntmps11
      go_wp2_with (first
        | (go_at_call 34; refine (c11 _).mono ?_; rintro e w1 ⟨rfl, hb1⟩; have F1 := bmore (al _ _) hb1; have e1 := (hb1.cell (p := ⟨w.heap.size, 1, none⟩) (by simp)); have e0 := (hb1.cell (p := ⟨w.heap.size, 0, none⟩) (by simp)); have e2 := (hb1.cell (p := ⟨w.heap.size, 2, none⟩) (by simp)); have e3 := (hb1.cell (p := ⟨w.heap.size, 3, none⟩) (by simp)); simp at e0 e1 e2 e3)
        | (go_at_call 35; refine (H12.out w1 F1).mono ?_; rintro e w2 ⟨rfl, hb2⟩; have F2 := bmore F1 hb2; have hzz : w.heap.size < w1.heap.size := (by have := hb1.size; simp at this; omega); have g0 := (hb2.cell (p := ⟨w.heap.size, 0, none⟩) hzz).trans e0; have g1 := (hb2.cell (p := ⟨w.heap.size, 1, none⟩) hzz).trans e1; have g2 := (hb2.cell (p := ⟨w.heap.size, 2, none⟩) hzz).trans e2; have g3 := (hb2.cell (p := ⟨w.heap.size, 3, none⟩) hzz).trans e3)
        | (go_at_call 36; refine (H13.out w2 F2).mono ?_; rintro e w3 ⟨rfl, hb3⟩))
      go_ret
      exact ⟨rfl, bmore F2 hb3⟩
end Go.Proofs.YtkoagjfbhkhfkaaDoor
