/- Rows: codec.Right, codec.Key, codec.addPoint. -/
import Derived.Test.YthfkmedpcmiibaaDoorLine
namespace Go.Proofs.YthfkmedpcmiibaaDoor
open Go.RowKit Go.Lib

/-- A row as the program holds it. -/
abbrev RV (v : Value) (f t : Int) : Value := .agg #[v, .int .i64 f, .int .i64 t]
/-- Can a span be. -/
def spanR (f t : Int) : Bool := decide (-1000 ≤ f) && (decide (f < t) && decide (t ≤ 1000))

theorem span27 (f t : Int) (w : World) : Calls Tryd.prog 28 #[.agg #[.int .i64 f, .int .i64 t]] w fun e w' => e = .returned (.bool (spanR f t)) ∧ Below w.heap.size w w' := by
  unfold spanR
  by_cases h1 : -1000 ≤ f
  · by_cases h2 : f < t
    · by_cases h3 : t ≤ 1000
      · simp only [h1, h2, h3]
        go_enter Tryd.func28, Tryd.ntmps28
        go_wp2
        go_ret
        exact ⟨rfl, al _ _⟩
      · simp only [h1, h2, h3]
        go_enter Tryd.func28, Tryd.ntmps28
        go_wp2
        go_ret
        exact ⟨rfl, al _ _⟩
    · simp only [h1, h2]
      go_enter Tryd.func28, Tryd.ntmps28
      go_wp2
      go_ret
      exact ⟨rfl, al _ _⟩
  · simp only [h1]
    go_enter Tryd.func28, Tryd.ntmps28
    go_wp2
    go_ret
    exact ⟨rfl, al _ _⟩

/-- Can a row be. -/
def rightRow (vs : List Vt) (f t : Int) : Bool := decide (1 ≤ vs.length) && (decide (vs.length ≤ 4) && (vs.all okV && spanR f t))

/-- The sizes of values that came in. -/
def Few (vs : List Vt) : Prop := ∀ x ∈ vs, inI64 x.2.1 ∧ x.2.2.size < 4611686018427387904

set_option maxRecDepth 100000 in
set_option maxHeartbeats 2000000 in
theorem right11_many (n c : Nat) (f t : Int) (w : World) (h : n = 0 ∨ 4 < n) (hn : n ≤ 4611686018427387904) (a : Option Addr) :
    Calls Tryd.prog 13 #[RV (.slice a n c) f t] w fun e w' => e = .returned (.bool false) ∧ Below w.heap.size w w' := by
  by_cases h0 : n = 0
  · subst h0
    go_enter Tryd.func13, Tryd.ntmps13
    go_wp2
    go_ret
    exact ⟨rfl, al _ _⟩
  · have h1 : ¬ ((n : Int) < 1) := by omega
    have h2 : (4 : Int) < (n : Int) := by omega
    go_enter Tryd.func13, Tryd.ntmps13
    go_wp2
    go_ret
    exact ⟨rfl, al _ _⟩

set_option maxRecDepth 100000 in
set_option maxHeartbeats 2000000 in
theorem right11_few (b o n c : Nat) (vs : List Vt) (f t : Int) (w : World) (hl : Hid (vs.length = n)) (h1 : 1 ≤ n) (h4 : n ≤ 4) (hat : VAt w b o vs) (hvs : Few vs) (hg : Good w) :
    Calls Tryd.prog 13 #[RV (.slice (some ⟨b, o, none⟩) n c) f t] w fun e w' => e = .returned (.bool (vs.all okV && spanR f t)) ∧ Below w.heap.size w w' := by
  have hz1 : ¬ ((n : Int) < 1) := by omega
  have hz4 : ¬ ((4 : Int) < (n : Int)) := by omega
  have c27 := span27 f t
  have HV : Hid (Few vs) := hvs
  have hgb : ∀ W, Below w.heap.size w W → Good W := fun W h => hg.below h
  have hatb : ∀ W, Below w.heap.size w W → VAt W b o vs := fun W h => hat.below h
  clear hat hvs hg
  go_enter Tryd.func13, Tryd.ntmps13
  go_wp2
  go_loopw [17] (fun i wr => ∃ k : Nat, k ≤ n ∧ i = .int .i64 (k : Int) ∧ (vs.take k).all okV = true ∧ Below (w.alloc (.cells #[.slice (some ⟨b, o, none⟩) n c, .int .i64 f, .int .i64 t] 33)).heap.size (w.alloc (.cells #[.slice (some ⟨b, o, none⟩) n c, .int .i64 f, .int .i64 t] 33)) wr) (fun i _ => n - (Lib.intOf i).toNat)
  case atStart => exact ⟨0, by omega, rfl, rfl, Below.refl _ _⟩
  case round =>
    obtain ⟨k, hk, rfl, hall, hbe⟩ := hrel
    have e0 := (new_cells hbe 0).1
    have e1 := (new_cells hbe 1).1
    have e2 := (new_cells hbe 2).1
    simp at e0 e1 e2
    have hbw := bmore (al w _) hbe
    by_cases hlt : k < n
    · have hkz : (k : Int) < (n : Int) := by omega
      obtain ⟨x, hx⟩ : ∃ x, vs[k]? = some x := ⟨_, List.getElem?_eq_getElem (by rw [hl.out]; exact hlt)⟩
      obtain ⟨a0, a1, a2⟩ := hatb wr hbw k x hx
      obtain ⟨hn, hsz⟩ := HV.out x (List.mem_of_getElem? hx)
      have HT : Hid (vs.take (k + 1) = vs.take k ++ [x]) := by
        have hk' := (List.getElem?_eq_some_iff.1 hx)
        show _ = _
        rw [List.take_succ_eq_append_getElem hk'.1, hk'.2]
      have HM : Hid (x ∈ vs) := List.mem_of_getElem? hx
      have c26 := rightv12 x.1 x.2.1 x.2.2 wr hsz (hgb wr hbw)
      obtain ⟨xk, xn, xs⟩ := x
      simp only at a0 a1 a2 c26
      cases hR : okV (xk, xn, xs)
      · rw [show rightV xk xn (bs xs) = false from hR] at c26
        have HF : Hid (vs.all okV = false) := by
          show _ = _
          rw [List.all_eq_false]
          exact ⟨_, HM.out, by rw [hR]; simp⟩
        go_wp2_with (go_at_call 27; (refine c26.mono ?_; rintro e w1 ⟨rfl, hb1⟩))
        go_ret
        exact ⟨by rw [HF.out]; rfl, bmore hbw hb1⟩
      · rw [show rightV xk xn (bs xs) = true from hR] at c26
        go_wp2_with (go_at_call 27; (refine c26.mono ?_; rintro e w1 ⟨rfl, hb1⟩))
        go_roundw
        case rel => exact ⟨k + 1, by omega, by go_num, by rw [HT.out, List.all_append, hall]; simp [hR], bmore hbe hb1⟩
        case measure => simp [Lib.intOf]; omega
    · have hkz : ¬ ((k : Int) < (n : Int)) := by omega
      have HF : Hid (vs.all okV = true) := by
        show _ = _
        rw [List.take_of_length_le (by rw [hl.out]; omega)] at hall
        exact hall
      go_wp2_with (go_at_call 28; (refine (c27 _).mono ?_; rintro e w1 ⟨rfl, hb1⟩))
      go_ret
      exact ⟨by rw [HF.out]; rfl, bmore hbw hb1⟩

theorem rowRight (v : Value) (vs : List Vt) (f t : Int) (w : World) (hsv : SV w v vs) (hz : vs.length ≤ 140737488355328) (hvs : Few vs) (hg : Good w) :
    Calls Tryd.prog 13 #[RV v f t] w fun e w' => e = .returned (.bool (rightRow vs f t)) ∧ Below w.heap.size w w' := by
  unfold rightRow
  rcases hsv with ⟨a, c, rfl, rfl⟩ | ⟨b, o, c, rfl, h0, hc, hcm, hat⟩
  · exact right11_many 0 c f t w (.inl rfl) (by omega) a
  · by_cases h4 : vs.length ≤ 4
    · have := right11_few b o vs.length c vs f t w rfl h0 h4 hat hvs hg
      rw [show decide (1 ≤ vs.length) = true from decide_eq_true h0, show decide (vs.length ≤ 4) = true by simpa using h4]
      simpa using this
    · rw [show decide (vs.length ≤ 4) = false by simpa using h4]
      simp only [Bool.false_and, Bool.and_false]
      exact right11_many vs.length c f t w (.inr (by omega)) (by omega) _

/-! ### its key -/
/-- The bytes of a row's key. -/
def keyR (vs : List Vt) : Bs := match vs with
  | [] => []
  | x :: _ => if okV x then bytesT x else []

/-! ### a point as two bytes -/
def two (p : Int) : Bs := [UInt8.ofNat ((p + 1000).toNat / 256), UInt8.ofNat ((p + 1000).toNat % 256)]

set_option maxRecDepth 100000 in
set_option maxHeartbeats 2000000 in
theorem point37 (B : Nat) (v : Value) (l : Bs) (p : Int) (w : World) (h1 : -1000 ≤ p) (h2 : p ≤ 1000) (hown : BRow B v l w) (hB : B ≤ w.heap.size) (hlen : l.length ≤ 1000) :
    Calls Tryd.prog 15 #[v, .int .i64 p] w fun e w' => ∃ v', e = .returned v' ∧ BRow B v' (l ++ two p) w' ∧ Below B w w' ∧ B ≤ w'.heap.size := by
  obtain ⟨q, hq⟩ : ∃ q : Nat, p + 1000 = (q : Int) := ⟨(p + 1000).toNat, by omega⟩
  have hp : p = (q : Int) - 1000 := by omega
  subst hp
  have HT : Hid (two ((q : Int) - 1000) = [UInt8.ofNat (q / 256), UInt8.ofNat (q % 256)]) := by
    show _ = _
    unfold two
    rw [hq, Int.toNat_natCast]
  clear hq
  have hc : ∀ j, j < (two ((q : Int) - 1000)).length → (w.alloc (.cells #[.int .u8 ((q : Int) / 256), .int .u8 ((q : Int) % 256)] 5)).cell? ((⟨w.heap.size, 0, none⟩ : Addr).add j) = some (.int .u8 (((two ((q : Int) - 1000)).getD j 0).toNat : Int)) := by
    rw [HT.out]
    intro j hj
    rw [add_offv, Nat.zero_add, World.cell?_alloc_at _ _ _ _ rfl]
    match j, hj with
    | 0, _ =>
      have e : (UInt8.ofNat (q / 256)).toNat = q / 256 := by rw [UInt8.toNat_ofNat']; omega
      simp [e]
    | 1, _ =>
      have e : (UInt8.ofNat (q % 256)).toNat = q % 256 := by rw [UInt8.toNat_ofNat']; omega
      simp [e]
  have hl2 : (two ((q : Int) - 1000)).length = 2 := by rw [HT.out]; rfl
  go_enter Tryd.func15, Tryd.ntmps15
  go_wp2_with (at_builtin; (refine push_all rfl (.tmp 8) (.tmp 14) rfl B _ l (two ((q : Int) - 1000)) rfl (hown.alloc _) ⟨w.heap.size, 0, none⟩ 2 (by rw [hl2]; rfl) hc (by omega) (by simp; omega) ?_; intro v' w2 hown' hgrow))
  go_ret
  have h7 := grow2 ((Below.refl B w).alloc hB _) (hown.alloc _) hgrow (by simp; omega)
  exact ⟨_, rfl, hown', h7.1, h7.2⟩

end Go.Proofs.YthfkmedpcmiibaaDoor
