/- Rows: codec.Right, codec.Key, codec.addPoint. -/
import Derived.Test.YtolggmmlaohpdabDoorLine
namespace Go.Proofs.YtolggmmlaohpdabDoor
open Go.RowKit Go.Lib

/-- A row as the program holds it. -/
abbrev RV (v : Value) (f t : Int) : Value := .agg #[v, .int .i64 f, .int .i64 t]
/-- Can a span be. -/
def spanR (f t : Int) : Bool := decide (-1000 ≤ f) && (decide (f < t) && decide (t ≤ 1000))

theorem span27 (f t : Int) (w : World) : Calls Tryd.prog 27 #[.agg #[.int .i64 f, .int .i64 t]] w fun e w' => e = .returned (.bool (spanR f t)) ∧ Below w.heap.size w w' := by
  unfold spanR
  by_cases h1 : -1000 ≤ f
  · by_cases h2 : f < t
    · by_cases h3 : t ≤ 1000
      · simp only [h1, h2, h3]
        go_enter Tryd.func27, Tryd.ntmps27
        go_wp2
        go_ret
        exact ⟨rfl, al _ _⟩
      · simp only [h1, h2, h3]
        go_enter Tryd.func27, Tryd.ntmps27
        go_wp2
        go_ret
        exact ⟨rfl, al _ _⟩
    · simp only [h1, h2]
      go_enter Tryd.func27, Tryd.ntmps27
      go_wp2
      go_ret
      exact ⟨rfl, al _ _⟩
  · simp only [h1]
    go_enter Tryd.func27, Tryd.ntmps27
    go_wp2
    go_ret
    exact ⟨rfl, al _ _⟩

/-- Can a row be. -/
def rightRow (vs : List Vt) (f t : Int) : Bool := decide (1 ≤ vs.length) && (decide (vs.length ≤ 4) && (vs.all okV && spanR f t))

/-- The sizes of values that came in. -/
def Few (vs : List Vt) : Prop := ∀ x ∈ vs, inI64 x.2.1 ∧ x.2.2.size < 4611686018427387904

set_option maxRecDepth 100000 in
set_option maxHeartbeats 2000000 in
theorem right11_many (n c : Nat) (f t : Int) (w : World) (h : n = 0 ∨ 4 < n) (hn : n ≤ 4611686018427387904) (a : Option Addr) :
    Calls Tryd.prog 11 #[RV (.slice a n c) f t] w fun e w' => e = .returned (.bool false) ∧ Below w.heap.size w w' := by
  by_cases h0 : n = 0
  · subst h0
    go_enter Tryd.func11, Tryd.ntmps11
    go_wp2
    go_ret
    exact ⟨rfl, al _ _⟩
  · have h1 : ¬ ((n : Int) < 1) := by omega
    have h2 : (4 : Int) < (n : Int) := by omega
    go_enter Tryd.func11, Tryd.ntmps11
    go_wp2
    go_ret
    exact ⟨rfl, al _ _⟩

set_option maxRecDepth 100000 in
set_option maxHeartbeats 2000000 in
theorem right11_few (b o n c : Nat) (vs : List Vt) (f t : Int) (w : World) (hl : Hid (vs.length = n)) (h1 : 1 ≤ n) (h4 : n ≤ 4) (hat : VAt w b o vs) (hvs : Few vs) (hg : Good w) :
    Calls Tryd.prog 11 #[RV (.slice (some ⟨b, o, none⟩) n c) f t] w fun e w' => e = .returned (.bool (vs.all okV && spanR f t)) ∧ Below w.heap.size w w' := by
  have hz1 : ¬ ((n : Int) < 1) := by omega
  have hz4 : ¬ ((4 : Int) < (n : Int)) := by omega
  have c27 := span27 f t
  have HV : Hid (Few vs) := hvs
  have hgb : ∀ W, Below w.heap.size w W → Good W := fun W h => hg.below h
  have hatb : ∀ W, Below w.heap.size w W → VAt W b o vs := fun W h => hat.below h
  clear hat hvs hg
  go_enter Tryd.func11, Tryd.ntmps11
  go_wp2
  go_loopw [17] (fun i wr => ∃ k : Nat, k ≤ n ∧ i = .int .i64 (k : Int) ∧ (vs.take k).all okV = true ∧ Below (w.alloc (.cells #[.slice (some ⟨b, o, none⟩) n c, .int .i64 f, .int .i64 t] 26)).heap.size (w.alloc (.cells #[.slice (some ⟨b, o, none⟩) n c, .int .i64 f, .int .i64 t] 26)) wr) (fun i _ => n - (Lib.intOf i).toNat)
  case atStart => exact ⟨0, by omega, rfl, rfl, Below.refl _ _⟩
  case round =>
    obtain ⟨k, hk, rfl, hall, hbe⟩ := hrel
    have e0 := (new_cells hbe 0).1
    have e1 := (new_cells hbe 1).1
    have e2 := (new_cells hbe 2).1
    simp at e0 e1 e2
    have hbw := bmore (al w _) hbe
    by_cases hlt : k < n
    · have hkz : (k : Int) < (n : Int) := by omega
      obtain ⟨x, hx⟩ : ∃ x, vs[k]? = some x := ⟨_, List.getElem?_eq_getElem (by rw [hl.out]; exact hlt)⟩
      obtain ⟨a0, a1, a2⟩ := hatb wr hbw k x hx
      obtain ⟨hn, hsz⟩ := HV.out x (List.mem_of_getElem? hx)
      have HT : Hid (vs.take (k + 1) = vs.take k ++ [x]) := by
        have hk' := (List.getElem?_eq_some_iff.1 hx)
        show _ = _
        rw [List.take_succ_eq_append_getElem hk'.1, hk'.2]
      have HM : Hid (x ∈ vs) := List.mem_of_getElem? hx
      have c26 := rightv12 x.1 x.2.1 x.2.2 wr hsz (hgb wr hbw)
      obtain ⟨xk, xn, xs⟩ := x
      simp only at a0 a1 a2 c26
      cases hR : okV (xk, xn, xs)
      · rw [show rightV xk xn (bs xs) = false from hR] at c26
        have HF : Hid (vs.all okV = false) := by
          show _ = _
          rw [List.all_eq_false]
          exact ⟨_, HM.out, by rw [hR]; simp⟩
        go_wp2_with (go_at_call 26; (refine c26.mono ?_; rintro e w1 ⟨rfl, hb1⟩))
        go_ret
        exact ⟨by rw [HF.out]; rfl, bmore hbw hb1⟩
      · rw [show rightV xk xn (bs xs) = true from hR] at c26
        go_wp2_with (go_at_call 26; (refine c26.mono ?_; rintro e w1 ⟨rfl, hb1⟩))
        go_roundw
        case rel => exact ⟨k + 1, by omega, by go_num, by rw [HT.out, List.all_append, hall]; simp [hR], bmore hbe hb1⟩
        case measure => simp [Lib.intOf]; omega
    · have hkz : ¬ ((k : Int) < (n : Int)) := by omega
      have HF : Hid (vs.all okV = true) := by
        show _ = _
        rw [List.take_of_length_le (by rw [hl.out]; omega)] at hall
        exact hall
      go_wp2_with (go_at_call 27; (refine (c27 _).mono ?_; rintro e w1 ⟨rfl, hb1⟩))
      go_ret
      exact ⟨by rw [HF.out]; rfl, bmore hbw hb1⟩

theorem rowRight (v : Value) (vs : List Vt) (f t : Int) (w : World) (hsv : SV w v vs) (hz : vs.length ≤ 140737488355328) (hvs : Few vs) (hg : Good w) :
    Calls Tryd.prog 11 #[RV v f t] w fun e w' => e = .returned (.bool (rightRow vs f t)) ∧ Below w.heap.size w w' := by
  unfold rightRow
  rcases hsv with ⟨a, c, rfl, rfl⟩ | ⟨b, o, c, rfl, h0, hc, hcm, hat⟩
  · exact right11_many 0 c f t w (.inl rfl) (by omega) a
  · by_cases h4 : vs.length ≤ 4
    · have := right11_few b o vs.length c vs f t w rfl h0 h4 hat hvs hg
      rw [show decide (1 ≤ vs.length) = true from decide_eq_true h0, show decide (vs.length ≤ 4) = true by simpa using h4]
      simpa using this
    · rw [show decide (vs.length ≤ 4) = false by simpa using h4]
      simp only [Bool.false_and, Bool.and_false]
      exact right11_many vs.length c f t w (.inr (by omega)) (by omega) _

/-! ### its key -/
/-- The bytes of a row's key. -/
def keyR (vs : List Vt) : Bs := match vs with
  | [] => []
  | x :: _ => if okV x then bytesT x else []

set_option maxRecDepth 100000 in
set_option maxHeartbeats 2000000 in
theorem key17_nil (a : Option Addr) (c : Nat) (f t : Int) (w : World) :
    Calls Tryd.prog 17 #[RV (.slice a 0 c) f t] w fun e w' => e = .returned (.string ⟨#[]⟩) ∧ Below w.heap.size w w' := by
  go_enter Tryd.func17, Tryd.ntmps17
  go_wp2
  go_ret
  exact ⟨rfl, al _ _⟩

set_option maxRecDepth 100000 in
set_option maxHeartbeats 2000000 in
theorem key17_some (b o n c : Nat) (x : Vt) (f t : Int) (w : World) (_h0 : ¬ ((n : Int) = 0)) (h0' : (0 : Int) < (n : Int)) (hat : w.cell? ⟨b, o, none⟩ = some (.int .u8 x.1) ∧ w.cell? ⟨b, o + 1, none⟩ = some (.int .i64 x.2.1) ∧ w.cell? ⟨b, o + 2, none⟩ = some (.string x.2.2)) (hx : inI64 x.2.1 ∧ x.2.2.size < 4611686018427387904) (hg : Good w) :
    Calls Tryd.prog 17 #[RV (.slice (some ⟨b, o, none⟩) n c) f t] w fun e w' => e = .returned (.string (str (if okV x then bytesT x else []))) ∧ Below w.heap.size w w' := by
  obtain ⟨a0, a1, a2⟩ := hat
  have hb : b < w.heap.size := World.block_lt_of_cell? _ _ a0
  have hne : b ≠ w.heap.size := by omega
  have d0 : ∀ ob, (w.alloc ob).cell? ⟨b, o, none⟩ = some (.int .u8 x.1) := fun ob => by rw [World.cell?_alloc_old _ _ _ hne]; exact a0
  have d1 : ∀ ob, (w.alloc ob).cell? ⟨b, o + 1, none⟩ = some (.int .i64 x.2.1) := fun ob => by rw [World.cell?_alloc_old _ _ _ hne]; exact a1
  have d2 : ∀ ob, (w.alloc ob).cell? ⟨b, o + 2, none⟩ = some (.string x.2.2) := fun ob => by rw [World.cell?_alloc_old _ _ _ hne]; exact a2
  have hgo : ∀ ob, Good (w.alloc ob) := fun ob => hg.below (al _ _)
  obtain ⟨xk, xn, xs⟩ := x
  simp only at d0 d1 d2 hx
  clear a0 a1 a2 hb hne
  cases hR : okV (xk, xn, xs)
  · have k24 := fun W h => bytes_no xk xn xs W hx.2 hR h
    have cv : ∀ W, (convert 34 9 (.slice none 0 0)).run Tryd.prog W = .ok (.string ByteArray.empty) W := fun W => run_convert_bytes_nil W 34 5 Tryd.underlying34 Tryd.underlying5 0 0 9 Tryd.underlying9
    simp only [Bool.false_eq_true, if_false]
    clear hR hx
    go_enter Tryd.func17, Tryd.ntmps17
    go_wp2_with (go_at_call 24; (refine (k24 _ (hgo _)).mono ?_; rintro e w1 ⟨rfl, hb1⟩))
    go_ret
    exact ⟨rfl, bmore (al _ _) hb1⟩
  · have k24 := fun W h => bytes_yes xk xn xs W hx.1 hR h
    simp only [if_true]
    show Calls _ _ _ _ fun e w' => e = .returned (.string (str (bytesV xk xn (bs xs)))) ∧ _
    generalize bytesV xk xn (bs xs) = X at *
    clear hR hx
    go_enter Tryd.func17, Tryd.ntmps17
    go_wp2_with (go_at_call 24; (refine (k24 _ (hgo _)).mono ?_; rintro e w1 ⟨u, rfl, hrow, hb1⟩; have cv := conv_own hrow))
    go_ret
    exact ⟨rfl, bmore (al _ _) hb1⟩

theorem key17 (v : Value) (vs : List Vt) (f t : Int) (w : World) (hsv : SV w v vs) (hvs : Few vs) (hg : Good w) :
    Calls Tryd.prog 17 #[RV v f t] w fun e w' => e = .returned (.string (str (keyR vs))) ∧ Below w.heap.size w w' := by
  rcases hsv with ⟨a, c, rfl, rfl⟩ | ⟨b, o, c, rfl, h0, hc, hcm, hat⟩
  · exact key17_nil a c f t w
  · cases vs with
    | nil => simp at h0
    | cons x r =>
      have h1 := hat 0 x (by simp)
      simp only [Nat.zero_mul, Nat.add_zero] at h1
      exact key17_some b o _ c x f t w (by simp; omega) (by simp) h1 (hvs x (by simp)) hg

/-! ### a point as two bytes -/
def two (p : Int) : Bs := [UInt8.ofNat ((p + 1000).toNat / 256), UInt8.ofNat ((p + 1000).toNat % 256)]

set_option maxRecDepth 100000 in
set_option maxHeartbeats 2000000 in
theorem point37 (B : Nat) (v : Value) (l : Bs) (p : Int) (w : World) (h1 : -1000 ≤ p) (h2 : p ≤ 1000) (hown : BRow B v l w) (hB : B ≤ w.heap.size) (hlen : l.length ≤ 1000) :
    Calls Tryd.prog 37 #[v, .int .i64 p] w fun e w' => ∃ v', e = .returned v' ∧ BRow B v' (l ++ two p) w' ∧ Below B w w' ∧ B ≤ w'.heap.size := by
  obtain ⟨q, hq⟩ : ∃ q : Nat, p + 1000 = (q : Int) := ⟨(p + 1000).toNat, by omega⟩
  have hp : p = (q : Int) - 1000 := by omega
  subst hp
  have HT : Hid (two ((q : Int) - 1000) = [UInt8.ofNat (q / 256), UInt8.ofNat (q % 256)]) := by
    show _ = _
    unfold two
    rw [hq, Int.toNat_natCast]
  clear hq
  have hc : ∀ j, j < (two ((q : Int) - 1000)).length → (w.alloc (.cells #[.int .u8 ((q : Int) / 256), .int .u8 ((q : Int) % 256)] 5)).cell? ((⟨w.heap.size, 0, none⟩ : Addr).add j) = some (.int .u8 (((two ((q : Int) - 1000)).getD j 0).toNat : Int)) := by
    rw [HT.out]
    intro j hj
    rw [add_offv, Nat.zero_add, World.cell?_alloc_at _ _ _ _ rfl]
    match j, hj with
    | 0, _ =>
      have e : (UInt8.ofNat (q / 256)).toNat = q / 256 := by rw [UInt8.toNat_ofNat']; omega
      simp [e]
    | 1, _ =>
      have e : (UInt8.ofNat (q % 256)).toNat = q % 256 := by rw [UInt8.toNat_ofNat']; omega
      simp [e]
  have hl2 : (two ((q : Int) - 1000)).length = 2 := by rw [HT.out]; rfl
  go_enter Tryd.func37, Tryd.ntmps37
  go_wp2_with (at_builtin; (refine push_all rfl (.tmp 8) (.tmp 14) rfl B _ l (two ((q : Int) - 1000)) rfl (hown.alloc _) ⟨w.heap.size, 0, none⟩ 2 (by rw [hl2]; rfl) hc (by omega) (by simp; omega) ?_; intro v' w2 hown' hgrow))
  go_ret
  have h7 := grow2 ((Below.refl B w).alloc hB _) (hown.alloc _) hgrow (by simp; omega)
  exact ⟨_, rfl, hown', h7.1, h7.2⟩

end Go.Proofs.YtolggmmlaohpdabDoor
