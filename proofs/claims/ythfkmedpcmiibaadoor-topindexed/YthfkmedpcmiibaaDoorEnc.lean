/- codec.Encode of every row. -/
import Derived.Test.YthfkmedpcmiibaaDoorRw
import Derived.Deep.RegionHeld3
namespace Go.Proofs.YthfkmedpcmiibaaDoor
open Go.RowKit Go.Lib

/-- A row's bytes. -/
def encR (vs : List Vt) (f t : Int) : Bs := flat vs ++ [0] ++ two f ++ two t
theorem BRow.lower {B B' : Nat} {v : Value} {l : Bs} {w : World} (h : BRow B' v l w) (hB : B ≤ B') : BRow B v l w := by
  obtain ⟨h1, h2 | ⟨g, cap, cur, rfl, hBg, hw, hn, hcap, hsz, htk⟩⟩ := h
  · exact ⟨h1, .inl h2⟩
  · exact ⟨h1, .inr ⟨g, cap, cur, rfl, by omega, hw, hn, hcap, hsz, htk⟩⟩
theorem spanR_parts {f t : Int} (h : spanR f t = true) : -1000 ≤ f ∧ f < t ∧ t ≤ 1000 := by
  simpa [spanR] using h
theorem rightRow_parts {vs : List Vt} {f t : Int} (h : rightRow vs f t = true) : 1 ≤ vs.length ∧ vs.length ≤ 4 ∧ (∀ x ∈ vs, okV x = true) ∧ spanR f t = true := by
  simp only [rightRow, Bool.and_eq_true, decide_eq_true_eq, List.all_eq_true] at h
  exact ⟨h.1, h.2.1, h.2.2.1, h.2.2.2⟩

set_option maxRecDepth 100000 in
set_option maxHeartbeats 2000000 in
theorem encode19_no (v : Value) (vs : List Vt) (f t : Int) (w : World) (hsv : SV w v vs) (hz : vs.length ≤ 140737488355328) (hvs : Few vs) (hr : rightRow vs f t = false) (hg : Good w) :
    Calls Tryd.prog 5 #[RV v f t] w fun e w' => e = .returned (.tuple #[.slice none 0 0, .int .i64 3]) ∧ Below w.heap.size w w' := by
  have c11 := fun W (h : Below w.heap.size w W) => rowRight v vs f t W (hsv.below h) hz hvs (hg.below h)
  rw [hr] at c11
  clear hr hsv hz hvs hg
  go_enter Tryd.func5, Tryd.ntmps5
  go_wp2_with (go_at_call 13; (refine (c11 _ (al _ _)).mono ?_; rintro e w1 ⟨rfl, hb1⟩))
  go_ret2
  exact ⟨rfl, bmore (al _ _) hb1⟩

/-- What the last region of Encode keeps. -/
def EncK (W0 : World) (B : Nat) (f t : Int) (v : Value) (l : Bs) (W : World) : Prop :=
  (W.cell? ⟨B, 1, none⟩ = some (.int .i64 f) ∧ W.cell? ⟨B, 2, none⟩ = some (.int .i64 t)) ∧ BRow W0.heap.size v l W ∧ Below W0.heap.size W0 W ∧ W0.heap.size ≤ W.heap.size

set_option maxRecDepth 100000 in
set_option maxHeartbeats 2000000 in
theorem encode19_some (b o n c : Nat) (vs : List Vt) (f t : Int) (w : World) (hl : Hid (vs.length = n)) (hn4 : n ≤ 4) (hat : VAt w b o vs) (hvs : Few vs) (hok : ∀ x ∈ vs, okV x = true) (hs : spanR f t = true)
    (c11 : ∀ W, Below w.heap.size w W → Calls Tryd.prog 13 #[RV (.slice (some ⟨b, o, none⟩) n c) f t] W fun e w' => e = .returned (.bool true) ∧ Below W.heap.size W w') (hg : Good w) :
    Calls Tryd.prog 5 #[RV (.slice (some ⟨b, o, none⟩) n c) f t] w fun e w' => ∃ u, e = .returned (.tuple #[u, .int .i64 0]) ∧ BRow w.heap.size u (encR vs f t) w' ∧ Below w.heap.size w w' := by
  have hsp := spanR_parts hs
  have HO : Hid (∀ x ∈ vs, okV x = true ∧ inI64 x.2.1) := fun x hx => ⟨hok x hx, (hvs x hx).1⟩
  have hfl : ∀ k, (flat (vs.take k)).length ≤ 34 * n := fun k => by
    have h1 := flat_len (vs.take k) (fun x hx => hok x (List.mem_of_mem_take hx))
    have h2 := List.length_take_le' k vs
    rw [hl.out] at h2
    omega
  have hgb : ∀ W, Below w.heap.size w W → Good W := fun W h => hg.below h
  have hatb : ∀ W, Below w.heap.size w W → VAt W b o vs := fun W h => hat.below h
  clear hat hvs hok hs hg
  obtain ⟨W0, hW0⟩ : ∃ W0, w.alloc (.cells #[.slice (some ⟨b, o, none⟩) n c, .int .i64 f, .int .i64 t] 33) = W0 := ⟨_, rfl⟩
  have hW : Below w.heap.size w W0 := hW0 ▸ al _ _
  have hWz : W0.heap.size = w.heap.size + 1 := by rw [← hW0]; simp
  have hbox : W0.cell? ⟨w.heap.size, 0, none⟩ = some (.slice (some ⟨b, o, none⟩) n c) ∧ W0.cell? ⟨w.heap.size, 1, none⟩ = some (.int .i64 f) ∧ W0.cell? ⟨w.heap.size, 2, none⟩ = some (.int .i64 t) := by
    rw [← hW0]
    exact ⟨World.cell?_alloc_at _ _ _ _ rfl, World.cell?_alloc_at _ _ _ _ rfl, World.cell?_alloc_at _ _ _ _ rfl⟩
  have hcb : ∀ W, Below W0.heap.size W0 W → W.cell? ⟨w.heap.size, 0, none⟩ = some (.slice (some ⟨b, o, none⟩) n c) ∧ W.cell? ⟨w.heap.size, 1, none⟩ = some (.int .i64 f) ∧ W.cell? ⟨w.heap.size, 2, none⟩ = some (.int .i64 t) := fun W h => by
    have hc := fun i => h.cell (p := ⟨w.heap.size, i, none⟩) (show w.heap.size < W0.heap.size by omega)
    exact ⟨(hc 0).trans hbox.1, (hc 1).trans hbox.2.1, (hc 2).trans hbox.2.2⟩
  have k37 : ∀ u l p W, -1000 ≤ p → p ≤ 1000 → l.length ≤ 1000 → EncK W0 w.heap.size f t u l W → Calls Tryd.prog 15 #[u, .int .i64 p] W fun e w' => ∃ u', e = .returned u' ∧ EncK W0 w.heap.size f t u' (l ++ two p) w' := fun u l p W h1 h2 h3 h => by
    obtain ⟨_, h4, h5, h6⟩ := h
    refine (point37 W0.heap.size u l p W h1 h2 h4 h6 h3).mono ?_
    rintro e w' ⟨u', rfl, h7, h8, h9⟩
    have h10 : Below W0.heap.size W0 w' := h5.trans h8
    exact ⟨u', rfl, (hcb w' h10).2, h7, h10, h9⟩
  obtain ⟨y0, y1, y2⟩ := hbox
  go_enter Tryd.func5, Tryd.ntmps5
  go_wp2_with (go_at_call 13; (refine (c11 _ hW).mono ?_; rintro e w1 ⟨rfl, hb1⟩; obtain ⟨x0, x1, x2⟩ := hcb w1 hb1))
  go_loopw [4, 14] (fun u i wr => ∃ k : Nat, k ≤ n ∧ i = .int .i64 (k : Int) ∧ BRow W0.heap.size u (flat (vs.take k)) wr ∧ Below W0.heap.size W0 wr ∧ W0.heap.size ≤ wr.heap.size) (fun _ i _ => n - (Lib.intOf i).toNat)
  case atStart => exact ⟨0, by omega, rfl, BRow.none _ _, hb1, hb1.size⟩
  case round =>
    obtain ⟨k, hk, rfl, hown, hbe, hBz⟩ := hrel
    obtain ⟨z0, z1, z2⟩ := hcb wr hbe
    have hbw := bmore hW hbe
    by_cases hlt : k < n
    · have hkz : (k : Int) < (n : Int) := by omega
      obtain ⟨x, hx⟩ : ∃ x, vs[k]? = some x := ⟨_, List.getElem?_eq_getElem (by rw [hl.out]; exact hlt)⟩
      obtain ⟨a0, a1, a2⟩ := hatb wr hbw k x hx
      obtain ⟨hxo, hxi⟩ := HO.out x (List.mem_of_getElem? hx)
      have HT : Hid (flat (vs.take (k + 1)) = flat (vs.take k) ++ bytesT x) := by
        have hk' := (List.getElem?_eq_some_iff.1 hx)
        show _ = _
        rw [List.take_succ_eq_append_getElem hk'.1, hk'.2, flat_snoc]
      have hlk := hfl k
      have hbl := bytesT_len hxo
      have k24 := bytes_yes x.1 x.2.1 x.2.2 wr hxi hxo (hgb wr hbw)
      obtain ⟨xk, xn, xs⟩ := x
      simp only at a0 a1 a2 k24
      generalize flat (vs.take k) = X at *
      go_wp2_with (first
        | (go_at_call 14; (refine k24.mono ?_; rintro e w2 ⟨u2, rfl, hux, hb2⟩; have hz2 := Nat.le_trans hBz hb2.size; have hw2 : Below W0.heap.size W0 w2 := hbe.trans (hb2.mono hBz)))
        | (at_builtin; (refine push_sb _ rfl (.tmp 26) (.tmp 27) rfl W0.heap.size _ _ X (bytesT (xk, xn, xs)) rfl rfl (hown.below hb2) (brow_sb hux) (by omega) hz2 ?_; intro v3 w3 hown3 hgrow; have hw3 := grow2 hw2 (hown.below hb2) hgrow hz2)))
      go_roundw
      case rel => exact ⟨k + 1, by omega, by go_num, by rw [HT.out]; exact hown3, hw3.1, hw3.2⟩
      case measure => simp [Lib.intOf]; omega
    · have hkz : ¬ ((k : Int) < (n : Int)) := by omega
      have hall : vs.take k = vs := List.take_of_length_le (by rw [hl.out]; omega)
      have hlk := hfl k
      rw [hall] at hown hlk
      have HE : Hid (encR vs f t = flat vs ++ [0] ++ two f ++ two t) := rfl
      generalize flat vs = X at *
      clear hall
      go_wp2_with (at_builtin; (refine push_own rfl (.tmp 30) (.tmp 31) rfl W0.heap.size _ X 0 rfl (hown.alloc _) ⟨wr.heap.size, 0, none⟩ rfl (by simp) (by omega) (by simp; omega) ?_; intro v3 w3 hown3 hgrow; have hw3 := grow2 (hbe.alloc hBz _) (hown.alloc _) hgrow (by simp; omega)))
      have hk : EncK W0 w.heap.size f t v3 (X ++ [0]) w3.drew := by
        have hd : Below w3.heap.size w3 w3.drew := (Below.refl _ _).drew
        have h5 : Below W0.heap.size W0 w3.drew := hw3.1.trans (hd.mono hw3.2)
        exact ⟨(hcb _ h5).2, hown3.below hd, h5, hw3.2⟩
      have kP : ∀ u l p W, (p = f ∨ p = t) → l.length ≤ 500 → EncK W0 w.heap.size f t u l W → Calls Tryd.prog 15 #[u, .int .i64 p] W fun e w' => ∃ u', e = .returned u' ∧ EncK W0 w.heap.size f t u' (l ++ two p) w' := fun u l p W hp h3 h =>
        k37 u l p W (by omega) (by omega) (by omega) h
      have hx0 : (X ++ [0]).length ≤ 500 := by simp; omega
      have hx1 : (X ++ [0] ++ two f).length ≤ 500 := by simp [two]; omega
      clear k37 hgrow hown3 hw3 hown hbe hBz z0 z1 z2 x0 x1 x2 hcb y0 y1 y2 hlk hfl hatb c11 hgb
      go_region_held3 (fun W => W.cell? ⟨w.heap.size, 1, none⟩ = some (.int .i64 f) ∧ W.cell? ⟨w.heap.size, 2, none⟩ = some (.int .i64 t)) (exact hk.1)
        (first
        | (go_at_call 15; refine (kP _ _ _ _ (by simp) hx0 hk).mono ?_; rintro e wk ⟨u4, rfl, hk⟩; clear hx0)
        | (go_at_call 15; refine (kP _ _ _ _ (by simp) hx1 hk).mono ?_; rintro e wk ⟨u5, rfl, hk⟩))
      go_wp2
      go_ret2
      exact ⟨_, rfl, by rw [HE.out]; exact hk.2.1.lower (by omega), bmore hW hk.2.2.1⟩

/-- codec.Encode of a row that can be. -/
theorem encode19_yes (v : Value) (vs : List Vt) (f t : Int) (w : World) (hsv : SV w v vs) (hvs : Few vs) (hr : rightRow vs f t = true) (hg : Good w) :
    Calls Tryd.prog 5 #[RV v f t] w fun e w' => ∃ u, e = .returned (.tuple #[u, .int .i64 0]) ∧ BRow w.heap.size u (encR vs f t) w' ∧ Below w.heap.size w w' := by
  obtain ⟨h1, h4, hok, hs⟩ := rightRow_parts hr
  have c11 := fun W (h : Below w.heap.size w W) => rowRight v vs f t W (hsv.below h) (by omega) hvs (hg.below h)
  rw [hr] at c11
  rcases hsv with ⟨a, c, rfl, rfl⟩ | ⟨b, o, c, rfl, h0, hc, hcm, hat⟩
  · simp at h1
  · exact encode19_some b o vs.length c vs f t w rfl h4 hat hvs hok hs c11 hg

end Go.Proofs.YthfkmedpcmiibaaDoor
