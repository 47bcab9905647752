/- Tables that came in; play. -/
import Derived.Test.YtpagnphabchfcaaGreatTh
import Derived.Test.YtpagnphabchfcaaGreatTf
namespace Go.Proofs.YtpagnphabchfcaaGreat
open Go.RowKit Go.Shelf
set_option maxRecDepth 100000
abbrev IEl := ByteArray × Value × List El
/-- Tables that came in. -/
structure IN (w : World) (v : Value) (xs : List IEl) : Prop where
  at' : ∃ a c, v = .slice a xs.length c ∧ (0 < xs.length → ∃ g o, a = some ⟨g, o, none⟩ ∧ g < w.heap.size ∧ ∀ (i : Nat) (e : IEl), xs[i]? = some e → w.cell? ⟨g, o + i * 2, none⟩ = some (.string e.1) ∧ w.cell? ⟨g, o + i * 2 + 1, none⟩ = some e.2.1)
  rows : ∀ e ∈ xs, RL w (fun _ => False) e.2.1 e.2.2 ∧ CapOk e.2.1 ∧ ∀ x ∈ e.2.2, CapOk x.1
  small : ∀ e ∈ xs, e.1.size ≤ maxLen
theorem IN.below {w w' : World} {v : Value} {xs : List IEl} (h : IN w v xs) (k : Below w.heap.size w w') : IN w' v xs := by
  refine ⟨?_, fun e he => ⟨(h.rows e he).1.below k, (h.rows e he).2⟩, h.small⟩
  obtain ⟨a, c, rfl, hh⟩ := h.at'
  refine ⟨a, c, rfl, fun h0 => ?_⟩
  obtain ⟨g, o, rfl, hg, hc⟩ := hh h0
  have kk : Keep (fun _ => False) w w' := Keep.of k
  exact ⟨g, o, rfl, Nat.lt_of_lt_of_le hg k.size, fun i s hs => ⟨(kk.cell hg id).trans (hc i s hs).1, (kk.cell hg id).trans (hc i s hs).2⟩⟩
theorem IN.form {w : World} {v : Value} {xs : List IEl} (h : IN w v xs) : ∃ a c, v = .slice a xs.length c := by
  obtain ⟨a, c, h, _⟩ := h.at'
  exact ⟨a, c, h⟩
theorem IN.get {w : World} {a : Option Addr} {n c : Nat} {xs : List IEl} (h : IN w (.slice a n c) xs) {k : Nat} {e : IEl} (hy : xs[k]? = some e) : ∃ g o, a = some ⟨g, o, none⟩ ∧ w.cell? ⟨g, o + k * 2, none⟩ = some (.string e.1) ∧ w.cell? ⟨g, o + k * 2 + 1, none⟩ = some e.2.1 := by
  obtain ⟨a', c', hv, hh⟩ := h.at'
  simp only [Value.slice.injEq] at hv
  obtain ⟨rfl, -, -⟩ := hv
  obtain ⟨g, o, rfl, hg, hc⟩ := hh (by have := (List.getElem?_eq_some_iff.1 hy).1; omega)
  exact ⟨g, o, rfl, hc k e hy⟩
theorem IN.at2 {w : World} {g o n c : Nat} {xs : List IEl} (h : IN w (.slice (some ⟨g, o, none⟩) n c) xs) {k : Nat} {e : IEl} (hy : xs[k]? = some e) : w.cell? ⟨g, o + k * 2, none⟩ = some (.string e.1) ∧ w.cell? ⟨g, o + k * 2 + 1, none⟩ = some e.2.1 := by
  obtain ⟨g', o', e', h1⟩ := h.get hy
  cases e'
  exact h1
theorem IN.few {w : World} {v : Value} {xs : List IEl} (h : IN w v xs) {e : IEl} (he : e ∈ xs) : Calls Tryz.prog 7 #[e.2.1] w (RPost w (fewR (rws e.2.2))) := by
  obtain ⟨h1, h2, h3⟩ := h.rows e he
  exact (few6 (RL.old h1) (fun _ q => q) h2 h3).mono (fun _ _ q => LPost.r q)
theorem putS_len {n : ByteArray} {l : List Rw} : ∀ (σ : List Tab), (putS n l σ).length ≤ σ.length + 1
  | [] => by simp [putS]
  | t :: σ => by
    unfold putS
    have := putS_len (n := n) (l := l) σ
    split
    · simp
    · split
      · simp
      · simp; omega
/-- Both states, with few tables. -/
def Few (N : Nat) (w : World) (s m r : Nat) : Prop := ∃ E σ, Two w s m r E σ ∧ E.length ≤ N ∧ σ.length ≤ N
theorem Few.below {N : Nat} {w w' : World} {s m r : Nat} (h : Few N w s m r) (k : Below w.heap.size w w') : Few N w' s m r := by
  obtain ⟨E, σ, h1, h2⟩ := h
  exact ⟨E, σ, h1.below k, h2⟩
theorem fewA (l : List Rw) : (fewR l).length ≤ 1000 ∧ ∀ x ∈ fewR l, x.1.length ≤ 1000 := ⟨by have := fewR_len l; omega, fun x hx => by have := fewR_vals l x hx; omega⟩
theorem PuPost.keep {w w' : World} {s m : Nat} {E : List (List UInt8 × Value)} {n : ByteArray} {l : List Rw} {e : Ending} (h : PuPost w s m E n l e w') : Keep (fun b => b = m) w w' := by
  obtain ⟨_, _, _, _, _, _, _, h⟩ := h
  exact h
theorem PuPost.rs {w w' w3 : World} {s m r : Nat} {E : List (List UInt8 × Value)} {σ : List Tab} {n : ByteArray} {l : List Rw} {e : Ending} (h : Two w s m r E σ) (hP : PuPost w s m E n l e w') (k : Below w'.heap.size w' w3) : RSt w3 r σ := (h.rs.keepM h.sm hP.keep).below k
/-- What play answers. -/
def PPost (w : World) (e : Ending) (w' : World) : Prop := ∃ s m r, e = .returned (.tuple #[.pointer (some ⟨s, 0, none⟩), .pointer (some ⟨r, 0, none⟩), .bool true]) ∧ Hid (Few 10 w' s m r) ∧ Hid (w.heap.size ≤ s ∧ w.heap.size ≤ m ∧ w.heap.size ≤ r) ∧ Below w.heap.size w w'
set_option maxHeartbeats 2000000 in
theorem play31 {w : World} {v : Value} {xs : List IEl} (h : IN w v xs) : Calls Tryz.prog 31 #[v] w (PPost w) := by
  obtain ⟨a, c, rfl⟩ := h.form
  obtain ⟨N, hN⟩ : ∃ N, xs.length = N := ⟨_, rfl⟩
  have HN : Hid (xs.length = N) := hN
  have HV : Hid (IN w (.slice a xs.length c) xs) := h
  rw [hN]
  clear hN h
  go_enter Tryz.func31, Tryz.ntmps31
  go_wp2_with (first
    | (go_at_call 42; (with_reducible refine (new27 _).mono ?_); rintro e w1 ⟨s, m, rfl, hSM, hs, hm, B1⟩; have HSM : Hid (SM w1 s m []) := hSM; clear hSM)
    | (go_at_call 69; (with_reducible refine (rnew69 _).mono ?_); rintro e w2 ⟨r, rfl, hRS, hr, B2⟩))
  have HT0 : Hid (Few 0 w2 s m r) := ⟨[], [], Two.new HSM.out B2 hRS, Nat.le_refl _, Nat.le_refl _⟩
  have HK0 : Hid (Below w.heap.size w w2) := bmore B1 B2
  have HSZ : Hid (w.heap.size ≤ s ∧ w.heap.size ≤ m ∧ w.heap.size ≤ r) := ⟨hs, hm, Nat.le_trans B1.size hr⟩
  clear hRS HSM B1 B2 hs hm hr
  go_loopw [7] (fun fi wr => ∃ (k : Nat), fi = .int .i64 (k : Int) ∧ Hid (k ≤ 10) ∧ Hid (Few k wr s m r) ∧ Hid (Below w.heap.size w wr)) (fun fi _ => (10 - intOf fi).toNat)
  case atStart => exact ⟨0, rfl, Nat.zero_le _, HT0.out, HK0.out⟩
  case round =>
    obtain ⟨k, rfl, hk, hT, hB⟩ := hrel
    by_cases hkN : k < N
    · by_cases hk10 : k < 10
      · have hkNi : (k : Int) < (N : Int) := by omega
        have hki : (k : Int) < 10 := by omega
        have hk0 : (0 : Int) ≤ (k : Int) := by omega
        obtain ⟨y, hy⟩ : ∃ y, xs[k]? = some y := ⟨_, List.getElem?_eq_getElem (by rw [HN.out]; exact hkN)⟩
        obtain ⟨g, o, rfl, _, _⟩ := (HV.out.below hB.out).get hy
        have hym := List.mem_of_getElem? hy
        have HS : Hid (∀ W, Below w.heap.size w W → W.cell? ⟨g, o + k * 2, none⟩ = some (.string y.1) ∧ W.cell? ⟨g, o + k * 2 + 1, none⟩ = some y.2.1) := fun W q => (HV.out.below q).at2 hy
        have H7 : Hid (∀ W, Below w.heap.size w W → Calls Tryz.prog 7 #[y.2.1] W (RPost W (fewR (rws y.2.2)))) := fun W q => (HV.out.below q).few hym
        have HSm : Hid (y.1.size ≤ maxLen) := HV.out.small y hym
        obtain ⟨pv, cv, hf⟩ := (HV.out.rows y hym).1.form
        obtain ⟨n, vv, es⟩ := y
        simp only at HS H7 HSm hf
        subst hf
        have HA : Hid _ := fewA (rws es)
        obtain ⟨A, hA⟩ : ∃ A, fewR (rws es) = A := ⟨_, rfl⟩
        have HAR : Hid (∀ x : List El, rws x = A → x.length ≤ 1000 ∧ ∀ e ∈ x, e.2.1.length ≤ 1000) := fun x hx => fewR_rws (l := rws es) (by rw [hx, hA])
        rw [hA] at H7 HA
        obtain ⟨E, σ, hTw, hE, hσ⟩ := hT.out
        have HTw : Hid (Two wr s m r E σ) := hTw
        have HE : Hid (E.length ≤ k ∧ σ.length ≤ k) := ⟨hE, hσ⟩
        have K0 : Below wr.heap.size wr wr.drew := (Below.refl _ _).drew
        have KW : Below w.heap.size w wr.drew := bmore hB.out K0
        have hS0 := HS.out _ KW
        have k7 := H7.out _ KW
        generalize es.length = L at *
        clear hy hym hTw hE hσ hA hT
        by_cases hn0 : (n.toList == []) = true
        · go_wp2_with fail
          go_region_held3 (fun W => W.cell? ⟨g, o + k * 2, none⟩ = some (.string n) ∧ W.cell? ⟨g, o + k * 2 + 1, none⟩ = some (.slice pv L cv)) (first | exact hS0 | exact HS.out _ KW) (first
            | (go_at_call 7; (with_reducible refine k7.mono ?_); rintro e y1 ⟨p1, c1, x1, rfl, r1, e1, C1⟩; replace KW := bmore KW C1; replace K0 := bmore K0 C1; have k39 := put39_no (w := y1) (s := s) (v := .slice p1 x1.length c1) hn0; clear C1 k7 hS0)
            | (go_at_call 39; (with_reducible refine k39.mono ?_); rintro e y2 ⟨rfl, rfl⟩; have k7b := H7.out _ KW; clear k39)
            | (go_at_call 7; (with_reducible refine k7b.mono ?_); rintro e y3 ⟨p3, c3, x3, rfl, r3, e3, C3⟩; replace KW := bmore KW C3; replace K0 := bmore K0 C3; have k40 := rput40_no (w := y3) (s := r) (v := .slice p3 x3.length c3) hn0; clear C3 k7b)
            | (go_at_call 40; (with_reducible refine k40.mono ?_); rintro e y4 ⟨rfl, rfl⟩; clear k40))
          go_wp2_with fail
          go_roundw
          case rel => exact ⟨k + 1, by simp, by show _ ≤ _; omega, ⟨E, σ, HTw.out.below K0, by have := HE.out.1; omega, by have := HE.out.2; omega⟩, KW⟩
          case measure => simp only [intOf]; omega
        · have hn1 : (n.toList == []) = false := by simpa using hn0
          clear hn0
          go_wp2_with fail
          go_region_held3 (fun W => W.cell? ⟨g, o + k * 2, none⟩ = some (.string n) ∧ W.cell? ⟨g, o + k * 2 + 1, none⟩ = some (.slice pv L cv)) (first | exact hS0 | exact HS.out _ KW) (first
            | (go_at_call 7; (with_reducible refine k7.mono ?_); rintro e y1 ⟨p1, c1, x1, rfl, r1, e1, C1⟩; replace KW := bmore KW C1; replace K0 := bmore K0 C1; have k39 := put28 (n := n) (HTw.out.below K0).sm (by have := HE.out.1; omega) HSm.out hn1 r1.out (HAR.out x1 e1.out).1 (HAR.out x1 e1.out).2; rw [e1.out] at k39; clear C1 k7 hS0)
            | (go_at_call 39; (with_reducible refine k39.mono ?_); rintro e y2 ⟨rfl, hP⟩; have HP : Hid (PuPost y1 s m E n (sortR A) (.returned (.int .i64 0)) y2) := ⟨rfl, hP⟩; replace KW := KW.trans (HP.out.keep.below KW.size (fun i hi q => by have := HSZ.out.2.1; omega)); have k7b := H7.out _ KW; clear k39 hP)
            | (go_at_call 7; (with_reducible refine k7b.mono ?_); rintro e y3 ⟨p3, c3, x3, rfl, r3, e3, C3⟩; replace KW := bmore KW C3; have HC3 : Hid (Below y2.heap.size y2 y3) := C3; have k40 := rput40 (n := n) (PuPost.rs (HTw.out.below K0) HP.out C3) (by have := HE.out.2; omega) HTw.out.sorted HSm.out hn1 r3.out (HAR.out x3 e3.out).1 (HAR.out x3 e3.out).2; rw [e3.out] at k40; clear C3 k7b)
            | (go_at_call 40; (with_reducible refine k40.mono ?_); rintro e y4 ⟨rfl, hR⟩; have HR : Hid (RPuPost y3 r (putS n (sortR A) σ) (.returned (.int .i64 0)) y4) := ⟨rfl, hR⟩; replace KW := KW.trans (hR.2.below KW.size (fun i hi q => by have := HSZ.out.2.2; omega)); clear hR k40))
          go_wp2_with fail
          go_roundw
          case rel =>
            obtain ⟨⟨v2, hT4⟩, _⟩ := Two.put HTw.out HSm.out HA.out.1 HA.out.2 K0 HP.out HC3.out HR.out
            exact ⟨k + 1, by simp, by show _ ≤ _; omega, ⟨_, _, hT4, by have := HE.out.1; simp; omega, by have := HE.out.2; have := putS_len (n := n) (l := sortR A) σ; omega⟩, KW⟩
          case measure => simp only [intOf]; omega
      · have hki : ¬ (k : Int) < 10 := by omega
        have hkNi : (k : Int) < (N : Int) := by omega
        have hke : k = 10 := by have := hk.out; omega
        subst hke
        go_wp2
        go_ret3
        exact ⟨s, m, r, rfl, hT.out, HSZ.out, hB.out⟩
    · have hkNi : ¬ (k : Int) < (N : Int) := by omega
      go_wp2
      go_ret3
      refine ⟨s, m, r, rfl, ?_, HSZ.out, hB.out⟩
      obtain ⟨E, σ, h1, h2, h3⟩ := hT.out
      exact ⟨E, σ, h1, by have := hk.out; omega, by have := hk.out; omega⟩
end Go.Proofs.YtpagnphabchfcaaGreat
