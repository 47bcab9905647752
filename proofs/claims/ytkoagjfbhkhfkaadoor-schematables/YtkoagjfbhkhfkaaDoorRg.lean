/- The reference's catalog: New, Get; few. -/
import Derived.Test.YtkoagjfbhkhfkaaDoorRo
namespace Go.Proofs.YtkoagjfbhkhfkaaDoor
open Go.RowKit Go.Lib
set_option maxRecDepth 100000
variable {w w' : World} {r : Nat} {lv : Value} {Q : Nat → Prop}
/-- A table, and the slice of its columns. -/
abbrev Tv := Tb × Value
def TabsAt (w : World) (g o : Nat) (L : List Tv) : Prop := ∀ i x, L[i]? = some x → w.cell? ⟨g, o + i * 4, none⟩ = some (.string (str x.1.n)) ∧ w.cell? ⟨g, o + i * 4 + 1, none⟩ = some x.2 ∧ w.cell? ⟨g, o + i * 4 + 2, none⟩ = some (.string (str x.1.p)) ∧ w.cell? ⟨g, o + i * 4 + 3, none⟩ = some (.int .i64 x.1.r)
/-- Tables behind a slice, all in blocks of P. -/
def TL (P : Nat → Prop) (w : World) (v : Value) (L : List Tv) : Prop :=
  (∃ a c, v = .slice a L.length c ∧ L.length ≤ c ∧ (0 < L.length → ∃ g o, a = some ⟨g, o, none⟩ ∧ g < w.heap.size ∧ P g ∧ TabsAt w g o L)) ∧ ∀ x ∈ L, SCP P w x.2 x.1.cols
theorem TL.keep {P : Nat → Prop} {v : Value} {L : List Tv} (h : TL P w v L) (hs : w.heap.size ≤ w'.heap.size) (hk : ∀ k, k < w.heap.size → P k → w'.heap[k]? = w.heap[k]?) : TL P w' v L := by
  obtain ⟨⟨a, c, h1, hc, h2⟩, h3⟩ := h
  refine ⟨⟨a, c, h1, hc, fun h0 => ?_⟩, fun x hx => (h3 x hx).keep hs hk⟩
  obtain ⟨g, o, h4, h5, h6, h7⟩ := h2 h0
  refine ⟨g, o, h4, Nat.lt_of_lt_of_le h5 hs, h6, fun i x hx => ?_⟩
  have := h7 i x hx
  simpa only [World.cell?, hk g h5 h6] using this
theorem TL.imp {P Q : Nat → Prop} {v : Value} {L : List Tv} (h : TL P w v L) (hPQ : ∀ g, g < w.heap.size → P g → Q g) : TL Q w v L := by
  obtain ⟨⟨a, c, h1, hc, h2⟩, h3⟩ := h
  refine ⟨⟨a, c, h1, hc, fun h0 => ?_⟩, fun x hx => (h3 x hx).imp hPQ⟩
  obtain ⟨g, o, h4, h5, h6, h7⟩ := h2 h0
  exact ⟨g, o, h4, h5, hPQ g h5 h6, h7⟩
theorem TL.below {P : Nat → Prop} {v : Value} {L : List Tv} (h : TL P w v L) (hb : Below w.heap.size w w') : TL P w' v L := h.keep hb.size (fun k hk _ => hb.block k hk)
/-- The reference's catalog at r has these tables. -/
structure RCat (Q : Nat → Prop) (w : World) (r : Nat) (lv : Value) (L : List Tv) : Prop where
  blk : Blk w r [lv] 63
  tl : TL (fun k => k ≠ r ∧ Q k) w lv L
  ok : ∀ x ∈ L, rtB x.1.n x.1.cols x.1.p x.1.r = true
  few : L.length ≤ 3
theorem RCat.below {L : List Tv} (h : RCat Q w r lv L) (hb : Below w.heap.size w w') : RCat Q w' r lv L := ⟨h.blk.below hb, h.tl.below hb, h.ok, h.few⟩
theorem rnew26 (Q : Nat → Prop) (w : World) : Calls Tryd.prog 26 #[] w fun e w' => ∃ r, e = .returned (.pointer (some ⟨r, 0, none⟩)) ∧ RCat Q w' r (.slice none 0 0) [] ∧ w.heap.size ≤ r ∧ Below w.heap.size w w' := by
  go_enter Tryd.func26, Tryd.ntmps26
  go_wp2
  go_ret
  exact ⟨_, rfl, ⟨blk_new _ [.slice none 0 0] 63, ⟨⟨none, 0, rfl, Nat.le_refl _, fun h => by simp at h⟩, by simp⟩, by simp, by simp⟩, Nat.le_refl _, al _ _⟩
theorem SV_one {P : Nat → Prop} {v : Value} {l : List Cl} (h : SCP P w v l) : ∃ a n c, v = .slice a n c := by
  obtain ⟨a, c, h1, _⟩ := h
  exact ⟨a, _, c, h1⟩
def rfnd (L : List Tv) (s : Bs) : Option Tv := L.find? (fun x => x.1.n == s)
set_option maxHeartbeats 2000000 in
theorem rget28 {L : List Tv} (h : RCat Q w r lv L) (s : ByteArray) :
    Calls Tryd.prog 28 #[.pointer (some ⟨r, 0, none⟩), .string s] w fun e w' => Below w.heap.size w w' ∧ ((rfnd L (bs s) = none ∧ e = .returned (.tuple #[TB0, .bool false])) ∨
      ∃ x va vc, rfnd L (bs s) = some x ∧ e = .returned (.tuple #[TB (str x.1.n) (.slice va x.1.cols.length vc) (str x.1.p) x.1.r, .bool true]) ∧ SCP (fun g => w.heap.size ≤ g) w' (.slice va x.1.cols.length vc) x.1.cols) := by
  obtain ⟨⟨a, cp, rfl, hcp, hat⟩, hcols⟩ := h.tl
  have hfew := h.few
  have e0 := h.blk.here (j := 0) rfl
  have hrl := h.blk.lt
  obtain ⟨N, hN⟩ : ∃ N, L.length = N := ⟨_, rfl⟩
  have HNN : Hid (L.length = N) := hN
  have HA : Hid (0 < L.length → ∃ g o, a = some ⟨g, o, none⟩ ∧ g < w.heap.size ∧ (g ≠ r ∧ Q g) ∧ TabsAt w g o L) := hat
  have HO : Hid (∀ x ∈ L, ∀ w1, Below w.heap.size w w1 → Calls Tryd.prog 42 #[TB (str x.1.n) x.2 (str x.1.p) x.1.r] w1 fun e w' => ∃ va vc, e = .returned (TB (str x.1.n) (.slice va x.1.cols.length vc) (str x.1.p) x.1.r) ∧ SCP (fun g => w1.heap.size ≤ g) w' (.slice va x.1.cols.length vc) x.1.cols ∧ Below w1.heap.size w1 w') := fun x hx w1 h1 => by
    have := rtB_cols (h.ok x hx)
    exact own42 _ _ _ _ _ w1 ((hcols x hx).keep h1.size (fun k hk _ => h1.block k hk)).sc (by omega) this.1
  rw [hN] at e0 hfew
  clear hat hN hcols hcp
  go_enter Tryd.func28, Tryd.ntmps28
  go_wp2
  go_loopw [6] (fun q wr => ∃ m : Nat, m ≤ N ∧ q = .int .i64 (m : Int) ∧ wr = w.alloc (.cells #[.string ⟨#[]⟩, .slice none 0 0, .string ⟨#[]⟩, .int .i64 0] 32) ∧ Hid (rfnd L (bs s) = (L.drop m).find? (fun x => x.1.n == bs s))) (fun q _ => N - (RowKit.intOf q).toNat)
  case atStart => exact ⟨0, by omega, rfl, rfl, by show _ = _; simp [rfnd]⟩
  case round =>
    obtain ⟨m, hm, rfl, rfl, HC⟩ := hrel
    by_cases hlt : m < N
    · have hlt1 : (m : Int) < (N : Int) := by omega
      have hlt0 : (0 : Int) ≤ (m : Int) := by omega
      obtain ⟨x, hx⟩ : ∃ x, L[m]? = some x := ⟨_, List.getElem?_eq_getElem (by rw [HNN.out]; exact hlt)⟩
      have hdr : L.drop m = x :: L.drop (m + 1) := by
        have hm' := List.getElem?_eq_some_iff.1 hx
        rw [List.drop_eq_getElem_cons hm'.1, hm'.2]
      obtain ⟨g, o, rfl, hgl, hgr, hco⟩ := HA.out (by rw [HNN.out]; omega)
      obtain ⟨c0, c1, c2, c3⟩ := hco m x hx
      have hxm := List.mem_of_getElem? hx
      have H42 := HO.out x hxm
      rw [hdr] at HC
      clear hco hx hdr
      by_cases he : x.1.n = bs s
      · have hs : str x.1.n = s := by rw [he, str_bs]
        have HR : Hid (rfnd L (bs s) = some x) := by show _ = _; rw [HC.out]; simp [he]
        have hone := SV_one (h.tl.2 x hxm)
        obtain ⟨y, yv⟩ := x
        simp only at c0 c1 c2 c3 H42 hs hone
        obtain ⟨ya, yl, yc, rfl⟩ := hone
        rw [hs] at c0 H42
        obtain ⟨NL, hNL⟩ : ∃ NL, y.cols.length = NL := ⟨_, rfl⟩
        simp only [hNL] at H42
        have HH : Hid _ := H42
        have HNL : Hid (y.cols.length = NL) := hNL
        have HS : Hid (str y.n = s) := hs
        clear HC hs he H42 hNL
        go_wp2_with (go_at_call 42; refine (HH.out _ (al _ _)).mono ?_; rintro e w1 ⟨va, vc, rfl, hscp, hb1⟩; have b0 := (blk_new w [.string ⟨#[]⟩, .slice none 0 0, .string ⟨#[]⟩, .int .i64 0] 32).below hb1; have d0 := b0.here (j := 0) rfl; have d1 := b0.here (j := 1) rfl; have d2 := b0.here (j := 2) rfl; have d3 := b0.here (j := 3) rfl; have fd := b0.frozen)
        refine bodyPost_ret (results_cell2 rfl _ _ _ w.heap.size [.string s, .slice va NL vc, .string (str y.p), .int .i64 y.r] 32 ?_ rfl _ Tryd.underlying32 rfl (by kernel_rfl)) rfl ⟨?_, .inr ⟨_, va, vc, HR.out, ?_, ?_⟩⟩
        · exact (((b0.set _).set _).set _).set _
        · exact bset (bset (bset (bset (bmore (al _ _) hb1) (by simp) _) (by simp) _) (by simp) _) (by simp) _
        · simp only [HNL.out, HS.out]
          rfl
        · simp only [HNL.out]
          refine (hscp.keep (w' := _) (by simp [World.setCell]) (fun k _ hk => ?_)).imp (fun g _ h => by simp at h; omega)
          simp at hk
          rw [Below.heap_setCell _ _ _ _ (by simp; omega), Below.heap_setCell _ _ _ _ (by simp; omega), Below.heap_setCell _ _ _ _ (by simp; omega), Below.heap_setCell _ _ _ _ (by simp; omega)]
      · have hne : str x.1.n ≠ s := fun e => he (str_inj e)
        have hnd := ne_list hne
        have HR : Hid (rfnd L (bs s) = (L.drop (m + 1)).find? (fun x => x.1.n == bs s)) := by show _ = _; rw [HC.out]; simp [he]
        clear HC hne he HO H42
        generalize str x.1.n = q at *
        go_wp2
        go_roundw
        case rel => exact ⟨m + 1, by omega, by simp, by trivial, HR⟩
        case measure => simp [RowKit.intOf]; omega
    · have hlt1 : ¬ (m : Int) < (N : Int) := by omega
      have HR : Hid (rfnd L (bs s) = none) := by
        show _ = _
        rw [HC.out, List.drop_eq_nil_of_le (by rw [HNN.out]; omega)]; rfl
      clear HC
      go_wp2
      exact bodyPost_ret (results_cell2 rfl _ _ _ w.heap.size [.string ⟨#[]⟩, .slice none 0 0, .string ⟨#[]⟩, .int .i64 0] 32 (blk_new w _ 32) rfl _ Tryd.underlying32 rfl (by kernel_rfl)) rfl ⟨al _ _, .inl ⟨HR.out, rfl⟩⟩
end Go.Proofs.YtkoagjfbhkhfkaaDoor
