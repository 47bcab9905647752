/- live: what must be whatever is asked. -/
import Derived.Test.YtolggmmlaohpdaaDoorPrs2
import Derived.Test.YtolggmmlaohpdaaDoorByt
namespace Go.Proofs.YtolggmmlaohpdaaDoor
open Go.RowKit Go.Lib Go.Joins

theorem live_x : prsV [39, 120, 39] = (2, 0, [120], 0) := by
  have h : saidV [39, 120, 39] = (2, 0, [120], true) := by
    rw [saidV_text (fun n => by rw [parse_mark]; simp)]
    have : unq [39, 120, 39] = ([120], 3, 0) := by kernel_rfl
    rw [this]; rfl
  have hp : prV 2 0 [120] = ([39, 120, 39], 0) := by kernel_rfl
  unfold prsV
  rw [h, hp]; simp
theorem live_7 : prsV [48, 48, 55] = (0, 0, [], 3) := by
  have h : saidV [48, 48, 55] = (1, 7, [], true) := saidV_num (by kernel_rfl)
  have hp : prV 1 7 [] = ([55], 0) := by
    rw [prV_yes (by simp [rightV_int]), printV_int]
    have : itoa 7 = [55] := by
      show decDigits 7 = [55]
      rw [decDigits_one (by decide)]
      rfl
    rw [this]
  unfold prsV
  rw [h, hp]; simp
theorem live_9 : itoa (-9) = [45, 57] := by
  show 45 :: decDigits 9 = [45, 57]
  rw [decDigits_one (by decide)]
  rfl
theorem live_b : bytesV 1 (-1) [] = [1, 127, 255, 255, 255, 255, 255, 255, 255] := by kernel_rfl

/-- A row of the call's own reads as its bytes. -/
theorem brow_at {B : Nat} {v : Value} {l : Bs} {w : World} (h : BRow B v l w) (hl : 0 < l.length) : ∃ g c, v = .slice (some ⟨g, 0, none⟩) l.length c ∧ l.length ≤ c ∧ c ≤ maxLen ∧ B ≤ g ∧ At w g 0 l := by
  have h' := h
  obtain ⟨h1, ⟨rfl, h2⟩ | ⟨g, cap, cur, rfl, hBg, hw, hn, hcap, hsz, htk⟩⟩ := h
  · omega
  · refine ⟨g, cap, rfl, hn, hcap, hBg, fun i hi => ?_⟩
    have := World.ownsRow.cells h' (g := g) rfl i (.int .u8 ((l.getD i 0).toNat : Int)) (by rw [cellsB_get l i hi])
    rw [show ((⟨g, 0, none⟩ : Addr).add i) = ⟨g, 0 + i, none⟩ by unfold Addr.add; split <;> simp_all] at this
    exact this
theorem brow_sb {B : Nat} {v : Value} {l : Bs} {w : World} (h : BRow B v l w) : SB w v l := by
  by_cases hl : 0 < l.length
  · obtain ⟨g, c, h1, h2, h3, _, h5⟩ := brow_at h hl
    exact .inr ⟨g, 0, c, h1, hl, h2, h3, h5⟩
  · have e : l = [] := List.eq_nil_of_length_eq_zero (by omega)
    subst e
    obtain ⟨h1, ⟨rfl, h2⟩ | ⟨g, cap, cur, rfl, _⟩⟩ := h
    · exact .inl ⟨_, _, rfl, rfl⟩
    · exact .inl ⟨_, _, rfl, rfl⟩

theorem At.get {w : World} {b o : Nat} {l : Bs} (h : At w b o l) (i : Nat) (x : UInt8) (hx : l[i]? = some x) : w.cell? ⟨b, o + i, none⟩ = some (.int .u8 (x.toNat : Int)) := by
  have hi : i < l.length := (List.getElem?_eq_some_iff.1 hx).1
  rw [h i hi]
  simp [List.getD, hx]

set_option maxRecDepth 100000 in
set_option maxHeartbeats 800000 in
theorem live11 {w0 w : World} (hst : St w0 w) : Calls Tryd.prog 11 #[] w fun e w' => e = .returned (.bool true) ∧ St w0 w' := by
  have k21 : ∀ w, St w0 w → Calls Tryd.prog 21 #[V 1 (-1) ⟨#[]⟩] w fun e w' => ∃ g c, e = .returned (.tuple #[.slice (some ⟨g, 0, none⟩) 9 c, .int .i64 0]) ∧ At w' g 0 [1, 127, 255, 255, 255, 255, 255, 255, 255] ∧ St w0 w' := fun w h => by
    refine (bytes_yes 1 (-1) ⟨#[]⟩ w (by unfold inI64; omega) (by simp [rightV_int]) h.1).mono ?_
    rintro e w' ⟨v, rfl, hrow, hb⟩
    rw [show bs ⟨#[]⟩ = [] from rfl, live_b] at hrow
    obtain ⟨g, c, rfl, _, _, _, hat⟩ := brow_at hrow (by decide)
    exact ⟨g, c, rfl, hat, h.more hb⟩
  have kx : ∀ w, St w0 w → Calls Tryd.prog 19 #[.string ⟨#[39, 120, 39]⟩] w fun e w' => e = .returned (.tuple #[V 2 0 ⟨#[120]⟩, .int .i64 0]) ∧ Below w.heap.size w w' := fun w h => by
    have := parse19 ⟨#[39, 120, 39]⟩ w (by decide) h.1
    rw [show bs ⟨#[39, 120, 39]⟩ = [39, 120, 39] from rfl, live_x] at this
    exact this
  have k7 : ∀ w, St w0 w → Calls Tryd.prog 19 #[.string ⟨#[48, 48, 55]⟩] w fun e w' => e = .returned (.tuple #[V 0 0 ⟨#[]⟩, .int .i64 3]) ∧ Below w.heap.size w w' := fun w h => by
    have := parse19 ⟨#[48, 48, 55]⟩ w (by decide) h.1
    rw [show bs ⟨#[48, 48, 55]⟩ = [48, 48, 55] from rfl, live_7] at this
    exact this
  have k16 : ∀ w, St w0 w → Calls Tryd.prog 16 #[.int .i64 (-9)] w fun e w' => e = .returned (.string ⟨#[45, 57]⟩) ∧ St w0 w' := fun w h => by
    have := keep h (digits16 (-9) (by unfold inI64; omega) w)
    rw [live_9] at this
    exact this
  go_enter Tryd.func11, Tryd.ntmps11
  go_wp2_with (first
    | (go_at_call 21; refine (k21 _ hst).mono ?_; rintro e w1 ⟨g, c, rfl, hat, hst1⟩; clear hst k21)
    | (go_at_call 19; refine (kx _ hst1).mono ?_; rintro e w2 ⟨rfl, hb⟩; have hat2 : ∀ o, At (w2.alloc o) g 0 [1, 127, 255, 255, 255, 255, 255, 255, 255] := fun o => (hat.below hb).below (al w2 o); clear hat; have hst2 : ∀ o, St w0 (w2.alloc o) := fun o => (hst1.more hb).alloc o; clear hst1 hb kx)
    | (go_at_call 19; refine (k7 _ (hst2 _)).mono ?_; rintro e w3 ⟨rfl, hb⟩; have hs2 := (new_cells hb 2).1; simp at hs2; have hat3 : ∀ o, At (w3.alloc o) g 0 [1, 127, 255, 255, 255, 255, 255, 255, 255] := fun o => ((hat2 _).below hb).below (al w3 o); have hst3 : ∀ o, St w0 (w3.alloc o) := fun o => ((hst2 _).more hb).alloc o; clear hat2 hst2 k7; have hz : w2.heap.size < w3.heap.size := by { have := hb.size; simp at this; omega }; have hs3 : ∀ o, (w3.alloc o).cell? ⟨w2.heap.size, 2, none⟩ = some (.string ⟨#[120]⟩) := fun o => by { rw [World.cell?_alloc_old _ _ _ (show w2.heap.size ≠ w3.heap.size by omega)]; exact hs2 }; have b0 : ∀ o, (w3.alloc o).cell? ⟨g, 0, none⟩ = some (.int .u8 1) := fun o => (hat3 o).get 0 1 rfl; have b1 : ∀ o, (w3.alloc o).cell? ⟨g, 1, none⟩ = some (.int .u8 127) := fun o => by { have := (hat3 o).get 1 127 rfl; simpa using this }; have b8 : ∀ o, (w3.alloc o).cell? ⟨g, 8, none⟩ = some (.int .u8 255) := fun o => by { have := (hat3 o).get 8 255 rfl; simpa using this }; clear hat3 hs2 hb)
    | (go_at_call 16; refine (k16 _ (hst3 _)).mono ?_; rintro e w4 ⟨rfl, hst4⟩))
  go_ret
  exact ⟨rfl, hst4⟩

end Go.Proofs.YtolggmmlaohpdaaDoor
