/- The document's lay. -/
import Derived.Test.YtnganmekiloigaaYd
import Derived.Test.YtnganmekiloigaaKi
import Derived.Great.BuildSlice
namespace Go.Proofs.Ytnganmekiloigaa
open Go.RowKit
set_option maxRecDepth 100000
variable {w w' : World} {r x : Nat} {lv xv : Value} {D : Dk}
/-- A slice literal of bytes. -/
theorem rw_lit (w : World) (l : Bs) (h : l.length ≤ maxLen) : RW EB w.heap.size (w.alloc (.cells (cellsB l).toArray 5)) (.slice (some ⟨w.heap.size, 0, none⟩) l.length l.length) l := by
  refine ⟨by rw [EB_cells, cellsB_length]; exact (Nat.mul_one _).symm, .inr ⟨w.heap.size, l.length, (cellsB l).toArray, rfl, Nat.le_refl _, ?_, Nat.le_refl _, h, by simp [cellsB_length]; exact (Nat.mul_one _).symm, ?_⟩⟩
  · show (w.heap.push _)[w.heap.size]? = _
    exact Array.getElem?_push_size
  · rw [EB_cells]
    exact List.take_of_length_le (by simp [cellsB_length]; exact Nat.le_of_eq (Nat.mul_one _).symm)
theorem sb_rw {B : Nat} {u : Value} {l : Bs} (h : RW EB B w u l) : SB w u l := by
  obtain ⟨_, ⟨rfl, h0⟩ | ⟨g, cap, cur, rfl, _, h1, h2, h3, h4, h5⟩⟩ := h
  · exact .inl ⟨none, 0, rfl, List.length_eq_zero_iff.1 h0⟩
  · rcases Nat.eq_zero_or_pos l.length with h0 | h0
    · exact .inl ⟨some ⟨g, 0, none⟩, cap, by rw [h0], List.length_eq_zero_iff.1 h0⟩
    · refine .inr ⟨g, 0, cap, rfl, h0, h2, h3, fun i hi => ?_⟩
      rw [cell_of_heap h1, Nat.zero_add]
      have e : cur.toList[i]? = (cur.toList.take (l.length * 1))[i]? := by rw [List.getElem?_take_of_lt (by omega)]
      rw [e, show cur.toList.take (l.length * 1) = EB.cells l from h5, EB_cells, cellsB_get _ _ hi]
theorem write_pad {i : Int} {l : Bs} (h : l.length ≤ 64) : D.write i l = D.write i (pad l) := by
  have hp : pad (pad l) = pad l := by
    have := pad_length h
    show pad l ++ List.replicate (64 - (pad l).length) 0 = pad l
    rw [this]
    simp
  unfold Dk.write
  rw [hp, pad_length h]
  simp [h]
/-- The head of a piece's sector. -/
def head7b (e p k n z : Nat) : Bs := [UInt8.ofNat (e / 256), UInt8.ofNat e, UInt8.ofNat (p / 256), UInt8.ofNat p, UInt8.ofNat k, UInt8.ofNat n, UInt8.ofNat z]
theorem head7b_pad {e p k n : Nat} {b : Bs} : pad (head7b e p k n b.length ++ b) = secOf e p k n b := by
  unfold pad secOf pad57 head7b
  simp
/-- What the document's log has become. -/
def RgLeft (w : World) (r : Nat) (lv xv : Value) (x : Nat) (D' : Dk) (W' : Wl) (w' : World) : Prop := ∃ lv' xv', RD w' r lv' xv' D' ∧ Blk w' x (rwC r W') 126 ∧ Keep (fun k => k = r ∨ k = x) w w' ∧ ∀ k, rfoot r lv' xv' k → rfoot r lv xv k ∨ w.heap.size ≤ k
theorem pieces106 {a : Option Addr} {n c : Nat} (hn : n ≤ 100000) : Calls Try.prog 106 #[.slice a n c] w fun e w' => e = .returned (.int .i64 (((n + 56) / 57 : Nat) : Int)) ∧ w' = w := by
  have h1 : IntKind.i64.wrap ((n : Int) + 57) = (n : Int) + 57 := wrap_small _ (by omega) (by omega)
  have h2 : IntKind.i64.wrap ((n : Int) + 57 - 1) = (n : Int) + 56 := by rw [wrap_small _ (by omega) (by omega)]; omega
  have h2' : (n : Int) + 57 - 1 = (n : Int) + 56 := by omega
  have h3 : ((n : Int) + 56).tdiv 57 = (((n + 56) / 57 : Nat) : Int) := np_int n
  have h4 : IntKind.i64.wrap (((n + 56) / 57 : Nat) : Int) = (((n + 56) / 57 : Nat) : Int) := wrap_small _ (by omega) (by omega)
  have hnb : (n : Int) ≤ 100000 := by omega
  obtain ⟨q, hq⟩ : ∃ q, (n + 56) / 57 = q := ⟨_, rfl⟩
  rw [hq] at h3 h4 ⊢
  have hqb : (q : Int) ≤ 100000 := by omega
  go_enter Try.func106, Try.ntmps106
  go_wp2
  go_ret
  exact ⟨rfl, rfl⟩
set_option maxHeartbeats 8000000 in
theorem lay107 {R h p n c : Nat} {a : Option Addr} {l : Bs} {W : Wl} (hA : RD w r lv xv D) (hx : Blk w x (rwC r W) 126) (hxf : ¬ rfoot r lv xv x) (hleft : D.cut = true → 0 ≤ D.left) (hoff : D.off = false) (hw : D.wait.length ≤ 900) (hS : D.secs.length = 2 * R) (hR : R ≤ 64) (hh : h = 0 ∨ h = 1) (he : W.e < 65536) (hlv : LV EB w (.slice a n c) l) (hl0 : 0 < l.length) (hl : l.length ≤ 3648) (hag : ∀ g o, a = some ⟨g, o, none⟩ → g ≠ r ∧ g ≠ x ∧ g < w.heap.size) (hfit : p + np l ≤ R) :
    Calls Try.prog 107 #[.pointer (some ⟨x, 0, none⟩), .int .i64 (h : Int), .int .i64 (p : Int), .slice a n c] w fun e w' => (e = .returned (.int .i64 0) ∧ D.can (np l) ∧ RgLeft w r lv xv x (D.put (h * R + p) (layP W.e p l)) W w') ∨ (∃ k : Nat, k < np l ∧ D.cut = true ∧ D.left = (k : Int) ∧ e = .returned (.int .i64 7) ∧ RgLeft w r lv xv x { D.put (h * R + p) ((layP W.e p l).take k) with off := true } ⟨W.half, W.e, W.cnt, W.en, true⟩ w') := by
  have hnl : n = l.length := by obtain ⟨_, _, h0⟩ := hlv.form; simp only [Value.slice.injEq] at h0; exact h0.2.1
  have hcap : l.length ≤ c := hlv.cap.2
  have hnp : np l = (n + 56) / 57 := by rw [hnl]; rfl
  have hN64 : np l ≤ 64 := by rw [hnp]; omega
  have hxlt := hx.lt
  have HCAN0 : Hid (D.can 0) := by
    show D.can 0
    rcases hc : D.cut with _ | _
    · exact .inl hc
    · exact .inr (by have := hleft hc; simpa using this)
  have H106 : Hid (∀ W', Calls Try.prog 106 #[.slice a n c] W' fun e w' => e = .returned (.int .i64 ((np l : Nat) : Int)) ∧ w' = W') := fun W' => by rw [hnp]; exact pieces106 (by omega)
  obtain ⟨M, hM⟩ : ∃ M, np l = M := ⟨_, rfl⟩
  have HFACT : Hid (np l = M ∧ n = l.length ∧ M = (n + 56) / 57 ∧ l.length ≤ c ∧ l.length ≤ 3648 ∧ 0 < l.length ∧ D.secs.length = 2 * R ∧ R ≤ 64 ∧ p + M ≤ R ∧ D.wait.length ≤ 900 ∧ D.off = false ∧ (layP W.e p l).length = M ∧ x < w.heap.size) := ⟨hM, hnl, by omega, hcap, hl, hl0, hS, hR, by omega, hw, hoff, by simp [layP, hM], hxlt⟩
  have HA : Hid (RD w r lv xv D ∧ Blk w x (rwC r W) 126 ∧ ¬ rfoot r lv xv x) := ⟨hA, hx, hxf⟩
  have HLV : Hid (LV EB w (.slice a n c) l) := hlv
  have HAG : Hid (∀ g o, a = some ⟨g, o, none⟩ → g ≠ r ∧ g ≠ x ∧ g < w.heap.size) := hag
  have HE : Hid (W.e < 65536) := he
  have k106 := H106.out w
  rw [hM] at k106 ⊢
  have hhb : (h : Int) ≤ 1 := by omega
  have hh0 : (0 : Int) ≤ (h : Int) := by omega
  have hMb : (M : Int) ≤ 64 := by omega
  have hRb : (R : Int) ≤ 64 := by omega
  have hpb : (p : Int) ≤ 64 := by omega
  have hHR : Hid (h = 0 ∨ h = 1) := hh
  obtain ⟨ag, ao, rfl⟩ : ∃ ag ao, a = some ⟨ag, ao, none⟩ := by
    obtain ⟨_, _, e0, _, h2⟩ := hlv
    simp only [Value.slice.injEq] at e0
    obtain ⟨g, o, _, _, e1, _⟩ := h2 hl0
    exact ⟨g, o, e0.1.trans e1⟩
  have hnb : (n : Int) ≤ 3648 := by omega
  have hnc : (n : Int) ≤ (c : Int) := by omega
  clear hnl hcap hnp hN64 hxlt H106 hM hA hx hxf hlv hag he hleft hoff hw hS hR hh hl0 hl hfit
  go_enter Try.func107, Try.ntmps107
  go_wp2_with (go_at_call 106; (refine k106.mono ?_; rintro e w0 ⟨rfl, hz0⟩; replace hz0 := hz0.symm; subst hz0))
  go_loopw [10] (fun q wr => ∃ m : Nat, q = .int .i64 (m : Int) ∧ Hid (m ≤ M ∧ D.can m ∧ RgLeft w r lv xv x (D.put (h * R + p) ((layP W.e p l).take m)) W wr)) (fun q _ => M - (intOf q).toNat)
  case atStart => exact ⟨0, rfl, Nat.zero_le _, HCAN0.out, lv, xv, by rw [List.take_zero, put_nil]; exact HA.out.1, HA.out.2.1, Keep.refl _ _, fun k hk => .inl hk⟩
  case round =>
    obtain ⟨m, rfl, HI⟩ := hrel
    by_cases hlt : m < M
    · have hlti : (m : Int) < (M : Int) := by omega
      obtain ⟨lv', xv', hrd, hbx, hk, hf⟩ := HI.out.2.2
      have y0 : wr.cell? ⟨x, 0, none⟩ = some (.pointer (some ⟨r, 0, none⟩)) := hbx.cell 0
      have y4 : wr.cell? ⟨x, 4, none⟩ = some (.int .i64 (W.e : Int)) := hbx.cell 4
      have hlv2 : LV EB wr (.slice (some ⟨ag, ao, none⟩) n c) l := lv_keepAt HLV.out fun g o e => by
        obtain ⟨h1, h2, h3⟩ := HAG.out g o e
        exact hk.block g h3 (by rintro (e | e) <;> omega)
      have hF := HFACT.out
      have hmb : (m : Int) ≤ 63 := by omega
      have hml : m * 57 < l.length := by omega
      obtain ⟨g9, o9, e9, hdr⟩ := hlv2.drop (k := m * 57) hml (c - m * 57) (by omega)
      cases e9
      have hpl : (partOf l m).length = min ((m + 1) * 57) n - m * 57 := by rw [part_length]; omega
      have hpart : LV EB wr (.slice (some ⟨ag, ao + m * 57, none⟩) (min ((m + 1) * 57) n - m * 57) (c - m * 57)) (partOf l m) := by
        have := hdr.take (k := min ((m + 1) * 57) n - m * 57) (by rw [List.length_drop]; omega) (c - m * 57) (by omega)
        have e2 : (l.drop (m * 57)).take (min ((m + 1) * 57) n - m * 57) = partOf l m := by
          unfold partOf
          rw [Nat.mul_comm 57 m]
          by_cases hq : (m + 1) * 57 ≤ n
          · rw [Nat.min_eq_left hq]; congr 1; omega
          · rw [Nat.min_eq_right (by omega), List.take_of_length_le (by rw [List.length_drop]; omega), List.take_of_length_le (by rw [List.length_drop]; omega)]
        rw [e2] at this
        have e1 : ao + m * 57 * EB.m = ao + m * 57 := by show ao + m * 57 * 1 = _; omega
        rw [e1] at this
        exact this
      obtain ⟨up, hup⟩ : ∃ up, min ((m + 1) * 57) n = up := ⟨_, rfl⟩
      have HUP : Hid (min ((m + 1) * 57) n = up) := hup
      rw [hup] at hpl hpart
      have hmw : IntKind.i64.wrap ((m : Int) * 57) = (m : Int) * 57 := by rw [IntKind.wrap_i64]; omega
      have hmw1 : IntKind.i64.wrap ((m : Int) + 1) = (m : Int) + 1 := by rw [IntKind.wrap_i64]; omega
      have hmw2 : IntKind.i64.wrap (((m : Int) + 1) * 57) = ((m : Int) + 1) * 57 := by rw [IntKind.wrap_i64]; omega
      have hmin : min (((m : Int) + 1) * 57) (n : Int) = (up : Int) := by omega
      have hmin2 : (if (n : Int) < ((m : Int) + 1) * 57 then (n : Int) else ((m : Int) + 1) * 57) = (up : Int) := by split <;> omega
      have i1 : (0 : Int) ≤ (m : Int) * 57 := by omega
      have i2 : (m : Int) * 57 ≤ (up : Int) := by omega
      have i3 : ((m : Int) * 57).toNat = m * 57 := by omega
      have i4 : ¬ c = m * 57 := by omega
      have i5 : m * 57 ≤ up := by omega
      have i6 : up ≤ c := by omega
      obtain ⟨Z, i8⟩ : ∃ Z, up - m * 57 = Z := ⟨_, rfl⟩
      rw [i8] at hpl hpart
      have HZ : Hid (up - m * 57 = Z ∧ Z ≤ 57 ∧ 0 < Z) := ⟨i8, by omega, by omega⟩
      have hZb : (Z : Int) ≤ 57 := by omega
      obtain ⟨EH, hEH⟩ : ∃ EH, W.e / 256 = EH := ⟨_, rfl⟩
      obtain ⟨EL, hEL⟩ : ∃ EL, W.e % 256 = EL := ⟨_, rfl⟩
      have hEb := HE.out
      have hEHb : (EH : Int) ≤ 255 := by omega
      have hELb : (EL : Int) ≤ 255 := by omega
      have hpmb : (p : Int) + (m : Int) ≤ 64 := by omega
      have hq1 : (W.e : Int).tdiv 256 = (EH : Int) := by rw [Int.tdiv_eq_ediv_of_nonneg (by omega)]; omega
      have hr1 : (W.e : Int).tmod 256 = (EL : Int) := by rw [Int.tmod_eq_emod_of_nonneg (by omega)]; omega
      have hq2 : ((p : Int) + (m : Int)).tdiv 256 = 0 := by rw [Int.tdiv_eq_ediv_of_nonneg (by omega)]; omega
      have hr2 : ((p : Int) + (m : Int)).tmod 256 = (p : Int) + (m : Int) := by rw [Int.tmod_eq_emod_of_nonneg (by omega)]; omega
      have c1 : IntKind.u8.wrap (EH : Int) = (EH : Int) := by rw [IntKind.wrap_u8]; omega
      have c2 : IntKind.u8.wrap (EL : Int) = (EL : Int) := by rw [IntKind.wrap_u8]; omega
      have c3 : IntKind.u8.wrap ((p : Int) + (m : Int)) = ((p : Int) + (m : Int)) := by rw [IntKind.wrap_u8]; omega
      have c4 : IntKind.u8.wrap (m : Int) = (m : Int) := by rw [IntKind.wrap_u8]; omega
      have c5 : IntKind.u8.wrap (M : Int) = (M : Int) := by rw [IntKind.wrap_u8]; omega
      have c6 : IntKind.u8.wrap (Z : Int) = (Z : Int) := by rw [IntKind.wrap_u8]; omega
      have c0 : IntKind.i64.wrap (EH : Int) = (EH : Int) := by rw [IntKind.wrap_i64]; omega
      have c7 : IntKind.i64.wrap 0 = 0 := rfl
      have c8 : IntKind.u8.wrap 0 = 0 := rfl
      have HCELL : Hid (cellsB (head7b W.e (p + m) m M Z) = [.int .u8 (EH : Int), .int .u8 (EL : Int), .int .u8 0, .int .u8 ((p : Int) + (m : Int)), .int .u8 (m : Int), .int .u8 (M : Int), .int .u8 (Z : Int)]) := by
        show cellsB _ = _
        simp only [cellsB, head7b, List.map_cons, List.map_nil, UInt8.toNat_ofNat', List.cons.injEq, Value.int.injEq, true_and, and_true]
        omega
      have HEW : Hid (W.e / 256 = EH ∧ W.e % 256 = EL) := ⟨hEH, hEL⟩
      clear hEH hEL hEb
      have i7 : (up : Int) ≤ (c : Int) := by omega
      have HK : Hid (RD wr r lv' xv' (D.put (h * R + p) ((layP W.e p l).take m)) ∧ Blk wr x (rwC r W) 126 ∧ Keep (fun k => k = r ∨ k = x) w wr ∧ ∀ k, rfoot r lv' xv' k → rfoot r lv xv k ∨ w.heap.size ≤ k) := ⟨hrd, hbx, hk, hf⟩
      have HS : Hid (∀ W', Below wr.heap.size wr W' → W'.cell? ⟨x, 4, none⟩ = some (.int .i64 (W.e : Int))) := fun W' k => (HK.out.2.1.below k).cell 4
      have HPT : Hid (LV EB wr (.slice (some ⟨ag, ao + m * 57, none⟩) Z (c - m * 57)) (partOf l m)) := hpart
      have HPL : Hid ((partOf l m).length = Z) := hpl
      have HAPP : Hid (∀ W' u, RW EB wr.heap.size W' u (head7b W.e (p + m) m M Z) → Below wr.heap.size wr W' → ∃ a4 c4 w4, (Builtin.append_ #[33, 33] 33 #[u, .slice (some ⟨ag, ao + m * 57, none⟩) Z (c - m * 57)]).run Try.prog W' = .ok (.slice a4 (7 + Z) c4) w4 ∧ RW EB wr.heap.size w4 (.slice a4 (7 + Z) c4) (head7b W.e (p + m) m M Z ++ partOf l m) ∧ Below wr.heap.size wr w4) := fun W' u hu k => by
        obtain ⟨u', w4, h1, h2, h3⟩ := rw_app hu (HPT.out.below k) (by rw [HPL.out]; have := HZ.out; show 7 + Z ≤ 100000; omega) k.size
        obtain ⟨a4, c4, rfl, _⟩ := h2.form
        have e7 : (head7b W.e (p + m) m M Z ++ partOf l m).length = 7 + Z := by rw [List.length_append, HPL.out]; rfl
        rw [e7] at h1 h2
        exact ⟨a4, c4, w4, h1, h2, k.trans h3⟩
      have hS0 := HS.out _ (Below.refl _ wr).drew
      clear hdr hup hF hk hf hlv2 hml hpl hpart hrd hbx
      have hS1 := HS.out _ (bmore (al wr (.cells #[.int .u8 (EH : Int), .int .u8 (EL : Int), .int .u8 0, .int .u8 ((p : Int) + (m : Int)), .int .u8 (m : Int), .int .u8 (M : Int), .int .u8 (Z : Int)] 5)) (Below.refl _ _).drew)
      obtain ⟨a4, c9, w4, hrun, q4, k4⟩ := HAPP.out (wr.alloc (.cells #[.int .u8 (EH : Int), .int .u8 (EL : Int), .int .u8 0, .int .u8 ((p : Int) + (m : Int)), .int .u8 (m : Int), .int .u8 (M : Int), .int .u8 (Z : Int)] 5)).drew (.slice (some ⟨wr.heap.size, 0, none⟩) 7 7) (by
        have h9 := rw_lit wr (head7b W.e (p + m) m M Z) (by show 7 ≤ maxLen; decide)
        rw [HCELL.out] at h9
        exact h9.below (Below.refl _ _).drew) (bmore (al wr _) (Below.refl _ _).drew)
      have hS4 := HS.out _ k4
      have HQ4 : Hid (RW EB wr.heap.size w4 (.slice a4 (7 + Z) c9) (head7b W.e (p + m) m M Z ++ partOf l m)) := q4
      have HK4 : Hid (Below wr.heap.size wr w4) := k4
      clear q4 k4
      go_wp2
      go_region_held3 (fun W' => W'.cell? ⟨x, 4, none⟩ = some (.int .i64 (W.e : Int))) (first | exact hS0 | exact hS1 | exact hS4) ((refine step_append_run rfl (.tmp 60) (.tmp 61) 33 rfl _ _ rfl rfl _ _ hrun ?_))
      obtain ⟨N, hN⟩ : ∃ N, 2 * R = N := ⟨_, rfl⟩
      obtain ⟨HN, hHN⟩ : ∃ HN, h * N = HN := ⟨_, rfl⟩
      obtain ⟨HR, hHR2⟩ : ∃ HR, h * R = HR := ⟨_, rfl⟩
      obtain ⟨PJ, hPJ⟩ : ∃ PJ, HR + (p + m) = PJ := ⟨_, rfl⟩
      have hF := HFACT.out
      have hHNR : HN = 2 * HR := by rw [← hHN, ← hHR2, ← hN, Nat.mul_left_comm]
      have hHRb : HR ≤ R := by rw [← hHR2]; rcases hHR.out with e | e <;> subst e <;> simp
      have hm0 : (h : Int) * (N : Int) = (HN : Int) := by rw [← hHN]; simp
      have hm0' : IntKind.i64.wrap ((h : Int) * (N : Int)) = (HN : Int) := by rw [hm0, IntKind.wrap_i64]; omega
      have hm3 : IntKind.i64.wrap (HN : Int) = (HN : Int) := by rw [IntKind.wrap_i64]; omega
      have hm1 : (HN : Int).tdiv 2 = (HR : Int) := half_int hHNR
      have hm1' : IntKind.i64.wrap (HR : Int) = (HR : Int) := by rw [IntKind.wrap_i64]; omega
      have hm2 : (HR : Int) + ((p : Int) + (m : Int)) = (PJ : Int) := by omega
      have hm2' : IntKind.i64.wrap ((HR : Int) + ((p : Int) + (m : Int))) = (PJ : Int) := by rw [hm2, IntKind.wrap_i64]; omega
      have hPJb : (PJ : Int) ≤ 128 := by omega
      have hm4 : IntKind.i64.wrap (PJ : Int) = (PJ : Int) := by rw [IntKind.wrap_i64]; omega
      have hHNb : (HN : Int) ≤ 128 := by omega
      have hTL : ((layP W.e p l).take m).length = m := by rw [List.length_take]; omega
      have hsecs : (D.put (h * R + p) ((layP W.e p l).take m)).secs.length = N := by show D.secs.length = N; omega
      have hwt : (D.put (h * R + p) ((layP W.e p l).take m)).wait.length ≤ 1000 := by
        show (D.wait ++ waitOf _ _).length ≤ 1000
        rw [List.length_append, waitOf_length, hTL]
        omega
      have KD4 : Below wr.heap.size wr w4.drew := bmore HK4.out (Below.refl _ w4).drew
      have HRD4 : Hid (RD w4.drew r lv' xv' (D.put (h * R + p) ((layP W.e p l).take m))) := HK.out.1.below KD4
      have k50 := rsize50 HRD4.out
      rw [hsecs] at k50
      have hrl : r < wr.heap.size := HK.out.1.foot_lt r (.inl rfl)
      have k60 := rwrite60 HRD4.out (PJ : Int) (.slice a4 (7 + Z) c9) (head7b W.e (p + m) m M Z ++ partOf l m) (sb_rw (HQ4.out.below (Below.refl _ w4).drew)) (fun a1 n1 c1 e1 _ => by
        have e2 : (Value.slice a4 (7 + Z) c9).ownBlock = some a1.block := by rw [e1]; rfl
        have := (HQ4.out.at e2).1
        omega) hwt
      have hxr : x ≠ r := fun e => HA.out.2.2 (.inl e)
      have HX6 : Hid (∀ w6, Keep (fun k => k = r) w4.drew w6 → Blk w6 x (rwC r W) 126 ∧ Keep (fun k => k = r ∨ k = x) w w6) := fun w6 kp => ⟨(HK.out.2.1.below KD4).keep kp hxr, (HK.out.2.2.1.trans (Keep.of (F := fun k => k = r ∨ k = x) KD4) (fun _ _ h => h)).trans kp (fun _ _ h => .inl h)⟩
      have hT0 : w4.drew.cell? ⟨x, 0, none⟩ = some (.pointer (some ⟨r, 0, none⟩)) := (HK.out.2.1.below KD4).cell 0
      by_cases hcan : D.can (m + 1)
      · have HCAN : Hid (D.can (m + 1)) := hcan
        have hwr : (D.put (h * R + p) ((layP W.e p l).take m)).write (PJ : Int) (head7b W.e (p + m) m M Z ++ partOf l m) = (0, D.put (h * R + p) ((layP W.e p l).take (m + 1))) := by
          have hpz := HPL.out
          rw [write_pad (by rw [List.length_append, hpz]; show 7 + Z ≤ 64; have := HZ.out; omega), ← hpz, head7b_pad, show (PJ : Int) = ((h * R + p + ((layP W.e p l).take m).length : Nat) : Int) by rw [hTL]; omega]
          rw [put_write hF.2.2.2.2.2.2.2.2.2.2.1 (sec_length (by rw [hpz]; have := HZ.out; omega)) (by rw [hTL]; omega) (by rw [hTL]; exact hcan), lay_take (by omega), hF.1]
        rw [hwr] at k60
        clear hwr hF hsecs hwt KD4 hTL hrl hHNR hN hHN hHR2 hPJ HRD4
        go_wp2
        go_region_held3 (fun W' => W'.cell? ⟨x, 0, none⟩ = some (.pointer (some ⟨r, 0, none⟩))) (first | exact hT0 | exact hT6) (first
          | (go_at_call 50; (with_reducible refine k50.mono ?_); rintro e w5 ⟨rfl, hz5⟩; replace hz5 := hz5.symm; subst hz5)
          | (go_at_call 60; (with_reducible refine k60.mono ?_); rintro e w6 ⟨rfl, lv6, xv6, h6, kp6, f6⟩; have hT6 : w6.cell? ⟨x, 0, none⟩ = some (.pointer (some ⟨r, 0, none⟩)) := (HX6.out w6 kp6).1.cell 0; have HL6 : Hid (RD w6 r lv6 xv6 (D.put (h * R + p) ((layP W.e p l).take (m + 1))) ∧ ∀ k, rfoot r lv6 xv6 k → rfoot r lv' xv' k ∨ w4.drew.heap.size ≤ k) := ⟨h6, f6⟩; have HQ6 := HX6.out w6 kp6; have y5 := HQ6.1.cell 5; have f5 := HQ6.1.frozen 5; have HB6 : Hid (Blk w6 x (rwC r W) 126 ∧ Keep (fun k => k = r ∨ k = x) w w6) := HQ6; clear h6 f6 kp6 HQ6))
        have HF6 : Hid (∀ k, rfoot r lv6 xv6 k → rfoot r lv xv k ∨ w.heap.size ≤ k) := fun k hk => by
          rcases HL6.out.2 k hk with h1 | h1
          · exact HK.out.2.2.2 k h1
          · exact .inr (by have := HK.out.2.2.1.size; have := HK4.out.size; have e9 : w4.drew.heap.size = w4.heap.size := rfl; omega)
        go_wp2
        go_roundw
        case rel => exact ⟨m + 1, by simp, ⟨by have := HI.out.1; omega, HCAN.out, lv6, xv6, HL6.out.1, HB6.out.1, HB6.out.2, HF6.out⟩⟩
        case measure => simp only [intOf]; omega
      · have hcut : D.cut = true ∧ D.left = (m : Int) := by
          rcases hc : D.cut with _ | _
          · exact absurd (.inl hc) hcan
          · refine ⟨rfl, ?_⟩
            rcases HI.out.2.1 with h1 | h1
            · rw [hc] at h1; cases h1
            · have : ¬ ((m + 1 : Nat) : Int) ≤ D.left := fun h2 => hcan (.inr h2)
              omega
        have HCUT : Hid (D.cut = true ∧ D.left = (m : Int)) := hcut
        have hwr : (D.put (h * R + p) ((layP W.e p l).take m)).write (PJ : Int) (head7b W.e (p + m) m M Z ++ partOf l m) = (7, { D.put (h * R + p) ((layP W.e p l).take m) with off := true }) := by
          have hpz := HPL.out
          rw [write_pad (by rw [List.length_append, hpz]; show 7 + Z ≤ 64; have := HZ.out; omega), ← hpz, head7b_pad, show (PJ : Int) = ((h * R + p + ((layP W.e p l).take m).length : Nat) : Int) by rw [hTL]; omega]
          exact put_write_no hF.2.2.2.2.2.2.2.2.2.2.1 (sec_length (by rw [hpz]; have := HZ.out; omega)) (by rw [hTL]; omega) hcut.1 (by rw [hTL]; exact hcut.2)
        rw [hwr] at k60
        clear hwr hF hsecs hwt KD4 hTL hrl hHNR hN hHN hHR2 hPJ HRD4
        go_wp2
        go_region_held3 (fun W' => W'.cell? ⟨x, 0, none⟩ = some (.pointer (some ⟨r, 0, none⟩))) (first | exact hT0 | exact hT6) (first
          | (go_at_call 50; (with_reducible refine k50.mono ?_); rintro e w5 ⟨rfl, hz5⟩; replace hz5 := hz5.symm; subst hz5)
          | (go_at_call 60; (with_reducible refine k60.mono ?_); rintro e w6 ⟨rfl, lv6, xv6, h6, kp6, f6⟩; have hT6 : w6.cell? ⟨x, 0, none⟩ = some (.pointer (some ⟨r, 0, none⟩)) := (HX6.out w6 kp6).1.cell 0; have HL6 : Hid (RD w6 r lv6 xv6 ({ D.put (h * R + p) ((layP W.e p l).take m) with off := true }) ∧ ∀ k, rfoot r lv6 xv6 k → rfoot r lv' xv' k ∨ w4.drew.heap.size ≤ k) := ⟨h6, f6⟩; have HQ6 := HX6.out w6 kp6; have y5 := HQ6.1.cell 5; have f5 := HQ6.1.frozen 5; have HB6 : Hid (Blk w6 x (rwC r W) 126 ∧ Keep (fun k => k = r ∨ k = x) w w6) := HQ6; clear h6 f6 kp6 HQ6))
        have HF6 : Hid (∀ k, rfoot r lv6 xv6 k → rfoot r lv xv k ∨ w.heap.size ≤ k) := fun k hk => by
          rcases HL6.out.2 k hk with h1 | h1
          · exact HK.out.2.2.2 k h1
          · exact .inr (by have := HK.out.2.2.1.size; have := HK4.out.size; have e9 : w4.drew.heap.size = w4.heap.size := rfl; omega)
        have HNX : Hid (¬ rfoot r lv6 xv6 x) := fun hk => by
          rcases HF6.out x hk with h1 | h1
          · exact HA.out.2.2 h1
          · have := HFACT.out; omega
        go_wp2
        refine bodyPost_ret (v := .int .i64 7) (by simp [results, Try.results107]) rfl (.inr ⟨m, hlt, HCUT.out.1, HCUT.out.2, rfl, lv6, xv6, HL6.out.1.keep (F := fun k => k = x) (Keep.set (F := fun k => k = x) (p := ⟨x, 5, none⟩) (Keep.refl _ _) (.inr rfl) (.bool true)) (fun k hk e => HNX.out (e ▸ hk)), ?_, Keep.set (F := fun k => k = r ∨ k = x) (p := ⟨x, 5, none⟩) HB6.out.2 (.inr (.inr rfl)) (.bool true), HF6.out⟩)
        exact HB6.out.1.set (o := 5) (.bool true)
    · have hlti : ¬ (m : Int) < (M : Int) := by omega
      obtain rfl : m = M := by have := HI.out.1; omega
      go_wp2
      refine bodyPost_ret (v := .int .i64 0) (by simp [results, Try.results107]) rfl (.inl ⟨rfl, HI.out.2.1, ?_⟩)
      have := HI.out.2.2
      rwa [List.take_of_length_le (by have := HFACT.out; omega)] at this
end Go.Proofs.Ytnganmekiloigaa
