/- floor. -/
import Derived.Test.YtgimjjlkniplnaaPo
namespace Go.Proofs.Ytgimjjlkniplnaa
open Go.RowKit Go.Shelf
set_option maxRecDepth 100000
attribute [local go_sem] ta64_64 ta72_64 ta72_72 ta64_72 tb64_64 tb72_72
abbrev prV (p : Pr) : Value := .agg #[.string p.1, .string p.2]
abbrev noP : Pr := (⟨#[]⟩, ⟨#[]⟩)
/-- A pair, if there is one. -/
abbrev opV (o : Option Pr) : Value := .tuple #[.agg #[.string (o.getD noP).1, .string (o.getD noP).2], .bool o.isSome]
def floorP (kv : List Pr) (k : ByteArray) : Option Pr := (le kv k).getLast?
def FPost (w : World) (o : Option Pr) (e : Ending) (w' : World) : Prop := e = .returned (opV o) ∧ Below w.heap.size w w'
theorem last_take {kv : List Pr} {i : Nat} {p : Pr} (h : kv[i]? = some p) : (kv.take (i + 1)).getLast? = some p := by
  rw [List.take_add_one, h]
  simp
theorem floor_found {kv : List Pr} {i : Nat} {k : ByteArray} {p : Pr} (hs : Srt kv) (ha : At kv k i) (hp : kv[i]? = some p) (hf : found kv k i = true) : floorP kv k = some p := by
  have hk : p.1 = k := by unfold found at hf; rw [hp] at hf; simpa using hf
  unfold floorP
  rw [(cut_found hs hp hk ha).2.1]
  exact last_take hp
theorem not_found {kv : List Pr} {i : Nat} {k : ByteArray} (hf : found kv k i = false) : ∀ p, kv[i]? = some p → p.1 ≠ k := fun p hp => by
  unfold found at hf
  rw [hp] at hf
  simpa using hf
theorem floor_none {kv : List Pr} {i : Nat} {k : ByteArray} (hs : Srt kv) (ha : At kv k i) (hf : found kv k i = false) : floorP kv k = (kv.take i).getLast? := by
  unfold floorP
  rw [(cut_none ha (not_found hf) hs).2.1]
theorem is_found {kv : List Pr} {i : Nat} {k : ByteArray} (hf : found kv k i = true) : ∃ p, kv[i]? = some p ∧ p.1 = k := by
  unfold found at hf
  cases hp : kv[i]? with
  | none => rw [hp] at hf; cases hf
  | some p => rw [hp] at hf; exact ⟨p, rfl, by simpa using hf⟩
theorem Blk.c2 {W : World} {b : Nat} {x y : Value} {t : TypeId} (h : Blk W b [x, y] t) : W.cell? ⟨b, 0, none⟩ = some x ∧ W.cell? ⟨b, 1, none⟩ = some y ∧ W.frozen? ⟨b, 0, none⟩ = false ∧ W.frozen? ⟨b, 1, none⟩ = false := ⟨h.cell 0, h.cell 1, h.frozen 0, h.frozen 1⟩
theorem floor_mid {ks : List Kd} {k : ByteArray} {i : Nat} {y : Kd} (ht : Tow ks k i y) (h0 : 0 < y.2.length) : floorP (flat ks) k = floorP y.2 k := by
  unfold floorP
  rw [flat_cut ht.at_, ht.mid.le]
  by_cases hi : i = 0
  · subst hi
    simp [flat]
  · have hne : le y.2 k ≠ [] := by
      obtain ⟨p, hp, e⟩ := fst_mem h0
      intro hn
      have : p ∈ le y.2 k := List.mem_filter.2 ⟨hp, by rw [e, ht.le (by omega)]; rfl⟩
      rw [hn] at this
      cases this
    rw [List.getLast?_append]
    cases hq : (le y.2 k).getLast? with
    | none => exact absurd (List.getLast?_eq_none_iff.1 hq) hne
    | some p => rfl
set_option maxHeartbeats 1000000 in
theorem floor36 {k : ByteArray} : ∀ {h n : Nat} {w : World} {x : Bx} {kv : List Pr}, Part w h n x kv → Srt kv → kv.length ≤ 1000 → Calls Try.prog 36 #[.iface x.1 x.2, .string k] w (FPost w (floorP kv k))
  | 0, n, w, x, kv, hp, hs, hn => by
    obtain ⟨a, c, rfl, hl, -⟩ := hp.leaf
    have hB := al w (.cells #[.string ⟨#[]⟩, .string ⟨#[]⟩] 33)
    have k48 := place48 (k := k) (hl.below hB) hs hn
    have HB : Hid _ := hB
    have HS : Hid (Srt kv) := hs
    have HV : Hid (LV EP w (.slice a kv.length c) kv) := hl
    have hbk := blk_new w [.string ⟨#[]⟩, .string ⟨#[]⟩] 33
    have HBk : Hid (Blk (w.alloc (.cells #[.string ⟨#[]⟩, .string ⟨#[]⟩] 33)) w.heap.size [.string ⟨#[]⟩, .string ⟨#[]⟩] 33) := hbk
    generalize hkl : kv.length = kl at *
    have HKL : Hid (kv.length = kl) := hkl
    clear hl hp hs hB hbk hkl
    have HC : Hid (∀ (w1 : World) (i : Nat), i ≤ kv.length → At kv k i → Below (w.alloc (.cells #[.string ⟨#[]⟩, .string ⟨#[]⟩] 33)).heap.size (w.alloc (.cells #[.string ⟨#[]⟩, .string ⟨#[]⟩] 33)) w1 →
        (w1.cell? ⟨w.heap.size, 0, none⟩ = some (.string ⟨#[]⟩) ∧ w1.cell? ⟨w.heap.size, 1, none⟩ = some (.string ⟨#[]⟩) ∧ w1.frozen? ⟨w.heap.size, 0, none⟩ = false ∧ w1.frozen? ⟨w.heap.size, 1, none⟩ = false) ∧ Hid (Blk w1 w.heap.size [.string ⟨#[]⟩, .string ⟨#[]⟩] 33) ∧ Hid (Below w.heap.size w w1) ∧
        ((found kv k i = true ∧ ∃ p g o, a = some ⟨g, o, none⟩ ∧ w1.cell? ⟨g, o + i * 2, none⟩ = some (.string p.1) ∧ w1.cell? ⟨g, o + i * 2 + 1, none⟩ = some (.string p.2) ∧ (0 : Int) ≤ (i : Int) ∧ (i : Int) < (kl : Int) ∧ Hid (floorP kv k = some p)) ∨
         (found kv k i = false ∧ ∃ p g o j, a = some ⟨g, o, none⟩ ∧ w1.cell? ⟨g, o + j * 2, none⟩ = some (.string p.1) ∧ w1.cell? ⟨g, o + j * 2 + 1, none⟩ = some (.string p.2) ∧ (0 : Int) < (i : Int) ∧ wrap64 ((i : Int) - 1) = (j : Int) ∧ (0 : Int) ≤ (j : Int) ∧ (j : Int) < (kl : Int) ∧ Hid (floorP kv k = some p)) ∨
         (found kv k i = false ∧ i = 0 ∧ Hid (floorP kv k = none)))) := fun w1 i hi ha hB1 => by
      have hB2 : Below w.heap.size w w1 := bmore HB.out hB1
      have hil : i ≤ kl := by rw [← HKL.out]; exact hi
      refine ⟨Blk.c2 (HBk.out.below hB1), HBk.out.below hB1, hB2, ?_⟩
      cases hf : found kv k i with
      | true =>
        obtain ⟨p, hp, hpk⟩ := is_found hf
        obtain ⟨g, o, e, d0, d1⟩ := EP.cell (HV.out.below hB2) hp
        have hlt : (i : Int) < (kl : Int) := by have := (List.getElem?_eq_some_iff.1 hp).1; rw [HKL.out] at this; omega
        exact .inl ⟨rfl, p, g, o, e, d0, d1, by omega, hlt, floor_found HS.out ha hp hf⟩
      | false =>
        by_cases hi1 : 0 < i
        · obtain ⟨j, rfl⟩ : ∃ j, i = j + 1 := ⟨i - 1, by omega⟩
          obtain ⟨p, hp⟩ : ∃ p, kv[j]? = some p := ⟨_, List.getElem?_eq_getElem (by rw [HKL.out]; omega)⟩
          obtain ⟨g, o, e, d0, d1⟩ := EP.cell (HV.out.below hB2) hp
          refine .inr (.inl ⟨rfl, p, g, o, j, e, d0, d1, by omega, by rw [IntWalk.wrap64_in _ (by omega)]; omega, by omega, by omega, ?_⟩)
          show _ = _
          rw [floor_none HS.out ha hf]
          exact last_take hp
        · obtain rfl : i = 0 := by omega
          refine .inr (.inr ⟨rfl, rfl, ?_⟩)
          show _ = _
          rw [floor_none HS.out ha hf]
          rfl
    clear HV HS HKL
    go_enter Try.func36, Try.ntmps36
    go_wp2_with (go_at_call 48; (with_reducible refine k48.mono ?_); rintro e w1 ⟨i, hi, ha, rfl, hB1⟩; obtain ⟨⟨e0, e1, f0, f1⟩, HBk1, HB2, hcase⟩ := HC.out w1 i hi ha hB1; clear hi ha hB1 k48; rcases hcase with ⟨hf, p, g, o, rfl, d0, d1, l0, l1, HR⟩ | ⟨hf, p, g, o, j, rfl, d0, d1, l0, l1, l2, l3, HR⟩ | ⟨hf, rfl, HR⟩)
    · refine bodyPost_ret (results_cell2 rfl _ _ _ w.heap.size [.string p.1, .string p.2] 33 (Blk.set (o := 1) (Blk.set (o := 0) HBk1.out _) _) rfl _ Try.underlying33 rfl (by kernel_rfl)) rfl ⟨?_, bset (bset HB2.out (Nat.le_refl _) _) (Nat.le_refl _) _⟩
      rw [HR.out]
      rfl
    · refine bodyPost_ret (results_cell2 rfl _ _ _ w.heap.size [.string p.1, .string p.2] 33 (Blk.set (o := 1) (Blk.set (o := 0) HBk1.out _) _) rfl _ Try.underlying33 rfl (by kernel_rfl)) rfl ⟨?_, bset (bset HB2.out (Nat.le_refl _) _) (Nat.le_refl _) _⟩
      rw [HR.out]
      rfl
    · refine bodyPost_ret (results_cell2 rfl _ _ _ w.heap.size [.string ⟨#[]⟩, .string ⟨#[]⟩] 33 (Blk.set (o := 1) (Blk.set (o := 0) HBk1.out _) _) rfl _ Try.underlying33 rfl (by kernel_rfl)) rfl ⟨?_, bset (bset HB2.out (Nat.le_refl _) _) (Nat.le_refl _) _⟩
      rw [HR.out]
      rfl
  | h + 1, n, w, x, kv, hp, hs, hn => by
    obtain ⟨a, c, ks, rfl, h2, h3, h4, h5, h6⟩ := hp.inner
    subst h5
    have hks : ks.length ≤ (flat ks).length := flat_len fun y hy => h6.pos hy
    generalize hs0 : fst (flat ks) = s at *
    generalize hk0 : (flat ks).length = kl at *
    have hB : Below w.heap.size w ((w.alloc (.cells #[.string ⟨#[]⟩, .string ⟨#[]⟩] 33)).alloc (.cells #[.slice a n c, .string s, .int .i64 (kl : Int)] 72)) := bal (al _ _) _
    have hbr : Blk ((w.alloc (.cells #[.string ⟨#[]⟩, .string ⟨#[]⟩] 33)).alloc (.cells #[.slice a n c, .string s, .int .i64 (kl : Int)] 72)) w.heap.size [.string ⟨#[]⟩, .string ⟨#[]⟩] 33 := (blk_new w [.string ⟨#[]⟩, .string ⟨#[]⟩] 33).below (al _ _)
    have hbn : Blk ((w.alloc (.cells #[.string ⟨#[]⟩, .string ⟨#[]⟩] 33)).alloc (.cells #[.slice a n c, .string s, .int .i64 (kl : Int)] 72)) (w.heap.size + 1) [.slice a n c, .string s, .int .i64 (kl : Int)] 72 := blk_at (w.alloc (.cells #[.string ⟨#[]⟩, .string ⟨#[]⟩] 33)) [.slice a n c, .string s, .int .i64 (kl : Int)] 72 (by simp)
    go_enter Try.func36, Try.ntmps36
    go_wp2_with fail
    generalize (w.alloc (.cells #[.string ⟨#[]⟩, .string ⟨#[]⟩] 33)).alloc (.cells #[.slice a n c, .string s, .int .i64 (kl : Int)] 72) = W0 at *
    have hD : Below w.heap.size w W0.drew := hB.drew
    have k49 := toward49 (k := k) (s := s) (t := (kl : Int)) (h2.below hD) (h6.below hD) hs (by omega) (by omega)
    obtain ⟨y, ht⟩ := tow_i (k := k) h6 hs (by omega)
    unfold TPost at k49
    generalize towI ks k = i at *
    have hi := (List.getElem?_eq_some_iff.1 ht.at_).1
    obtain ⟨m, q1, q2, q3⟩ := h6 y (List.mem_of_getElem? ht.at_)
    have HK : Hid (∀ W, Below w.heap.size w W → Calls Try.prog 36 #[.iface y.1.1 y.1.2, .string k] W (FPost W (floorP (flat ks) k))) := fun W hW => by
      have hyl : y.2.length ≤ (flat ks).length := by rw [flat_cut ht.at_]; simp; omega
      rw [floor_mid ht (h6.pos (List.mem_of_getElem? ht.at_))]
      exact floor36 (q3.below hW) (kid_srt hs (List.mem_of_getElem? ht.at_)) (by omega)
    obtain ⟨g, o, rfl, d0⟩ := EK.cell h2 (i := i) (x := y.1) (by rw [List.getElem?_map, ht.at_]; rfl)
    have l0 : (0 : Int) ≤ (i : Int) := by omega
    have l1 : (i : Int) < (n : Int) := by omega
    have HB : Hid (Below w.heap.size w W0) := hB
    have HR : Hid (Blk W0 w.heap.size [.string ⟨#[]⟩, .string ⟨#[]⟩] 33) := hbr
    have HN : Hid (Blk W0 (w.heap.size + 1) [.slice (some ⟨g, o, none⟩) n c, .string s, .int .i64 (kl : Int)] 72) := hbn
    have HD : Hid (w.cell? ⟨g, o + i, none⟩ = some (.iface y.1.1 y.1.2)) := d0
    obtain ⟨P, hP⟩ : ∃ P, P = floorP (flat ks) k := ⟨_, rfl⟩
    rw [← hP]
    rw [← hP] at HK
    have HSb : Hid (∀ W, Keep (fun b => b = w.heap.size) W0 W → W.cell? ⟨w.heap.size + 1, 0, none⟩ = some (.slice (some ⟨g, o, none⟩) n c) ∧ W.cell? ⟨w.heap.size + 1, 1, none⟩ = some (.string s) ∧ W.cell? ⟨w.heap.size + 1, 2, none⟩ = some (.int .i64 (kl : Int)) ∧ W.cell? ⟨g, o + i, none⟩ = some (.iface y.1.1 y.1.2)) := fun W hW => by
      have hg : g < w.heap.size := World.block_lt_of_cell? w _ HD.out
      refine ⟨(HN.out.keep hW (by omega)).cell 0, (HN.out.keep hW (by omega)).cell 1, (HN.out.keep hW (by omega)).cell 2, ?_⟩
      rw [hW.cell (by have := HB.out.size; omega) (by omega), HB.out.cell (p := ⟨g, o + i, none⟩) hg]
      exact HD.out
    have hS0 := HSb.out W0.drew (Keep.of (Below.refl _ _).drew)
    have HST : Hid (∀ (W : World) (u v : Value), Below W0.heap.size W0 W → ((W.setCell ⟨w.heap.size, 0, none⟩ u).setCell ⟨w.heap.size, 1, none⟩ v).cell? ⟨w.heap.size + 1, 0, none⟩ = some (.slice (some ⟨g, o, none⟩) n c) ∧ ((W.setCell ⟨w.heap.size, 0, none⟩ u).setCell ⟨w.heap.size, 1, none⟩ v).cell? ⟨w.heap.size + 1, 1, none⟩ = some (.string s) ∧ ((W.setCell ⟨w.heap.size, 0, none⟩ u).setCell ⟨w.heap.size, 1, none⟩ v).cell? ⟨w.heap.size + 1, 2, none⟩ = some (.int .i64 (kl : Int)) ∧ ((W.setCell ⟨w.heap.size, 0, none⟩ u).setCell ⟨w.heap.size, 1, none⟩ v).cell? ⟨g, o + i, none⟩ = some (.iface y.1.1 y.1.2)) := fun W u v hW => HSb.out _ (Keep.set (p := ⟨w.heap.size, 1, none⟩) (Keep.set (F := fun b => b = w.heap.size) (p := ⟨w.heap.size, 0, none⟩) (Keep.of hW) (.inr rfl) _) (.inr rfl) _)
    have HP : Hid _ := hP
    clear h2 h3 h6 hp hs hB hbr hbn hD hks hs0 hk0 d0 q3 ht hP
    go_region_held3 (fun W => W.cell? ⟨w.heap.size + 1, 0, none⟩ = some (.slice (some ⟨g, o, none⟩) n c) ∧ W.cell? ⟨w.heap.size + 1, 1, none⟩ = some (.string s) ∧ W.cell? ⟨w.heap.size + 1, 2, none⟩ = some (.int .i64 (kl : Int)) ∧ W.cell? ⟨g, o + i, none⟩ = some (.iface y.1.1 y.1.2)) (first | exact hS0 | exact HSb.out _ (Keep.of HBa.out) | exact HSb.out _ (Keep.of HBb.out) | exact HST.out _ _ _ HBb.out) (first
      | (go_at_call 49; (with_reducible refine k49.mono ?_); rintro e w1 ⟨rfl, hB1⟩; have HBa : Hid (Below W0.heap.size W0 w1) := bmore (Below.refl _ _).drew hB1; have k36 := HK.out w1 (bmore HB.out HBa.out); clear hB1 k49)
      | (go_at_call 36; (with_reducible refine k36.mono ?_); rintro e w2 ⟨rfl, hB2⟩; have HBb : Hid (Below W0.heap.size W0 w2) := bmore HBa.out hB2; obtain ⟨e0, e1, f0, f1⟩ := Blk.c2 (HR.out.below HBb.out); clear hB2 k36))
    go_wp2
    refine bodyPost_ret (results_cell2 rfl _ _ _ w.heap.size [.string (P.getD noP).1, .string (P.getD noP).2] 33 (Blk.set (o := 1) (Blk.set (o := 0) (HR.out.below HBb.out) _) _) rfl _ Try.underlying33 rfl (by kernel_rfl)) rfl ⟨by rw [← HP.out]; rfl, bset (bset (bmore HB.out HBb.out) (Nat.le_refl _) _) (Nat.le_refl _) _⟩
end Go.Proofs.Ytgimjjlkniplnaa
