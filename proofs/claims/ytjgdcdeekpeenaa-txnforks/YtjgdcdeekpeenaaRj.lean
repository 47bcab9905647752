/- The document's Write. -/
import Derived.Test.YtjgdcdeekpeenaaRi
namespace Go.Proofs.Ytjgdcdeekpeenaa
open Go.RowKit Go.Shelf
set_option maxRecDepth 100000
theorem rg_setK (c h : Int) (l : Nat → On) (K : Nat → Value) (D v : Value) {i : Nat} (hi : i < 4) : (rgL c h l K D).set (2 + i * 3 + 2) v = rgL c h l (upd K i v) D := by
  match i, hi with
  | 0, _ => rfl
  | 1, _ => rfl
  | 2, _ => rfl
  | 3, _ => rfl
theorem rgL_keys (c h : Int) (l : Nat → On) (K : Nat → Value) (D : Value) (i : Nat) (ks : List ByteArray) : rgL c h (upd l i { l i with keys := ks }) K D = rgL c h l K D := by
  have e : ∀ j, (upd l i { l i with keys := ks } j).op = (l j).op ∧ (upd l i { l i with keys := ks } j).since = (l j).since := fun j => by
    unfold upd
    by_cases c : j = i <;> simp [c]
  simp only [rgL, (e 0).1, (e 0).2, (e 1).1, (e 1).2, (e 2).1, (e 2).2, (e 3).1, (e 3).2]
theorem RM.setKeys {w : World} {r : Nat} {K : Nat → Value} {D : Value} {R : Rf} (h : RM w r K D R) {i : Nat} (hi : i < 4) (v : Value) {ks : List ByteArray} (hv : LV ET w v ks) : LR r (R.put i { R.l i with keys := ks }) w (w.setCell ⟨r, 2 + i * 3 + 2, none⟩ v) := by
  have k := keep_set w r (2 + i * 3 + 2) v
  obtain ⟨h1, h2⟩ := h.setKeep k
  refine ⟨⟨upd K i v, D, ?_, fun j hj => ?_, h2⟩, k⟩
  · have := h.blk.set (o := 2 + i * 3 + 2) v
    rw [rg_setK _ _ _ _ _ _ hi] at this
    show Blk _ r (rgL R.clock R.high (upd R.l i { R.l i with keys := ks }) (upd K i v) D) 75
    rw [rgL_keys]
    exact this
  · by_cases c : j = i
    · subst c
      simp only [upd, Rf.put, if_true]
      exact hv.keep fun _ _ q => q.keep k (fun e => blk_ne q h.blk ET.not75 e)
    · simp only [upd, Rf.put, c, if_false]
      exact h1 j hj
theorem rwrite42_no {w : World} {r : Nat} {K : Nat → Value} {D : Value} {R : Rf} (h : RM w r K D R) (id : Int) (hn : errR R id ≠ 0) (x : ByteArray) : Calls Try.prog 42 #[.pointer (some ⟨r, 0, none⟩), .int .i64 id, .string x] w fun e w' => e = .returned (.int .i64 (errR R id)) ∧ Below w.heap.size w w' := by
  have k := look48 h id
  generalize errR R id = n at *
  clear h
  go_enter Try.func42, Try.ntmps42
  go_wp2_with (go_at_call 48; (with_reducible refine k.mono ?_); rintro e w1 ⟨rfl, hB⟩)
  go_ret
  exact ⟨rfl, hB⟩
set_option maxHeartbeats 1000000 in
theorem rwrite42_yes {w : World} {r : Nat} {K : Nat → Value} {D : Value} {R : Rf} (h : RM w r K D R) {i : Nat} (hi : i < 4) (ho : (R.l i).op = true) {l ks : List Ky} (hk : SK l ks) (hkl : (R.l i).keys = l.map ofL) (hl : l.length ≤ 1000) (x : Ky) : Calls Try.prog 42 #[.pointer (some ⟨r, 0, none⟩), .int .i64 (i : Int), .string (ofL x)] w fun e w' => e = .returned (.int .i64 0) ∧ ∃ l', SK l' (x :: ks) ∧ l'.length ≤ l.length + 1 ∧ LR r (R.put i { R.l i with keys := l'.map ofL }) w w' := by
  have k := look48 h (i : Int)
  rw [errR_at hi, ho, if_pos rfl] at k
  obtain ⟨pk, ck, hpk⟩ := (h.keys i hi).form
  have HC : Hid (∀ W, Below w.heap.size w W → RM W r K D R ∧ W.cell? ⟨r, 2 + i * 3 + 2, none⟩ = some (.slice pk (R.l i).keys.length ck) ∧ Calls Try.prog 52 #[.slice pk (R.l i).keys.length ck, .string (ofL x)] W (IPost W (x :: ks) (l.length + 1))) := fun W b => by
    refine ⟨h.below b, ?_, ?_⟩
    · rw [← hpk]; exact ((h.below b).at hi).2.2
    · have hv := (h.below b).keys i hi
      rw [hpk] at hv
      rw [hkl] at hv ⊢
      exact insert52 hv hk hl x
  have h1 : (0 : Int) ≤ (i : Int) := by omega
  have h2 : (i : Int) < 4 := by omega
  have HR : Hid (∀ (W : World) (v : Value) (l' : List Ky), RM W r K D R → LV ET W v (l'.map ofL) → LR r (R.put i { R.l i with keys := l'.map ofL }) W (W.setCell ⟨r, 2 + i * 3 + 2, none⟩ v)) := fun W v l' hM hv => hM.setKeys hi v hv
  clear h hkl hpk
  generalize (R.l i).keys.length = nk at *
  go_enter Try.func42, Try.ntmps42
  go_wp2_with (go_at_call 48; (with_reducible refine k.mono ?_); rintro e w1 ⟨rfl, hB1⟩; obtain ⟨hM1, c2, k52'⟩ := HC.out _ hB1)
  obtain ⟨hMd, c3, k52⟩ := HC.out _ hB1.drew
  have HMd : Hid (RM w1.drew r K D R) := hMd
  clear k52' hM1 hMd
  go_region_law (first | (go_simp; (with_reducible refine Calls.mono k52 ?_); intro e w3 hq; obtain ⟨v3, l3, he, hS3, hn3, hv3, hB3⟩ := hq; subst he; have hM3 := RM.below HMd.out hB3; have d3 := (hM3.at hi).2.2; have z3 := hM3.blk.frozen (2 + i * 3 + 2); have hfm := hv3.form; obtain ⟨p3, c3', hfm⟩ := hfm; subst hfm; (have HL3 : Hid _ := HR.out _ _ l3 hM3 hv3); (have HS3 : Hid _ := And.intro hS3 hn3); (have HB3 : Hid _ := hB3); clear hv3 hS3 hn3 hM3 hB3))
  all_goals (go_wp2_with fail)
  all_goals
    go_ret
    have hq := HL3.out
    simp only [List.length_map] at hq
    exact ⟨rfl, l3, HS3.out.1, HS3.out.2, LR.first (r := r) hq (bmore hB1.drew HB3.out)⟩
end Go.Proofs.Ytjgdcdeekpeenaa
