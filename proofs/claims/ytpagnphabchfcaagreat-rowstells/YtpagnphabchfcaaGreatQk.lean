/- The document's Points; whether numbers are the same. -/
import Derived.Test.YtpagnphabchfcaaGreatQj
namespace Go.Proofs.YtpagnphabchfcaaGreat
open Go.RowKit Go.Shelf
set_option maxRecDepth 100000
/-! ### plain -/
section
variable {α : Type} [Inhabited α] [DecidableEq α]
theorem upTo_mem (d : Array α) (x : α) : ∀ m, x ∈ Lib.compactUpTo d m ↔ ∃ j, j < m ∧ d[j]! = x
  | 0 => by simp [Lib.compactUpTo]
  | m + 1 => by
    rw [Lib.compactUpTo_succ, List.mem_append, upTo_mem d x m]
    constructor
    · rintro (⟨j, h1, h2⟩ | h)
      · exact ⟨j, by omega, h2⟩
      · split at h
        · simp only [List.mem_singleton] at h
          exact ⟨m, by omega, h.symm⟩
        · cases h
    · rintro ⟨j, h1, h2⟩
      by_cases hj : j < m
      · exact .inl ⟨j, hj, h2⟩
      · obtain rfl : j = m := by omega
        by_cases hk : Lib.keeps d j = true
        · exact .inr (by rw [if_pos hk]; simp [h2])
        · have h0 : ¬ j = 0 := fun e => hk (by simp [Lib.keeps, e])
          have he : d[j]! = d[j - 1]! := Classical.byContradiction fun e => hk (by simp [Lib.keeps, e])
          exact .inl ⟨j - 1, by omega, by rw [← he]; exact h2⟩
theorem upTo_strict (R : α → α → Prop) (htr : ∀ a b c, R a b → R b c → R a c) (d : Array α) (n : Nat) (hs : ∀ m, m + 1 < n → d[m]! = d[m + 1]! ∨ R d[m]! d[m + 1]!) : ∀ m, m ≤ n → (Lib.compactUpTo d m).Pairwise R ∧ ∀ x ∈ Lib.compactUpTo d m, ∀ j, m = j + 1 → x = d[j]! ∨ R x d[j]!
  | 0, _ => ⟨by simp [Lib.compactUpTo], fun x hx => by simp [Lib.compactUpTo] at hx⟩
  | m + 1, hm => by
    obtain ⟨i1, i2⟩ := upTo_strict R htr d n hs m (by omega)
    rw [Lib.compactUpTo_succ]
    by_cases hk : Lib.keeps d m = true
    · rw [if_pos hk]
      have hlt : ∀ x ∈ Lib.compactUpTo d m, R x d[m]! := fun x hx => by
        cases m with
        | zero => simp [Lib.compactUpTo] at hx
        | succ j =>
          have h1 : R d[j]! d[j + 1]! := by
            rcases hs j (by omega) with h | h
            · exfalso
              simp [Lib.keeps, h] at hk
            · exact h
          rcases i2 x hx j rfl with h | h
          · rw [h]; exact h1
          · exact htr _ _ _ h h1
      refine ⟨?_, fun x hx j hj => ?_⟩
      · rw [List.pairwise_append]
        exact ⟨i1, List.pairwise_singleton _ _, fun a ha b hb => by rw [List.mem_singleton.1 hb]; exact hlt a ha⟩
      · obtain rfl : m = j := by omega
        rcases List.mem_append.1 hx with hx | hx
        · exact .inr (hlt x hx)
        · exact .inl (List.mem_singleton.1 hx)
    · rw [if_neg hk, List.append_nil]
      refine ⟨i1, fun x hx j hj => ?_⟩
      obtain rfl : m = j := by omega
      cases m with
      | zero => simp [Lib.compactUpTo] at hx
      | succ j =>
        have he : d[j + 1]! = d[j]! := Classical.byContradiction fun e => hk (by simp [Lib.keeps, e])
        rw [he]
        exact i2 x hx j rfl
end
theorem sortI_le (zs : List Int) : (sortI zs).Pairwise fun a b => a ≤ b := by
  have h := List.pairwise_mergeSort (le := fun a b : Int => decide (a ≤ b)) (fun a b c h1 h2 => by simp at *; omega) (fun a b => by simp; omega) zs
  exact h.imp (fun h => by simpa using h)
theorem get_bang {α : Type} [Inhabited α] {l : List α} {j : Nat} (h : j < l.length) : l.toArray[j]! = l[j] := by simp [h]
theorem points_rise (l : List Rw) : RiseI (pointsR l) := by
  have hs := sortI_le (ptsL l)
  refine (upTo_strict (fun a b : Int => a < b) (fun a b c h1 h2 => by omega) (sortI (ptsL l)).toArray (sortI (ptsL l)).length (fun m hm => ?_) _ (Nat.le_refl _)).1
  have := List.pairwise_iff_getElem.1 hs m (m + 1) (by omega) hm (by omega)
  rw [get_bang (by omega), get_bang hm]
  omega
/-- Which places are marked. -/
def mkd (L : List Rw) (i : Nat) : Bool := decide (((i : Int) - 1000) ∈ ptsL L)
def picked (F : Nat → Bool) (n : Nat) : List Int := ((List.range n).filter F).map fun j : Nat => -1000 + (j : Int)
theorem picked_succ (F : Nat → Bool) (n : Nat) : picked F (n + 1) = picked F n ++ if F n = true then [-1000 + (n : Int)] else [] := by
  unfold picked
  rw [List.range_succ, List.filter_append, List.map_append]
  congr 1
  by_cases h : F n = true <;> simp [h]
theorem picked_len (F : Nat → Bool) (n : Nat) : (picked F n).length ≤ n := by
  unfold picked
  rw [List.length_map]
  exact Nat.le_trans (List.length_filter_le _ _) (by simp)
theorem picked_rise (F : Nat → Bool) (n : Nat) : RiseI (picked F n) := by
  unfold RiseI picked
  rw [List.pairwise_map]
  exact (List.pairwise_lt_range.sublist List.filter_sublist).imp (fun h => by omega)
theorem mem_ptsL {l : List Rw} {p : Int} : p ∈ ptsL l ↔ ∃ r ∈ l, Sp.rightB r.2.1 r.2.2 = true ∧ (p = r.2.1 ∨ p = r.2.2) := by
  unfold ptsL
  rw [List.mem_flatMap]
  constructor
  · rintro ⟨r, hr, h⟩
    split at h
    · rename_i hc
      exact ⟨r, hr, hc, by simpa using h⟩
    · cases h
  · rintro ⟨r, hr, hc, h⟩
    exact ⟨r, hr, by rw [if_pos hc]; simpa using h⟩
theorem picked_points (l : List Rw) : picked (mkd l) 2001 = pointsR l := by
  refine riseI_unique (picked_rise _ _) (points_rise l) fun p => ?_
  rw [mem_points]
  unfold picked
  simp only [List.mem_map, List.mem_filter, List.mem_range, mkd, decide_eq_true_eq]
  constructor
  · rintro ⟨j, ⟨_, h⟩, rfl⟩
    rw [show (-1000 + (j : Int)) = (j : Int) - 1000 by omega]
    exact mem_ptsL.1 h
  · rintro ⟨r, hr, hc, h⟩
    have hb := (Sp.rightB_iff _ _).1 hc
    refine ⟨(p + 1000).toNat, ⟨by omega, ?_⟩, by omega⟩
    rw [show (((p + 1000).toNat : Nat) : Int) - 1000 = p by omega]
    exact mem_ptsL.2 ⟨r, hr, hc, h⟩
theorem mkd_take {l : List Rw} {k : Nat} {r : Rw} (h : l[k]? = some r) (i : Nat) : mkd (l.take (k + 1)) i = (mkd (l.take k) i || (Sp.rightB r.2.1 r.2.2 && (decide ((i : Int) - 1000 = r.2.1) || decide ((i : Int) - 1000 = r.2.2)))) := by
  unfold mkd
  rw [List.take_add_one, h]
  have : ptsL (l.take k ++ (some r).toList) = ptsL (l.take k) ++ if Sp.rightB r.2.1 r.2.2 = true then [r.2.1, r.2.2] else [] := by simp [ptsL]
  rw [this]
  cases hc : Sp.rightB r.2.1 r.2.2 <;> simp [Bool.decide_or]
def RowC (W : World) (g : Nat) (f : Nat → Bool) : Prop := W.rowIs g 4 2001 fun i => .bool (f i)
theorem RowC.congr {W : World} {g : Nat} {f h : Nat → Bool} (hr : RowC W g f) (e : ∀ i, f i = h i) : RowC W g h := World.rowIs.congr hr fun i hi => by rw [e]
theorem RowC.cell {W : World} {g : Nat} {f : Nat → Bool} (hr : RowC W g f) {m : Nat} (hm : m < 2001) : W.cell? ⟨g, m, none⟩ = some (.bool (f m)) := World.rowIs.cell hr hm
theorem RowC.set {W : World} {g : Nat} {f : Nat → Bool} (hr : RowC W g f) (m : Nat) (b : Bool) : RowC (W.setCell ⟨g, m, none⟩ (.bool b)) g (fun i => if i = m then b else f i) :=
  World.rowIs.congr (World.rowIs.set hr m _) fun i hi => by
    by_cases h : i = m
    · subst h; simp
    · rw [if_neg h]; simp only; rw [if_neg h]
theorem RowC.below {W W' : World} {g : Nat} {f : Nat → Bool} (hr : RowC W g f) {B : Nat} (hb : Below B W W') (hB : g < B) : RowC W' g f := World.rowIs.of_block hr (hb.block _ hB)
theorem ownI_app1 {w : World} {B : Nat} {v : Value} {zs : List Int} {x : Int} (h : OwnI w B v zs) (hn : zs.length ≤ 100000) (hB : B ≤ w.heap.size) :
    ∃ v' w', (Builtin.append_ #[31, 31] 31 #[v, .slice (some ⟨w.heap.size, 0, none⟩) 1 1]).run Tryz.prog (w.alloc (.cells #[.int .i64 x] 3)) = .ok v' w' ∧ Hid (OwnI w' B v' (zs ++ [x])) ∧ Hid (Below B w w') := by
  obtain ⟨i0, hi, hz0, hz1, hz2⟩ := info_parts' info3
  have hal := al w (.cells #[.int .i64 x] 3)
  have hb := blk_new w [.int .i64 x] 3
  change Blk (w.alloc (.cells #[.int .i64 x] 3)) _ _ _ at hb
  have h1 := h.below hal
  obtain ⟨v', w', hrun, r1, r2, r3, r4⟩ := run_append_own_at (P := Tryz.prog) (w.alloc (.cells #[.int .i64 x] 3)) B 31 31 3 i0 (.int .i64 0) 1 8 Tryz.underlying31 hi hz0 hz1 hz2 rfl (by decide) v zs.length (zs.map (Value.int .i64)) h1 ⟨w.heap.size, 0, none⟩ 1 1 [.int .i64 x] rfl (fun j y hx => by rw [Addr.add_mid, Nat.zero_add]; exact (hb.cell j).trans hx) (by intro u hu; simp at hu; subst hu; rfl) (by unfold maxLen; omega) (by omega) (Nat.le_trans hB hal.size)
  refine ⟨v', w', hrun, ?_, ?_⟩
  · show OwnI _ _ _ _
    unfold OwnI
    rw [List.length_append, List.map_append]
    exact r1
  · exact (hal.mono hB).trans ⟨r2.os, r2.tape, r2.output, r2.size, fun k hk => r2.block k (by have := hal.size; omega) (fun e => by have := (World.ownsRow.lt h1 k e.symm).1; omega)⟩
theorem ownI_at {w : World} {B : Nat} {a : Option Addr} {n c : Nat} {zs : List Int} (h : OwnI w B (.slice a n c) zs) {k : Nat} {z : Int} (hk : zs[k]? = some z) : ∃ g, a = some ⟨g, 0, none⟩ ∧ g < w.heap.size ∧ w.cell? ⟨g, k, none⟩ = some (.int .i64 z) := by
  have hc := fun g hg => World.ownsRow.cells h (g := g) hg
  have hlt := World.ownsRow.lt h
  obtain ⟨_, ⟨h, h0⟩ | ⟨g, cap, cur, h, _⟩⟩ := h
  · have := (List.getElem?_eq_some_iff.1 hk).1
    omega
  · cases h
    refine ⟨g, rfl, (hlt g rfl).2, ?_⟩
    have := hc g rfl k (.int .i64 z) (by rw [List.getElem?_map, hk]; rfl)
    rwa [Addr.add_mid, Nat.zero_add] at this
theorem ownI_form {w : World} {B : Nat} {v : Value} {zs : List Int} (h : OwnI w B v zs) : ∃ a c, v = .slice a zs.length c := by
  obtain ⟨_, ⟨h, h0⟩ | ⟨g, cap, cur, h, _⟩⟩ := h
  · exact ⟨none, 0, by rw [h, h0]⟩
  · exact ⟨_, cap, h⟩
set_option maxHeartbeats 1000000 in
theorem sameInts16 {w : World} {B B' : Nat} {v v' : Value} {zs : List Int} (h : OwnI w B v zs) (h' : OwnI w B' v' zs) (hl : zs.length ≤ 100000) :
    Calls Tryz.prog 16 #[v, v'] w fun e w' => e = .returned (.bool true) ∧ Below w.heap.size w w' := by
  obtain ⟨a, c, rfl⟩ := ownI_form h
  obtain ⟨a', c', rfl⟩ := ownI_form h'
  obtain ⟨N, hN⟩ : ∃ N, zs.length = N := ⟨_, rfl⟩
  have HN : Hid _ := hN
  have H1 : Hid (OwnI w B (.slice a zs.length c) zs) := h
  have H2 : Hid (OwnI w B' (.slice a' zs.length c') zs) := h'
  rw [hN] at hl H1 H2 ⊢
  clear h h' hN
  go_enter Tryz.func16, Tryz.ntmps16
  go_wp2_with fail
  go_loopw [5] (fun fi wr => ∃ (k : Nat), fi = .int .i64 (k : Int) ∧ Hid (k ≤ N) ∧ Hid (Below w.heap.size w wr)) (fun fi _ => ((N : Int) - intOf fi).toNat)
  case atStart => exact ⟨0, rfl, Nat.zero_le _, Below.refl _ _⟩
  case round =>
    obtain ⟨k, rfl, hk, hB⟩ := hrel
    by_cases hkN : k < N
    · have hki : (k : Int) < (N : Int) := by omega
      have hk0 : (0 : Int) ≤ (k : Int) := by omega
      obtain ⟨z, hz⟩ : ∃ z, zs[k]? = some z := ⟨_, List.getElem?_eq_getElem (by rw [HN.out]; exact hkN)⟩
      obtain ⟨g, rfl, _, z1⟩ := ownI_at (H1.out.below hB.out) hz
      obtain ⟨g', rfl, _, z2⟩ := ownI_at (H2.out.below hB.out) hz
      have y1 : ∀ n, (wr.drewN n).cell? ⟨g, k, none⟩ = some (.int .i64 z) := fun n => z1
      have y2 : ∀ n, (wr.drewN n).cell? ⟨g', k, none⟩ = some (.int .i64 z) := fun n => z2
      clear hz
      go_wp2_with fail
      go_big_quiet (fail)
      have Ky : Below wr.heap.size wr (wr.drewN nq) := ⟨rfl, rfl, rfl, Nat.le_refl _, fun _ _ => rfl⟩
      generalize wr.drewN nq = wy at *
      go_wp2_with fail
      go_roundw
      case rel => exact ⟨k + 1, by simp, by show _ ≤ _; omega, bmore hB.out Ky⟩
      case measure => simp only [intOf]; omega
    · have hki : ¬ (k : Int) < (N : Int) := by omega
      go_wp2
      go_ret
      exact ⟨rfl, hB.out⟩
end Go.Proofs.YtpagnphabchfcaaGreat
