/- Test. -/
import Derived.Test.YtjgdcdeekpeenaaMo
namespace Go.Proofs.Ytjgdcdeekpeenaa
open Go.RowKit Go.Shelf
set_option maxRecDepth 100000
/-- The instant of a key's last commit. -/
def wrAt (l : List (Ky × Int)) (x : Ky) : Int := ((l.find? (fun y => y.1 == x)).map (·.2)).getD 0
def clash (M : Mg) (s : Sn) : Bool := s.keys.any fun x => decide (s.since < wrAt M.wr x)
def errT (M : Mg) (s : Sn) : Int := if clash M s = true then 13 else if M.high = 1073741824 then 4 else 0
theorem fnd_wrE (x : Ky) : ∀ l : List (Ky × Int), (fnd (wrE l) x).map (·.2) = (l.find? (fun y => y.1 == x)).map (fun y => .int .i64 y.2)
  | [] => rfl
  | y :: l => by
    by_cases h : (y.1 == x) = true
    · simp [fnd, wrE, h]
    · have h' : (y.1 == x) = false := by simpa using h
      have ih := fnd_wrE x l
      simp only [fnd, wrE] at ih
      simp only [fnd, wrE, List.map_cons, List.find?_cons, h', ih]
theorem fnd_kyE (x : Ky) : ∀ l : List Ky, (fnd (kyE l) x).isSome = decide (x ∈ l)
  | [] => rfl
  | y :: l => by
    by_cases h : y = x
    · subst h
      simp [fnd, kyE]
    · have h' : (y == x) = false := by simpa using h
      have ih := fnd_kyE x l
      simp only [fnd, kyE] at ih
      have h2 : ¬ x = y := fun e => h e.symm
      simp only [fnd, kyE, List.map_cons, List.find?_cons, h', ih, List.mem_cons, h2, false_or]
theorem zero3 (w : World) : (zeroValue 3).run Try.prog w = .ok (.int .i64 0) w := by kernel_rfl
theorem MM.look {w : World} {B : Nat} {a : At} {M : Mg} (h : MM w B a M) (x : ByteArray) (hx : x.size ≤ maxLen) : (Instr.lookup 57 (.map (some a.wm)) (.string x) false).run Try.prog w = .ok (.int .i64 (wrAt M.wr (bs x))) w := by
  have hkey : keyOf Try.prog 9 (.string x) = some (.string (bs x)) := WideMaps.keyOf_string_mk Try.underlying9 hx
  obtain ⟨v, ps, h1, h2⟩ := h.wm.lookup keyed9 Try.underlying57 (zero3 w) (show heldR (.int .i64 0) = some (.held (.int .i64 0), []) from rfl) hkey
  rw [atKey_DT] at h2
  have : v = .int .i64 (wrAt M.wr (bs x)) := by
    simp only [heldR, Option.some.injEq, Prod.mk.injEq] at h2
    have hf := fnd_wrE (bs x) M.wr
    unfold wrAt
    cases h3 : fnd (wrE M.wr) (bs x) with
    | none =>
      rw [h3] at h2 hf
      cases h4 : M.wr.find? (fun y => y.1 == bs x) with
      | none => have := h2.1; simp at this; simpa using this
      | some y => rw [h4] at hf; simp at hf
    | some z =>
      rw [h3] at h2 hf
      cases h4 : M.wr.find? (fun y => y.1 == bs x) with
      | none => rw [h4] at hf; simp at hf
      | some y => rw [h4] at hf; have := h2.1; simp at this hf; rw [this, hf]; simp
  rw [← this]
  exact h1
theorem test25_no {w : World} {B : Nat} {a : At} {M : Mg} (h : MM w B a M) (id : Int) (hn : errM M id ≠ 0) : Calls Try.prog 25 #[.pointer (some ⟨a.m, 0, none⟩), .int .i64 id] w fun e w' => e = .returned (.int .i64 (errM M id)) ∧ Below w.heap.size w w' := by
  have k := opened38 h id
  generalize errM M id = n at *
  clear h
  simp only [hn, if_false] at k
  go_enter Try.func25, Try.ntmps25
  go_wp2_with (go_at_call 38; (with_reducible refine k.mono ?_); rintro e w1 ⟨rfl, hB⟩)
  go_ret
  exact ⟨rfl, hB⟩
set_option maxHeartbeats 1000000 in
theorem test25_yes {w : World} {B : Nat} {a : At} {M : Mg} (h : MM w B a M) {i : Nat} (hi : i < 4) {s : Sn} (hs : M.op i = some s) : Calls Try.prog 25 #[.pointer (some ⟨a.m, 0, none⟩), .int .i64 (i : Int)] w fun e w' => e = .returned (.int .i64 (errT M s)) ∧ Below w.heap.size w w' := by
  have k := opened38_yes h hi hs
  have HM : Hid (∀ W, Below w.heap.size w W → MM W B a M ∧ W.cell? ⟨a.s i, 1, none⟩ = some (.map (some (a.k i))) ∧ W.ownsMap Try.prog 9 heldR (a.k i) s.keys.length (DT (kyE s.keys))) := fun W q => ⟨h.below q, ((h.below q).sb i hi s hs).cell 1, (h.below q).km i hi s hs⟩
  have HS : Hid (M.op i = some s) := hs
  clear h hs
  go_enter Try.func25, Try.ntmps25
  go_wp2_with (first
    | (go_at_call 38; (with_reducible refine k.mono ?_); rintro e w1 ⟨rfl, hB1⟩; obtain ⟨hM1, c1, hown⟩ := HM.out _ hB1)
    | (at_range; refine wpList_range_own _ rfl _ 62 rfl 9 67 keyed9 Try.underlying62 _ (a.k i) _ _ rfl hown ?_; intro w0 hrg0 hg0 hs0)
    | go_in)
  go_frame
  go_loopw [7] (fun _ wr => ∃ (left : Lit → Bool) (cnt : Nat), wr.ranges Try.prog 9 heldR (a.k i) w1.heap.size s.keys.length (DT (kyE s.keys)) left cnt ∧ Hid (∀ x, x ∈ s.keys → left (.string x) = false → wrAt M.wr x ≤ s.since) ∧ Hid (Below w1.heap.size w1 wr)) (fun _ wr => wr.rangeLeft (a.k i) w1.heap.size)
  case atStart => exact ⟨_, _, hrg0, (fun x hx hl => by rw [has_DT, fnd_kyE] at hl; simp [hx] at hl), (Below.refl _ _).grown hg0 (Nat.le_refl _) (fun j hj => by cases hj)⟩
  case round =>
    obtain ⟨left, cnt, hrg, hG, hB⟩ := hrel
    go_wp2_with (first
      | (at_next; refine wpList_next_ranges _ rfl _ rfl 9 keyed9 heldR (fun x => Value.string (ofL x)) (fun v => v) (fun key kl hk => by obtain ⟨x, hx, _⟩ := Maps.keyOf_str Try.underlying9 hk; exact ⟨x, hx⟩) (fun v y hv => ⟨v, rfl⟩) (a.k i) w1.heap.size s.keys.length _ _ _ rfl hrg ?_ ?_)
      | go_in)
    · intro hcn hl0
      have hBw := bmore hB1 hB.out
      have hMw := (HM.out _ hBw).1
      have d1 : wr.cell? ⟨a.m, 1, none⟩ = some (.int .i64 M.high) := hMw.blk.cell 1
      have hno : clash M s = false := by
        rw [Bool.eq_false_iff]
        intro q
        obtain ⟨x, hx, hq⟩ := List.any_eq_true.1 q
        have := hG.out x hx (hl0 _)
        simp at hq
        omega
      have HE : Hid (errT M s = if M.high = 1073741824 then 4 else 0) := by show _ = _; simp [errT, hno]
      clear hMw
      by_cases hh : M.high = 1073741824
      · rw [hh] at d1
        go_wp2
        go_ret
        exact ⟨by rw [HE.out]; simp [hh], hBw⟩
      · go_wp2
        go_ret
        exact ⟨by rw [HE.out]; simp [hh], hBw⟩
    · intro x c kl yd yp w2 cnt2 hkey hlk hv hat hrg2 hlt hg2 hs2 hen
      try dsimp only at hkey hv hen ⊢
      obtain ⟨x', ex, hkl, hxl⟩ := Maps.keyOf_str Try.underlying9 hkey
      have hxx : x = x' := encStr_inj (show encStr x = encStr x' from ex)
      subst hxx
      subst hkl
      have hB2 : Below w1.heap.size w1 w2 := hB.out.grown hg2 hB.out.size (fun j hj => by cases hj; exact Nat.le_refl _)
      have hBw := bmore hB1 hB2
      have HBw : Hid (Below w.heap.size w w2) := hBw
      have hMw := (HM.out _ hBw).1
      have hmem : x ∈ s.keys := by
        have h1 := hat .nil
        rw [atKey_DT] at h1
        simp only [heldR, Option.some.injEq, Prod.mk.injEq] at hv
        rw [← hv.1] at h1
        have h2 := fnd_kyE x s.keys
        cases hf : fnd (kyE s.keys) x with
        | none => rw [hf] at h1; cases h1
        | some y => rw [hf] at h2; exact of_decide_eq_true h2.symm
      have d6 : w2.cell? ⟨a.m, 6, none⟩ = some (.map (some a.wm)) := hMw.blk.cell 6
      have d7 : w2.cell? ⟨a.s i, 0, none⟩ = some (.int .i64 s.since) := (hMw.sb i hi s HS.out).cell 0
      have hlook := hMw.look (ofL x) hxl
      rw [bs_ofL] at hlook
      have hlook' : (Instr.lookup 57 (.map (some a.wm)) (.string (ofL x)) false).run Try.prog w2.drew = .ok (.int .i64 (wrAt M.wr x)) w2.drew := by
        have := (hMw.below ((Below.refl _ _).drew)).look (ofL x) hxl
        rwa [bs_ofL] at this
      have HG2 : Hid (w2.ranges Try.prog 9 heldR (a.k i) w1.heap.size s.keys.length (DT (kyE s.keys)) (fun z => left z && !z.sameKey (.string x)) cnt2) := hrg2
      have HB2 : Hid (Below w1.heap.size w1 w2) := hB2
      have HX : Hid (x ∈ s.keys) := hmem
      clear hrg2 hs2 hg2 hv hat hlk hB2 hBw hmem hMw ex
      generalize hwa : wrAt M.wr x = n at *
      have HW : Hid (wrAt M.wr x = n) := hwa
      clear hwa
      by_cases hc : s.since < n
      · go_wp2_with fail
        go_region
        go_wp2_with fail
        go_ret
        have hcl : clash M s = true := List.any_eq_true.2 ⟨x, HX.out, by rw [HW.out]; exact decide_eq_true hc⟩
        exact ⟨by simp [errT, hcl], HBw.out.drew⟩
      · go_wp2_with fail
        go_region
        go_wp2_with fail
        go_roundw
        case rel =>
          refine ⟨_, cnt2, HG2.out.kept (row := none) ⟨rfl, rfl, rfl, Nat.le_refl _, fun _ _ _ => rfl⟩ (by simp) (by simp), fun z hz hl => ?_, HB2.out.drew⟩
          by_cases e : z = x
          · rw [e, HW.out]; omega
          · refine hG.out z hz ?_
            have : (Lit.string z).sameKey (.string x) = false := by simp [Lit.sameKey, e]
            rw [this] at hl
            simpa using hl
        case measure =>
          have h1 := (World.ranges.kept (w' := w2.drew) HG2.out (row := none) ⟨rfl, rfl, rfl, Nat.le_refl _, fun _ _ _ => rfl⟩ (by simp) (by simp)).left_eq
          rw [h1, hrg.left_eq]; exact hlt
end Go.Proofs.Ytjgdcdeekpeenaa
