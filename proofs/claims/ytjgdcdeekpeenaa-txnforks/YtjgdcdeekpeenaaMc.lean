/- Commit. -/
import Derived.Test.YtjgdcdeekpeenaaMt
namespace Go.Proofs.Ytjgdcdeekpeenaa
open Go.RowKit Go.Shelf
set_option maxRecDepth 100000
theorem MM.keepF {w w' : World} {B R : Nat} {a : At} {M : Mg} (h : MM w B a M) (q : Keep (fun b => R ≤ b) w w') (hR : w.heap.size ≤ R) : MM w' B a M := by
  refine h.keep q ?_ ?_ (fun i hi hs => ?_)
  · have := h.blk.lt; omega
  · have := h.wm.lt; omega
  · obtain ⟨s, hs⟩ := Option.isSome_iff_exists.1 hs
    have h1 := (h.sb i hi s hs).lt
    have h2 := (h.km i hi s hs).lt
    exact ⟨by omega, by omega⟩
/-- Where the manager's blocks lie. -/
structure Lo (a : At) (M : Mg) (R : Nat) : Prop where
  m : a.m < R
  wm : a.wm < R
  s : ∀ i, i < 4 → (M.op i).isSome → a.s i < R
  k : ∀ i, i < 4 → (M.op i).isSome → a.k i < R
theorem MM.lo {w : World} {B : Nat} {a : At} {M : Mg} (h : MM w B a M) {R : Nat} (hR : w.heap.size ≤ R) : Lo a M R := by
  refine ⟨Nat.lt_of_lt_of_le h.blk.lt hR, Nat.lt_of_lt_of_le h.wm.lt hR, fun i hi hs => ?_, fun i hi hs => ?_⟩
  · obtain ⟨s, hs⟩ := Option.isSome_iff_exists.1 hs
    exact Nat.lt_of_lt_of_le (h.sb i hi s hs).lt hR
  · obtain ⟨s, hs⟩ := Option.isSome_iff_exists.1 hs
    exact Nat.lt_of_lt_of_le (h.km i hi s hs).lt hR
theorem MM.past {w w' : World} {B R : Nat} {a : At} {M : Mg} (h : MM w B a M) (hl : Lo a M R) (q : Keep (fun b => b = R) w w') : MM w' B a M :=
  h.keep q (fun e => by have := hl.m; omega) (fun e => by have := hl.wm; omega) (fun i hi hs => ⟨fun e => by have := hl.s i hi hs; omega, fun e => by have := hl.k i hi hs; omega⟩)
/-- The manager with other keys' commits. -/
def Mg.with (M : Mg) (l : List (Ky × Int)) : Mg := { M with wr := l }
theorem MM.noted {w w' : World} {B : Nat} {a : At} {M : Mg} (h : MM w B a M) {x : Ky} {n : Int} (ho : w'.ownsMap Try.prog 9 heldR a.wm (M.wr.length + 1) (DT ((x, .int .i64 n) :: wrE M.wr))) (q : Keep (fun b => b = a.wm) w w') : MM w' B a (M.with ((x, n) :: M.wr)) := by
  refine ⟨h.blk.keep q (fun e => h.ne_w e.symm), ho, fun i hi s hs => (h.sb i hi s hs).keep q (fun e => blk_ne_map h.wm (h.sb i hi s hs) e), fun i hi s hs => own_keep (h.km i hi s hs) q (h.off i hi (by have hs' : M.op i = some s := hs; rw [hs']; rfl)), h.apart, h.off, h.base, h.kbase⟩
theorem MM.note {w : World} {B : Nat} {a : At} {M : Mg} (h : MM w B a M) (hl : M.wr.length ≤ 1000000) (x : ByteArray) (hx : x.size ≤ maxLen) (n : Int) : ∃ w', (Instr.mapUpdate 57 (.map (some a.wm)) (.string x) (.int .i64 n)).run Try.prog w = .ok () w' ∧ MM w' B a (M.with ((bs x, n) :: M.wr)) ∧ Keep (fun b => b = a.wm) w w' := by
  obtain ⟨w', h1, h2, h3⟩ := h.wm.update keyed9 Try.underlying57 (by unfold maxLen; omega) (key := .string x) (kl := .string (bs x)) (WideMaps.keyOf_string_mk Try.underlying9 hx) (show heldR (.int .i64 n) = some (.held (.int .i64 n), []) from rfl)
  have k : Keep (fun q => q = a.wm) w w' := (keep_of_grown h3).mono (fun b _ q => (Option.some.inj q).symm)
  exact ⟨w', h1, h.noted h2 k, k⟩
theorem fr_of_keep {w w' : World} {B : Nat} {a : At} {M : Mg} (h : MM w B a M) (hB : B ≤ w.heap.size) (q : Keep (fun b => b = a.m ∨ b = a.wm) w w') : Fr B w w' := by
  refine ⟨q.below hB (fun i hi e => ?_), fun g l t ht hb => hb.keep q (fun e => ?_)⟩
  · have := h.base
    omega
  · rcases e with e | e
    · exact blk_ne hb h.blk ht e
    · exact blk_ne_map h.wm hb e
abbrev hiC (M : Mg) : Int := max M.clock (M.high + 1)
/-- The keys' commits behind a commit of these keys. -/
structure Noted (l l' : List (Ky × Int)) (ks : List Ky) (n : Int) : Prop where
  at' : ∀ x, wrAt l' x = if x ∈ ks then n else wrAt l x
  len : l'.length ≤ l.length + ks.length
theorem wrAt_cons (x y : Ky) (n : Int) (l : List (Ky × Int)) : wrAt ((y, n) :: l) x = if y = x then n else wrAt l x := by
  unfold wrAt
  by_cases h : y = x
  · simp [h]
  · simp [h]
theorem commit16_no {w : World} {B : Nat} {a : At} {M : Mg} (h : MM w B a M) (id : Int) (hn : errM M id ≠ 0) : Calls Try.prog 16 #[.pointer (some ⟨a.m, 0, none⟩), .int .i64 id] w fun e w' => e = .returned (.tuple #[.int .i64 0, .int .i64 (errM M id)]) ∧ Below w.heap.size w w' := by
  have k := test25_no h id hn
  generalize errM M id = n at *
  clear h
  go_enter Try.func16, Try.ntmps16
  go_wp2_with (go_at_call 25; (with_reducible refine k.mono ?_); rintro e w1 ⟨rfl, hB⟩)
  exact bodyPost_ret (v := .tuple #[.int .i64 0, .int .i64 n]) (by simp [results, Try.results16, go_sem]) rfl ⟨rfl, hB⟩
theorem commit16_err {w : World} {B : Nat} {a : At} {M : Mg} (h : MM w B a M) {i : Nat} (hi : i < 4) {s : Sn} (hs : M.op i = some s) (hn : errT M s ≠ 0) : Calls Try.prog 16 #[.pointer (some ⟨a.m, 0, none⟩), .int .i64 (i : Int)] w fun e w' => e = .returned (.tuple #[.int .i64 0, .int .i64 (errT M s)]) ∧ Below w.heap.size w w' := by
  have k := test25_yes h hi hs
  generalize errT M s = n at *
  clear h
  go_enter Try.func16, Try.ntmps16
  go_wp2_with (go_at_call 25; (with_reducible refine k.mono ?_); rintro e w1 ⟨rfl, hB⟩)
  exact bodyPost_ret (v := .tuple #[.int .i64 0, .int .i64 n]) (by simp [results, Try.results16, go_sem]) rfl ⟨rfl, hB⟩
set_option maxHeartbeats 1000000 in
theorem commit16_yes {w : World} {B : Nat} {a : At} {M : Mg} (h : MM w B a M) (hB : B ≤ w.heap.size) (hf : Fit M) {i : Nat} (hi : i < 4) {s : Sn} (hs : M.op i = some s) (he : errT M s = 0) (hl : M.wr.length + s.keys.length ≤ 100000) : Calls Try.prog 16 #[.pointer (some ⟨a.m, 0, none⟩), .int .i64 (i : Int)] w fun e w' => e = .returned (.tuple #[.int .i64 (hiC M), .int .i64 0]) ∧ ∃ l, Noted M.wr l s.keys (hiC M) ∧ Lft B a (((M.rise (hiC M)).with l).close i) w w' := by
  have k := test25_yes h hi hs
  rw [he] at k
  have HC : Hid (∀ W, Below w.heap.size w W → MM W B a M ∧ W.cell? ⟨a.m, 0, none⟩ = some (.int .i64 M.clock) ∧ W.cell? ⟨a.m, 1, none⟩ = some (.int .i64 M.high) ∧ W.frozen? ⟨a.m, 1, none⟩ = false) := fun W q => ⟨h.below q, (h.below q).blk.cell 0, (h.below q).blk.cell 1, (h.below q).blk.frozen 1⟩
  have h1 : (0 : Int) ≤ (i : Int) := by omega
  have h2 : (i : Int) < 4 := by omega
  have f0 := hf.h0
  have f1 := hf.h1
  have HFr : Hid (∀ W, Keep (fun b => b = a.m ∨ b = a.wm) w W → Fr B w W) := fun W q => fr_of_keep h hB q
  have HS : Hid (M.op i = some s) := hs
  have HL : Hid (M.wr.length + s.keys.length ≤ 100000) := hl
  clear h hs he hl
  go_enter Try.func16, Try.ntmps16
  go_wp2_with (go_at_call 25; (with_reducible refine k.mono ?_); rintro e w1 ⟨rfl, hB1⟩; obtain ⟨hM1, c0, c1, z1⟩ := HC.out _ hB1)
  go_region
  have e1 : (if M.clock < M.high + 1 then M.high + 1 else M.clock) = hiC M := by unfold hiC; split <;> omega
  rw [e1]
  have hM2 : MM (w1.setCell ⟨a.m, 1, none⟩ (.int .i64 (hiC M))).drew B a (M.rise (hiC M)) := (hM1.risen _).below ((Below.refl _ _).drew)
  have hK2 : Keep (fun b => b = a.m ∨ b = a.wm) w (w1.setCell ⟨a.m, 1, none⟩ (.int .i64 (hiC M))).drew := ((Keep.of hB1).trans (keep_set w1 a.m 1 _) (fun _ _ e => .inl e)).drew
  generalize (w1.setCell ⟨a.m, 1, none⟩ (.int .i64 (hiC M))).drew = w2 at *
  have hop : (M.rise (hiC M)).op i = some s := HS.out
  have c5 := hM2.ptr hi
  unfold ptrV at c5
  rw [hop] at c5
  have c6 : w2.cell? ⟨a.s i, 1, none⟩ = some (.map (some (a.k i))) := (hM2.sb i hi s hop).cell 1
  have hown := hM2.km i hi s hop
  have HLo : Hid (Lo a M w2.heap.size) := by
    have := hM2.lo (Nat.le_refl _)
    exact ⟨this.m, this.wm, this.s, this.k⟩
  have HM2 : Hid _ := hM2
  have HK2 : Hid _ := hK2
  have HZ : Hid (w.heap.size ≤ w2.heap.size) := hK2.size
  have HO : Hid (a.k i ≠ a.wm) := hM2.off i hi (by rw [hop]; rfl)
  clear hM2 hK2 c0 c1 z1 hM1 k HC e1 hop
  generalize hhn : hiC M = n at *
  have HE : Hid (hiC M = n) := hhn
  clear hhn
  go_wp2_with (first
    | (at_range; refine wpList_range_own _ rfl _ 62 rfl 9 67 keyed9 Try.underlying62 _ (a.k i) _ _ rfl hown ?_; intro w0 hrg0 hg0 hs0)
    | go_in)
  go_loopw [7] (fun _ wr => ∃ (left : Lit → Bool) (cnt : Nat) (l : List (Ky × Int)), wr.ranges Try.prog 9 heldR (a.k i) w2.heap.size s.keys.length (DT (kyE s.keys)) left cnt ∧ Hid (MM wr B a ((M.rise n).with l)) ∧ Hid (∀ x, wrAt l x = if x ∈ s.keys ∧ left (.string x) = false then n else wrAt M.wr x) ∧ Hid (l.length + cnt ≤ M.wr.length + s.keys.length) ∧ Hid (Keep (fun b => b = a.m ∨ b = a.wm) w wr)) (fun _ wr => wr.rangeLeft (a.k i) w2.heap.size)
  case atStart =>
    refine ⟨_, _, M.wr, hrg0, ?_, fun x => ?_, ?_, ?_⟩
    · exact HM2.out.below ((Below.refl _ _).grown hg0 (Nat.le_refl _) (fun j hj => by cases hj))
    · rw [has_DT, fnd_kyE]
      by_cases e : x ∈ s.keys <;> simp [e]
    · have := hown.size_le
      show _ ≤ _
      omega
    · exact HK2.out.trans (keep_of_grown hg0) (fun _ _ e => by cases e)
  case round =>
    obtain ⟨left, cnt, l, hrg, hM, hA, hN, hK⟩ := hrel
    go_wp2_with (first
      | (at_next; refine wpList_next_ranges _ rfl _ rfl 9 keyed9 heldR (fun x => Value.string (ofL x)) (fun v => v) (fun key kl hk => by obtain ⟨x, hx, _⟩ := Maps.keyOf_str Try.underlying9 hk; exact ⟨x, hx⟩) (fun v y hv => ⟨v, rfl⟩) (a.k i) w2.heap.size s.keys.length _ _ _ rfl hrg ?_ ?_)
      | go_in)
    · intro hcn hl0
      have hMw := hM.out
      have d2 := hMw.ptr hi
      have z2 := hMw.blk.frozen (2 + i)
      have hMc := hMw.closed hi
      have d1 : (wr.setCell ⟨a.m, 2 + i, none⟩ (.pointer none)).cell? ⟨a.m, 1, none⟩ = some (.int .i64 n) := hMc.blk.cell 1
      have HMc : Hid _ := hMc
      have HKc : Hid (Keep (fun b => b = a.m ∨ b = a.wm) w (wr.setCell ⟨a.m, 2 + i, none⟩ (.pointer none))) := hK.out.trans (keep_set wr a.m (2 + i) _) (fun _ _ e => .inl e)
      have HNo : Hid (Noted M.wr l s.keys n) := ⟨fun x => by rw [hA.out x, hl0]; simp, by have := hN.out; omega⟩
      clear hMw hMc
      go_wp2_with fail
      have hhn := HE.out
      subst hhn
      exact bodyPost_ret (v := .tuple #[.int .i64 (hiC M), .int .i64 0]) (by simp [results, Try.results16, go_sem]) rfl ⟨rfl, l, HNo.out, HMc.out, HFr.out _ HKc.out⟩
    · intro x c kl yd yp w3 cnt2 hkey hlk hv hat hrg2 hlt hg2 hs2 hen
      try dsimp only at hkey hv hen ⊢
      obtain ⟨x', ex, hkl, hxl⟩ := Maps.keyOf_str Try.underlying9 hkey
      have hxx : x = x' := encStr_inj (show encStr x = encStr x' from ex)
      subst hxx
      subst hkl
      have hmem : x ∈ s.keys := by
        have h1 := hat .nil
        rw [atKey_DT] at h1
        simp only [heldR, Option.some.injEq, Prod.mk.injEq] at hv
        rw [← hv.1] at h1
        have h2 := fnd_kyE x s.keys
        cases hf : fnd (kyE s.keys) x with
        | none => rw [hf] at h1; cases h1
        | some y => rw [hf] at h2; exact of_decide_eq_true h2.symm
      have k3 : Keep (fun b => b = w2.heap.size) wr w3 := (keep_of_grown hg2).mono (fun b _ q => (Option.some.inj q).symm)
      have hM3 := (hM.out.past (R := w2.heap.size) ⟨HLo.out.m, HLo.out.wm, HLo.out.s, HLo.out.k⟩ k3).below ((Below.refl w3.heap.size w3).drew)
      have d6 : w3.drew.cell? ⟨a.m, 6, none⟩ = some (.map (some a.wm)) := hM3.blk.cell 6
      have d1 : w3.drew.cell? ⟨a.m, 1, none⟩ = some (.int .i64 n) := hM3.blk.cell 1
      have hlen : l.length ≤ 1000000 := by have h1 := hN.out; have h2 := HL.out; omega
      obtain ⟨w4, hrun, hM4, hK4⟩ := hM3.note hlen (ofL x) hxl n
      have hg4 : w3.drew.grownBy w4 (some a.wm) := ⟨hK4.os, hK4.tape, hK4.output, hK4.size, fun j hj hne => hK4.block j hj (fun e => hne (by rw [e]))⟩
      have hrg3 := World.ranges.kept (w' := w3.drew) hrg2 (row := none) ⟨rfl, rfl, rfl, Nat.le_refl _, fun _ _ _ => rfl⟩ (by simp) (by simp)
      have hrg4 := hrg3.kept hg4 (fun e => HO.out (Option.some.inj e)) (fun e => by have := HLo.out.wm; have := Option.some.inj e; omega)
      have HG4 : Hid (w4.ranges Try.prog 9 heldR (a.k i) w2.heap.size s.keys.length (DT (kyE s.keys)) (fun z => left z && !z.sameKey (.string x)) cnt2) := hrg4
      have HM4 : Hid _ := hM4
      have HK4 : Hid (Keep (fun b => b = a.m ∨ b = a.wm) w w4) := ((hK.out.trans k3 (fun j hj e => by have := HZ.out; omega)).drew).trans hK4 (fun _ _ e => .inr e)
      have HX : Hid (x ∈ s.keys) := hmem
      clear hrg2 hs2 hg2 hv hat hmem hM3 hM4 hK4 hg4 hrg3 hrg4 ex k3
      go_wp2_with fail
      go_region
      go_roundw
      case rel =>
        refine ⟨_, _, _, _, _, _, _, _, _, _, _, _, _, _, ⟨_, cnt2, (x, n) :: l, HG4.out, HM4.out, fun z => ?_, ?_, HK4.out⟩, rfl⟩
        · rw [wrAt_cons, hA.out z]
          by_cases e : x = z
          · subst e
            have : (Lit.string x).sameKey (.string x) = true := by simp [Lit.sameKey]
            simp [HX.out, this]
          · have : (Lit.string z).sameKey (.string x) = false := by simp [Lit.sameKey, Ne.symm e]
            simp [e, this]
        · have := hN.out
          show _ ≤ _
          simp only [List.length_cons]
          omega
      case measure => rw [HG4.out.left_eq, hrg.left_eq]; exact hlt
end Go.Proofs.Ytjgdcdeekpeenaa
