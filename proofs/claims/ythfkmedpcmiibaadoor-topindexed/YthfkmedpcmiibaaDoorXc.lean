/- Where a key is in a leaf. · Which kid has a key. · toward; levels, lowered. · levels, ahead, floor. · floor. -/
import Derived.Test.YthfkmedpcmiibaaDoorShelf
import Derived.Shelf.Small.Strs
import Derived.Test.YthfkmedpcmiibaaDoorXb
/-! ### Where a key is in a leaf. -/
namespace Go.Proofs
open Go.Shelf
end Go.Proofs
namespace Go.Proofs.YthfkmedpcmiibaaDoor.T
open Go.RowKit Go.Shelf
set_option maxRecDepth 100000
theorem cmp58 (p : Pr) (k : ByteArray) (w : World) : Calls Tryd.prog 48 #[.agg #[.string p.1, .string p.2], .string k] w fun e w' => e = .returned (.int .i64 (cmpS p.1 k)) ∧ Below w.heap.size w w' := by
  have kc := Tryd.strings_Compare p.1 k
  go_enter Tryd.func48, Tryd.ntmps48
  go_wp2_with (go_at_call 49; (with_reducible refine (kc _).mono ?_); rintro e w1 ⟨rfl, rfl⟩)
  go_ret
  exact ⟨rfl, al _ _⟩
/-- The place at which a key is, or would be. -/
def At (kv : List Pr) (k : ByteArray) (i : Nat) : Prop := ∀ (j : Nat) (p : Pr), kv[j]? = some p → (lt p.1 k = true ↔ j < i)
def found (kv : List Pr) (k : ByteArray) (i : Nat) : Bool := match kv[i]? with | some p => decide (p.1 = k) | none => false
def BPost (w : World) (kv : List Pr) (k : ByteArray) (e : Ending) (w' : World) : Prop := ∃ i : Nat, i ≤ kv.length ∧ At kv k i ∧ e = .returned (.tuple #[.int .i64 (i : Int), .bool (found kv k i)]) ∧ Below w.heap.size w w'
theorem u64_in (x : Int) (h0 : 0 ≤ x) (h1 : x ≤ 100000) : IntKind.u64.wrap x = x := by
  simp only [IntKind.wrap]
  simp [IntKind.bits, IntKind.signed]
  omega
set_option maxHeartbeats 1000000 in
theorem search57 {w : World} {v : Value} {kv : List Pr} {k : ByteArray} (hv : LV EP w v kv) (hs : Srt kv) (hn : kv.length ≤ 1000) : Calls Tryd.prog 47 #[v, .string k, .func (.func 48) #[] #[]] w (BPost w kv k) := by
  obtain ⟨a, c, rfl⟩ := hv.form
  have HV : Hid (LV EP w (.slice a kv.length c) kv) := hv
  have HS : Hid (Srt kv) := hs
  generalize hN : kv.length = n at *
  have HN : Hid (kv.length = n) := hN
  clear hv hs hN
  go_enter Tryd.func47, Tryd.ntmps47
  go_wp2_with fail
  go_loopw [9, 10] (fun fi fj wr => ∃ (i j : Nat), fi = .int .i64 (i : Int) ∧ fj = .int .i64 (j : Int) ∧ Hid (i ≤ j) ∧ Hid (j ≤ n) ∧ Hid (∀ t p, kv[t]? = some p → t < i → lt p.1 k = true) ∧ Hid (∀ t p, kv[t]? = some p → j ≤ t → lt p.1 k = false) ∧ Hid (Below w.heap.size w wr)) (fun fi fj _ => (intOf fj - intOf fi).toNat)
  case atStart => exact ⟨0, n, rfl, rfl, Nat.zero_le _, Nat.le_refl _, (fun t p _ h => by omega), (fun t p h1 h2 => by have := (List.getElem?_eq_some_iff.1 h1).1; rw [HN.out] at this; omega), Below.refl _ _⟩
  case round =>
    obtain ⟨i, j, rfl, rfl, hij, hjn, hlo, hge, hB⟩ := hrel
    have hij' := hij.out
    have hjn' := hjn.out
    by_cases hlt : i < j
    · have hli : (i : Int) < (j : Int) := by omega
      obtain ⟨m, hm⟩ : ∃ m, m = (i + j) / 2 := ⟨_, rfl⟩
      have hwa : wrap64 ((i : Int) + (j : Int)) = (i : Int) + (j : Int) := IntWalk.wrap64_in _ (by omega)
      have hwb : IntKind.u64.wrap ((i : Int) + (j : Int)) = (i : Int) + (j : Int) := u64_in _ (by omega) (by omega)
      have hwc : ((i : Int) + (j : Int)) / 2 = (m : Int) := by omega
      have hwd : wrap64 (m : Int) = (m : Int) := IntWalk.wrap64_in _ (by omega)
      have hwe : wrap64 ((m : Int) + 1) = (m : Int) + 1 := IntWalk.wrap64_in _ (by omega)
      have hm0 : (0 : Int) ≤ (m : Int) := by omega
      have hm1 : (m : Int) < (n : Int) := by omega
      have him : Hid (i ≤ m) := by show _ ≤ _; omega
      have hmj : Hid (m < j) := by show _ < _; omega
      obtain ⟨p, hp⟩ : ∃ p, kv[m]? = some p := ⟨_, List.getElem?_eq_getElem (by rw [HN.out]; omega)⟩
      obtain ⟨g, o, rfl, d0, d1⟩ := EP.cell (HV.out.below hB.out) hp
      have k58 := cmp58 p k wr
      have HL : Hid (cmpS p.1 k < 0 ↔ lt p.1 k = true) := by
        show _ ↔ _
        have := ordS.three p.1 k
        simp only [lt, decide_eq_true_eq]
        omega
      have HP : Hid (kv[m]? = some p) := hp
      generalize cmpS p.1 k = z at *
      clear hp hm
      by_cases hz : z < 0
      · have hz2 := HL.out.1 hz
        have HZ : Hid _ := hz2
        clear hz2
        go_wp2_with (go_at_call 48; (with_reducible refine k58.mono ?_); rintro e w1 ⟨rfl, hB1⟩)
        go_roundw
        case rel =>
          refine ⟨m + 1, j, by simp, rfl, hmj.out, hjn.out, ?_, hge.out, bmore hB.out hB1⟩
          intro t q ht hlt'
          by_cases htm : t = m
          · subst htm; rw [HP.out] at ht; cases ht; exact HZ.out
          · exact lt_trans (HS.out.get ht HP.out (by omega)) HZ.out
        case measure => simp only [intOf]; have := hmj.out; have := him.out; omega
      · have hz2 : lt p.1 k = false := by cases hq : lt p.1 k; rfl; exact absurd (HL.out.2 hq) hz
        have HZ : Hid _ := hz2
        clear hz2
        go_wp2_with (go_at_call 48; (with_reducible refine k58.mono ?_); rintro e w1 ⟨rfl, hB1⟩)
        go_roundw
        case rel =>
          refine ⟨i, m, rfl, rfl, him.out, by show _ ≤ _; have := hmj.out; omega, hlo.out, ?_, bmore hB.out hB1⟩
          intro t q ht hlt'
          by_cases htm : t = m
          · subst htm; rw [HP.out] at ht; cases ht; exact HZ.out
          · cases hq : lt q.1 k
            · rfl
            · have := lt_trans (HS.out.get HP.out ht (by omega)) hq
              rw [HZ.out] at this; cases this
        case measure => simp only [intOf]; have := hmj.out; have := him.out; omega
    · have hli : ¬ (i : Int) < (j : Int) := by omega
      obtain rfl : i = j := by omega
      have HAt : Hid (At kv k i) := fun t p ht => by
        refine ⟨fun hl => ?_, fun hti => hlo.out t p ht hti⟩
        by_cases hti : t < i
        · exact hti
        · rw [hge.out t p ht (by omega)] at hl
          cases hl
      by_cases hin : i < n
      · have h1 : (i : Int) < (n : Int) := by omega
        have h0 : (0 : Int) ≤ (i : Int) := by omega
        obtain ⟨p, hp⟩ : ∃ p, kv[i]? = some p := ⟨_, List.getElem?_eq_getElem (by rw [HN.out]; omega)⟩
        obtain ⟨g, o, rfl, d0, d1⟩ := EP.cell (HV.out.below hB.out) hp
        have k58 := cmp58 p k wr
        have HF : Hid (found kv k i = (cmpS p.1 k == 0)) := by
          show _ = _
          unfold found
          rw [hp, Bool.eq_iff_iff]
          simp [ordS.eq]
        generalize cmpS p.1 k = z at *
        clear hp
        go_wp2_with (go_at_call 48; (with_reducible refine k58.mono ?_); rintro e w1 ⟨rfl, hB1⟩)
        go_ret2
        exact ⟨i, by rw [HN.out]; omega, HAt.out, by rw [HF.out]; first | rfl | simp, bmore hB.out hB1⟩
      · have h1 : ¬ (i : Int) < (n : Int) := by omega
        have HF : Hid (found kv k i = false) := by
          show _ = _
          unfold found
          rw [List.getElem?_eq_none (by rw [HN.out]; omega)]
        go_wp2
        go_ret2
        exact ⟨i, by rw [HN.out]; omega, HAt.out, by rw [HF.out]; rfl, hB.out⟩
theorem place48 {w : World} {v : Value} {kv : List Pr} {k : ByteArray} (hv : LV EP w v kv) (hs : Srt kv) (hn : kv.length ≤ 1000) : Calls Tryd.prog 31 #[v, .string k] w (BPost w kv k) := by
  have k57 := search57 (k := k) hv hs hn
  obtain ⟨a, c, rfl⟩ := hv.form
  generalize hN : kv.length = n at *
  clear hv hs
  have HN : Hid _ := hN
  clear hN
  go_enter Tryd.func31, Tryd.ntmps31
  go_wp2_with (go_at_call 47; (with_reducible refine k57.mono ?_); rintro e w1 ⟨i, h1, h2, rfl, hB⟩)
  go_ret2
  exact ⟨i, h1, h2, rfl, hB⟩
end Go.Proofs.YthfkmedpcmiibaaDoor.T
/-! ### Which kid has a key. -/
namespace Go.Proofs.YthfkmedpcmiibaaDoor.T
open Go.RowKit Go.Shelf
set_option maxRecDepth 100000
theorem less_cases : ∀ a b : List UInt8, (Op.bytesLess a b = true ∧ Lib.compareBytes a b = -1) ∨ (Op.bytesLess a b = false ∧ Op.bytesLess b a = true ∧ Lib.compareBytes a b = 1) ∨ (Op.bytesLess a b = false ∧ Op.bytesLess b a = false ∧ Lib.compareBytes a b = 0)
  | [], [] => .inr (.inr ⟨rfl, rfl, rfl⟩)
  | [], _ :: _ => .inl ⟨rfl, rfl⟩
  | _ :: _, [] => .inr (.inl ⟨rfl, rfl, rfl⟩)
  | x :: a, y :: b => by
    have ih := less_cases a b
    by_cases h1 : x < y
    · exact .inl ⟨by simp [Op.bytesLess, h1], by simp [Lib.compareBytes, h1]⟩
    · by_cases h2 : y < x
      · have hne : ¬ (x = y) := fun e => by subst e; exact h1 h2
        exact .inr (.inl ⟨by simp [Op.bytesLess, h1, hne], by simp [Op.bytesLess, h2], by simp [Lib.compareBytes, h1, h2]⟩)
      · obtain rfl : x = y := UInt8.le_antisymm (UInt8.not_lt.1 h2) (UInt8.not_lt.1 h1)
        simpa [Op.bytesLess, Lib.compareBytes, h1] using ih
theorem less_lt (a b : ByteArray) : Op.bytesLess a.toList b.toList = lt a b := by
  have ea : a.toList = bs a := Lib.toList_data a
  have eb : b.toList = bs b := Lib.toList_data b
  rw [ea, eb]
  unfold lt cmpS
  rcases less_cases (bs a) (bs b) with ⟨h1, h2⟩ | ⟨h1, _, h2⟩ | ⟨h1, _, h2⟩ <;> rw [h1, h2] <;> rfl
theorem eq_str (a b : ByteArray) : (a.toList == b.toList) = decide (a = b) := by
  have ea : a.toList = bs a := Lib.toList_data a
  have eb : b.toList = bs b := Lib.toList_data b
  rw [ea, eb, Bool.eq_iff_iff]
  simp only [beq_iff_eq, decide_eq_true_eq]
  exact ⟨bs_inj, fun e => by rw [e]⟩
theorem gtr_lt (a b : ByteArray) : (!Op.bytesLess a.toList b.toList && !a.toList == b.toList) = lt b a := by
  rw [less_lt, eq_str]
  rcases lt_three a b with h | h | h
  · simp [h, lt_not h]
  · subst h; simp [lt_irrefl]
  · simp [h, lt_not h, (lt_ne h).symm]
theorem leq_lt (a b : ByteArray) : (Op.bytesLess a.toList b.toList || a.toList == b.toList) = !lt b a := by
  rw [less_lt, eq_str]
  rcases lt_three a b with h | h | h
  · simp [h, lt_not h]
  · subst h; simp [lt_irrefl]
  · simp [h, lt_not h, (lt_ne h).symm]
/-- The boxes of an inner part and of a key. -/
structure Box (w : World) (b d : Nat) (sl : Value) (s : ByteArray) (t : Int) (k : ByteArray) : Prop where
  n : Blk w b [sl, .string s, .int .i64 t] 63
  k : Blk w d [.string k] 9
theorem Box.below {w w' : World} {b d : Nat} {sl : Value} {s : ByteArray} {t : Int} {k : ByteArray} (h : Box w b d sl s t k) (e : Below w.heap.size w w') : Box w' b d sl s t k := ⟨h.n.below e, h.k.below e⟩
set_option maxHeartbeats 1000000 in
theorem behind61 {w : World} {b d h i m : Nat} {sl : Value} {s k : ByteArray} {t : Int} {L : List Bx} {x : Bx} {kv : List Pr} (hb : Box w b d sl s t k) (hl : LV EK w sl L) (hx : L[i]? = some x) (hp : Part w h m x kv) (h0 : 0 < kv.length) :
    Calls Tryd.prog 53 #[.int .i64 (i : Int), .pointer (some ⟨b, 0, none⟩), .pointer (some ⟨d, 0, none⟩)] w fun e w' => e = .returned (.bool (lt k (fst kv))) ∧ Below w.heap.size w w' := by
  obtain ⟨a, c, rfl⟩ := hl.form
  obtain ⟨g, o, rfl, d0⟩ := EK.cell hl hx
  have hi1 : (i : Int) < (L.length : Int) := by have := (List.getElem?_eq_some_iff.1 hx).1; omega
  have hi0 : (0 : Int) ≤ (i : Int) := by omega
  have c0 := hb.n.cell 0
  have ck := hb.k.cell 0
  simp only [List.getElem?_cons_zero] at c0 ck
  generalize L.length = n at *
  cases h with
  | zero =>
    obtain ⟨t', y⟩ := x
    obtain ⟨ht', hl2, hn2⟩ := hp
    have ht'' : t' = 47 := ht'
    subst ht''
    have k90 := fun W (hW : Below w.heap.size w W) => first90 (hl2.below hW) h0
    have HKK : Hid (∀ W, Below w.heap.size w W → Calls Tryd.prog 93 #[y] W fun e w' => e = .returned (.string (fst kv)) ∧ W = w') := k90
    have hm1 := m_first64
    have hS : w.drew.cell? ⟨b, 0, none⟩ = some (.slice (some ⟨g, o, none⟩) n c) ∧ w.drew.cell? ⟨d, 0, none⟩ = some (.string k) ∧ w.drew.cell? ⟨g, o + i, none⟩ = some (.iface 47 y) := ⟨c0, ck, d0⟩
    clear hl hx hb hl2 c0 ck d0 k90
    generalize fst kv = sf at *
    go_enter Tryd.func53, Tryd.ntmps53
    go_wp2_with fail
    go_region_held3 (fun W' => W'.cell? ⟨b, 0, none⟩ = some (.slice (some ⟨g, o, none⟩) n c) ∧ W'.cell? ⟨d, 0, none⟩ = some (.string k) ∧ W'.cell? ⟨g, o + i, none⟩ = some (.iface 47 y)) (exact hS) (first | (go_at_call 93; (with_reducible refine (HKK.out _ (Below.refl _ _).drew).mono ?_); rintro e w1 ⟨rfl, rfl⟩))
    go_wp2
    go_ret
    exact ⟨by simp [gtr_lt], (Below.refl _ _).drew⟩
  | succ h =>
    obtain ⟨sl2, ks2, rfl, h2, h3, h4, h5, h6⟩ := hp
    obtain ⟨b2, c2, rfl⟩ := h2.form
    have k93 := fun W => first93 b2 (ks2.map (·.1)).length c2 (fst kv) (kv.length : Int) W
    have hm1 := m_first72
    have hS : w.drew.cell? ⟨b, 0, none⟩ = some (.slice (some ⟨g, o, none⟩) n c) ∧ w.drew.cell? ⟨d, 0, none⟩ = some (.string k) ∧ w.drew.cell? ⟨g, o + i, none⟩ = some (.iface 63 (.agg #[.slice b2 (ks2.map (·.1)).length c2, .string (fst kv), .int .i64 (kv.length : Int)])) := ⟨c0, ck, d0⟩
    have HBb := hb
    have HD0 : Hid (w.cell? ⟨g, o + i, none⟩ = some (.iface 63 (.agg #[.slice b2 (ks2.map (·.1)).length c2, .string (fst kv), .int .i64 (kv.length : Int)]))) := d0
    have HS : Hid (∀ W, Below w.drew.heap.size w.drew W → W.cell? ⟨b, 0, none⟩ = some (.slice (some ⟨g, o, none⟩) n c) ∧ W.cell? ⟨d, 0, none⟩ = some (.string k) ∧ W.cell? ⟨g, o + i, none⟩ = some (.iface 63 (.agg #[.slice b2 (ks2.map (·.1)).length c2, .string (fst kv), .int .i64 (kv.length : Int)]))) := fun W hW => by
      have hW' : Below w.heap.size w W := bmore (Below.refl _ _).drew hW
      exact ⟨(hb.n.below hW').cell 0, (hb.k.below hW').cell 0, (hW'.cell (p := ⟨g, o + i, none⟩) (World.block_lt_of_cell? w _ HD0.out)).trans HD0.out⟩
    clear hl hx hb c0 ck d0 h5 h6 h2 HBb HD0
    generalize (ks2.map (·.1)).length = n2 at *
    generalize fst kv = sf at *
    generalize kv.length = kl at *
    go_enter Tryd.func53, Tryd.ntmps53
    go_wp2_with fail
    go_region_held3 (fun W' => W'.cell? ⟨b, 0, none⟩ = some (.slice (some ⟨g, o, none⟩) n c) ∧ W'.cell? ⟨d, 0, none⟩ = some (.string k) ∧ W'.cell? ⟨g, o + i, none⟩ = some (.iface 63 (.agg #[.slice b2 n2 c2, .string sf, .int .i64 (kl : Int)]))) (first | exact hS | exact HS.out _ hB1) (first | (go_at_call 96; (with_reducible refine (k93 _).mono ?_); rintro e w1 ⟨rfl, hB1⟩))
    go_wp2
    go_ret
    exact ⟨by simp [gtr_lt], bmore (Below.refl _ _).drew hB1⟩
theorem flat_pair {ks : List Kd} (hs : Srt (flat ks)) {t u : Nat} {x y : Kd} (hx : ks[t]? = some x) (hy : ks[u]? = some y) (htu : t < u) {p q : Pr} (hp : p ∈ x.2) (hq : q ∈ y.2) : lt p.1 q.1 = true := by
  have h := (List.pairwise_flatten.1 hs).2
  obtain ⟨h1, rfl⟩ := List.getElem?_eq_some_iff.1 hx
  obtain ⟨h2, rfl⟩ := List.getElem?_eq_some_iff.1 hy
  have := List.pairwise_iff_getElem.1 h t u (by simpa using h1) (by simpa using h2) htu
  simp only [List.getElem_map] at this
  exact this p hp q hq
theorem fst_mem {kv : List Pr} (h : 0 < kv.length) : ∃ p ∈ kv, p.1 = fst kv := by
  cases kv with
  | nil => simp at h
  | cons a l => exact ⟨a, by simp, rfl⟩
theorem fst_le {kv : List Pr} (hs : Srt kv) {p : Pr} (hp : p ∈ kv) : lt p.1 (fst kv) = false := by
  cases kv with
  | nil => cases hp
  | cons a l =>
    show lt p.1 a.1 = false
    rcases List.mem_cons.1 hp with rfl | hp
    · exact lt_irrefl _
    · exact lt_not ((List.pairwise_cons.1 hs).1 p hp)
theorem kid_srt {ks : List Kd} (hs : Srt (flat ks)) {x : Kd} (hx : x ∈ ks) : Srt x.2 := (List.pairwise_flatten.1 hs).1 x.2 (List.mem_map_of_mem hx)
theorem Kids.pos {w : World} {h : Nat} {ks : List Kd} (k : Kids w h ks) {x : Kd} (hx : x ∈ ks) : 0 < x.2.length := by
  obtain ⟨m, h1, _, h3⟩ := k x hx
  have := h3.len
  omega
/-- Behind which kid a key comes. -/
def Behind (ks : List Kd) (k : ByteArray) (i : Nat) : Prop := ∀ (t : Nat) (x : Kd), ks[t]? = some x → (lt k (fst x.2) = true ↔ i ≤ t)
def IPost (w : World) (n : Nat) (R : Nat → Prop) (e : Ending) (w' : World) : Prop := ∃ i : Nat, i ≤ n ∧ R i ∧ e = .returned (.int .i64 (i : Int)) ∧ Below w.heap.size w w'
set_option maxHeartbeats 1000000 in
theorem search60 {w : World} {b d h : Nat} {sl : Value} {s k : ByteArray} {t : Int} {ks : List Kd} (hb : Box w b d sl s t k) (hl : LV EK w sl (ks.map (·.1))) (hk : Kids w h ks) (hs : Srt (flat ks)) (hn : ks.length ≤ 1000) :
    Calls Tryd.prog 52 #[.int .i64 (ks.length : Int), .func (.func 53) #[] #[.pointer (some ⟨b, 0, none⟩), .pointer (some ⟨d, 0, none⟩)]] w (IPost w ks.length (Behind ks k)) := by
  have HK : Hid (∀ (W : World) (i : Nat) (x : Kd), Below w.heap.size w W → ks[i]? = some x → Calls Tryd.prog 53 #[.int .i64 (i : Int), .pointer (some ⟨b, 0, none⟩), .pointer (some ⟨d, 0, none⟩)] W fun e w' => e = .returned (.bool (lt k (fst x.2))) ∧ Below W.heap.size W w') := fun W i x hW hx => by
    obtain ⟨m, h1, h2, h3⟩ := hk x (List.mem_of_getElem? hx)
    exact behind61 (hb.below hW) (hl.below hW) (by rw [List.getElem?_map, hx]; rfl) (h3.below hW) (by have := h3.len; omega)
  have HMono : Hid (∀ (t u : Nat) (x y : Kd), ks[t]? = some x → ks[u]? = some y → t < u → lt (fst x.2) (fst y.2) = true) := fun t u x y hx hy htu => by
    obtain ⟨p, hp, e1⟩ := fst_mem (hk.pos (List.mem_of_getElem? hx))
    obtain ⟨q, hq, e2⟩ := fst_mem (hk.pos (List.mem_of_getElem? hy))
    rw [← e1, ← e2]
    exact flat_pair hs hx hy htu hp hq
  generalize hN : ks.length = n at *
  have HN : Hid (ks.length = n) := hN
  clear hb hl hk hs hN
  go_enter Tryd.func52, Tryd.ntmps52
  go_wp2_with fail
  go_loopw [5, 6] (fun fi fj wr => ∃ (i j : Nat), fi = .int .i64 (i : Int) ∧ fj = .int .i64 (j : Int) ∧ Hid (i ≤ j) ∧ Hid (j ≤ n) ∧ Hid (∀ t x, ks[t]? = some x → t < i → lt k (fst x.2) = false) ∧ Hid (∀ t x, ks[t]? = some x → j ≤ t → lt k (fst x.2) = true) ∧ Hid (Below w.heap.size w wr)) (fun fi fj _ => (intOf fj - intOf fi).toNat)
  case atStart => exact ⟨0, n, rfl, rfl, Nat.zero_le _, Nat.le_refl _, (fun t p _ h => by omega), (fun t p h1 h2 => by have := (List.getElem?_eq_some_iff.1 h1).1; rw [HN.out] at this; omega), Below.refl _ _⟩
  case round =>
    obtain ⟨i, j, rfl, rfl, hij, hjn, hlo, hge, hB⟩ := hrel
    have hij' := hij.out
    have hjn' := hjn.out
    by_cases hlt : i < j
    · have hli : (i : Int) < (j : Int) := by omega
      obtain ⟨m, hm⟩ : ∃ m, m = (i + j) / 2 := ⟨_, rfl⟩
      have hwa : wrap64 ((i : Int) + (j : Int)) = (i : Int) + (j : Int) := IntWalk.wrap64_in _ (by omega)
      have hwb : IntKind.u64.wrap ((i : Int) + (j : Int)) = (i : Int) + (j : Int) := u64_in _ (by omega) (by omega)
      have hwc : ((i : Int) + (j : Int)) / 2 = (m : Int) := by omega
      have hwd : wrap64 (m : Int) = (m : Int) := IntWalk.wrap64_in _ (by omega)
      have hwe : wrap64 ((m : Int) + 1) = (m : Int) + 1 := IntWalk.wrap64_in _ (by omega)
      have him : Hid (i ≤ m) := by show _ ≤ _; omega
      have hmj : Hid (m < j) := by show _ < _; omega
      obtain ⟨x, hx⟩ : ∃ x, ks[m]? = some x := ⟨_, List.getElem?_eq_getElem (by rw [HN.out]; omega)⟩
      have k61 := HK.out wr m x hB.out hx
      have HX : Hid (ks[m]? = some x) := hx
      clear hx hm
      cases hz : lt k (fst x.2) with
      | false =>
        rw [hz] at k61
        have HZ : Hid (lt k (fst x.2) = false) := hz
        clear hz
        go_wp2_with (go_at_call 53; (with_reducible refine k61.mono ?_); rintro e w1 ⟨rfl, hB1⟩)
        go_roundw
        case rel =>
          refine ⟨m + 1, j, by simp, rfl, hmj.out, hjn.out, ?_, hge.out, bmore hB.out hB1⟩
          intro t y ht hlt'
          by_cases htm : t = m
          · subst htm; rw [HX.out] at ht; cases ht; exact HZ.out
          · cases hq : lt k (fst y.2)
            · rfl
            · have := lt_trans hq (HMono.out t m y x ht HX.out (by omega))
              rw [HZ.out] at this; cases this
        case measure => simp only [intOf]; have := hmj.out; have := him.out; omega
      | true =>
        rw [hz] at k61
        have HZ : Hid (lt k (fst x.2) = true) := hz
        clear hz
        go_wp2_with (go_at_call 53; (with_reducible refine k61.mono ?_); rintro e w1 ⟨rfl, hB1⟩)
        go_roundw
        case rel =>
          refine ⟨i, m, rfl, rfl, him.out, by show _ ≤ _; have := hmj.out; omega, hlo.out, ?_, bmore hB.out hB1⟩
          intro t y ht hlt'
          by_cases htm : t = m
          · subst htm; rw [HX.out] at ht; cases ht; exact HZ.out
          · exact lt_trans HZ.out (HMono.out m t x y HX.out ht (by omega))
        case measure => simp only [intOf]; have := hmj.out; have := him.out; omega
    · have hli : ¬ (i : Int) < (j : Int) := by omega
      obtain rfl : i = j := by omega
      have HAt : Hid (Behind ks k i) := fun t x ht => by
        refine ⟨fun hl => ?_, fun hti => hge.out t x ht hti⟩
        by_cases hti : i ≤ t
        · exact hti
        · rw [hlo.out t x ht (by omega)] at hl
          cases hl
      go_wp2
      go_ret
      exact ⟨i, hjn.out, HAt.out, rfl, hB.out⟩
end Go.Proofs.YthfkmedpcmiibaaDoor.T
/-! ### toward; levels, lowered. -/
namespace Go.Proofs.YthfkmedpcmiibaaDoor.T
open Go.RowKit Go.Shelf
set_option maxRecDepth 100000
/-- The kid at i is the one that has to do with k. -/
structure Tow (ks : List Kd) (k : ByteArray) (i : Nat) (x : Kd) : Prop where
  at_ : ks[i]? = some x
  mid : Mid (flat (ks.take i)) x.2 (flat (ks.drop (i + 1))) k
  le : 0 < i → lt k (fst x.2) = false
theorem mem_flat {ks : List Kd} {p : Pr} (h : p ∈ flat ks) : ∃ x ∈ ks, p ∈ x.2 := by
  obtain ⟨l, hl, hp⟩ := List.mem_flatten.1 h
  obtain ⟨x, hx, rfl⟩ := List.mem_map.1 hl
  exact ⟨x, hx, hp⟩
theorem tow_of {w : World} {h i : Nat} {ks : List Kd} {k : ByteArray} (hk : Kids w h ks) (hs : Srt (flat ks)) (hb : Behind ks k i) (h0 : 0 < ks.length) (hi : i ≤ ks.length) : ∃ x, Tow ks k (i - 1) x := by
  obtain ⟨x, hx⟩ : ∃ x, ks[i - 1]? = some x := ⟨_, List.getElem?_eq_getElem (by omega)⟩
  refine ⟨x, hx, ⟨fun p hp => ?_, fun p hp => ?_⟩, fun hi0 => ?_⟩
  · obtain ⟨y, hy, hpy⟩ := mem_flat hp
    obtain ⟨t, ht⟩ := List.getElem?_of_mem hy
    rw [List.getElem?_take] at ht
    split at ht
    · rename_i hti
      obtain ⟨q, hq, e⟩ := fst_mem (hk.pos (List.mem_of_getElem? hx))
      have h1 := flat_pair hs ht hx hti hpy hq
      rw [e] at h1
      have h2 : lt k (fst x.2) = false := by
        cases hz : lt k (fst x.2)
        · rfl
        · have := (hb (i - 1) x hx).1 hz
          omega
      exact lt_nlt h1 h2
    · cases ht
  · obtain ⟨y, hy, hpy⟩ := mem_flat hp
    obtain ⟨t, ht⟩ := List.getElem?_of_mem hy
    rw [List.getElem?_drop] at ht
    have h1 := (hb _ y ht).2 (by omega)
    have h2 := fst_le (kid_srt hs (List.mem_of_getElem? ht)) hpy
    exact lt_nlt h1 h2
  · cases hz : lt k (fst x.2)
    · rfl
    · have := (hb (i - 1) x hx).1 hz
      omega
theorem flat_cut {ks : List Kd} {i : Nat} {x : Kd} (h : ks[i]? = some x) : flat ks = flat (ks.take i) ++ x.2 ++ flat (ks.drop (i + 1)) := by
  conv => lhs; rw [← List.take_append_drop (i + 1) ks]
  rw [flat_app, flat_take h]
/-- Which kid it is. -/
def towI (ks : List Kd) (k : ByteArray) : Nat := (ks.takeWhile fun x => !lt k (fst x.2)).length - 1
theorem behind_one {ks : List Kd} {k : ByteArray} {i j : Nat} (hi : Behind ks k i) (hj : Behind ks k j) (li : i ≤ ks.length) (lj : j ≤ ks.length) : i = j := by
  rcases Nat.lt_trichotomy i j with h | h | h
  · obtain ⟨x, hx⟩ : ∃ x, ks[i]? = some x := ⟨_, List.getElem?_eq_getElem (by omega)⟩
    have := (hj i x hx).1 ((hi i x hx).2 (Nat.le_refl _))
    omega
  · exact h
  · obtain ⟨x, hx⟩ : ∃ x, ks[j]? = some x := ⟨_, List.getElem?_eq_getElem (by omega)⟩
    have := (hi j x hx).1 ((hj j x hx).2 (Nat.le_refl _))
    omega
theorem behind_tw : ∀ {ks : List Kd} {k : ByteArray}, (∀ (t u : Nat) (x y : Kd), ks[t]? = some x → ks[u]? = some y → t < u → lt (fst x.2) (fst y.2) = true) → Behind ks k (ks.takeWhile fun x => !lt k (fst x.2)).length
  | [], k, _ => fun t x h => by cases h
  | a :: l, k, hm => by
    have ih := @behind_tw l k (fun t u x y hx hy htu => hm (t + 1) (u + 1) x y (by simpa using hx) (by simpa using hy) (by omega))
    intro t x ht
    cases hz : lt k (fst a.2) with
    | true =>
      rw [List.takeWhile_cons_of_neg (by simp [hz])]
      refine ⟨fun _ => Nat.zero_le _, fun _ => ?_⟩
      cases t with
      | zero => cases ht; exact hz
      | succ t => exact lt_trans hz (hm 0 (t + 1) a x rfl ht (by omega))
    | false =>
      rw [List.takeWhile_cons_of_pos (by simp [hz]), List.length_cons]
      cases t with
      | zero => cases ht; rw [hz]; simp
      | succ t =>
        have := ih t x (by simpa using ht)
        rw [this]
        omega
theorem kids_mono {w : World} {h : Nat} {ks : List Kd} (hk : Kids w h ks) (hs : Srt (flat ks)) : ∀ (t u : Nat) (x y : Kd), ks[t]? = some x → ks[u]? = some y → t < u → lt (fst x.2) (fst y.2) = true := fun t u x y hx hy htu => by
  obtain ⟨p, hp, e1⟩ := fst_mem (hk.pos (List.mem_of_getElem? hx))
  obtain ⟨q, hq, e2⟩ := fst_mem (hk.pos (List.mem_of_getElem? hy))
  rw [← e1, ← e2]
  exact flat_pair hs hx hy htu hp hq
theorem tw_le (ks : List Kd) (k : ByteArray) : (ks.takeWhile fun x => !lt k (fst x.2)).length ≤ ks.length := (List.takeWhile_prefix _).length_le
theorem tow_i {w : World} {h : Nat} {ks : List Kd} {k : ByteArray} (hk : Kids w h ks) (hs : Srt (flat ks)) (h0 : 0 < ks.length) : ∃ x, Tow ks k (towI ks k) x := tow_of hk hs (behind_tw (kids_mono hk hs)) h0 (tw_le ks k)
def TPost (w : World) (ks : List Kd) (k : ByteArray) (e : Ending) (w' : World) : Prop := e = .returned (.int .i64 (towI ks k : Int)) ∧ Below w.heap.size w w'
set_option maxHeartbeats 1000000 in
theorem toward49 {w : World} {h : Nat} {sl : Value} {s k : ByteArray} {t : Int} {ks : List Kd} (hl : LV EK w sl (ks.map (·.1))) (hk : Kids w h ks) (hs : Srt (flat ks)) (hn : ks.length ≤ 1000) (h0 : 0 < ks.length) :
    Calls Tryd.prog 34 #[.agg #[sl, .string s, .int .i64 t], .string k] w (TPost w ks k) := by
  obtain ⟨a, c, rfl⟩ := hl.form
  rw [List.length_map] at hl ⊢
  have hB : Below w.heap.size w ((w.alloc (.cells #[.slice a ks.length c, .string s, .int .i64 t] 63)).alloc (.cells #[.string k] 9)) := bal (al _ _) _
  have hbx : Box ((w.alloc (.cells #[.slice a ks.length c, .string s, .int .i64 t] 63)).alloc (.cells #[.string k] 9)) w.heap.size (w.heap.size + 1) (.slice a ks.length c) s t k :=
    ⟨(blk_new w [.slice a ks.length c, .string s, .int .i64 t] 63).below (al _ _), blk_at (w.alloc (.cells #[.slice a ks.length c, .string s, .int .i64 t] 63)) [.string k] 9 (by simp)⟩
  have k60 := search60 hbx (hl.below hB) (hk.below hB) hs hn
  have HT : Hid (∀ i, i ≤ ks.length → Behind ks k i → i - 1 = towI ks k) := fun i hi hb => by rw [behind_one hb (behind_tw (kids_mono hk hs)) hi (tw_le ks k)]; rfl
  have HB : Hid _ := hB
  generalize ks.length = n at *
  clear hl hk hs hbx hB
  go_enter Tryd.func34, Tryd.ntmps34
  go_wp2_with (go_at_call 52; (with_reducible refine k60.mono ?_); rintro e w1 ⟨i, hi, hBh, rfl, hB1⟩; obtain ⟨j, hj⟩ : ∃ j : Nat, j = i - 1 := ⟨_, rfl⟩; have hw1 : wrap64 ((i : Int) - 1) = (i : Int) - 1 := IntWalk.wrap64_in _ (by omega); have hw2 : max (0 : Int) ((i : Int) - 1) = (j : Int) := (by omega); have HT2 := HT.out i hi hBh; rw [← hj] at HT2; have HT3 : Hid _ := HT2; have HB1 : Hid _ := hB1; clear hj HT2 hBh)
  go_ret
  exact ⟨by rw [← HT3.out]; rfl, bmore HB.out HB1.out⟩
end Go.Proofs.YthfkmedpcmiibaaDoor.T
/-! ### levels, ahead, floor. -/
namespace Go.Proofs.YthfkmedpcmiibaaDoor.T
open Go.RowKit Go.Shelf
set_option maxRecDepth 100000
attribute [local go_sem] ta64_64 ta72_64 ta72_72 ta64_72 tb64_64 tb72_72
theorem Part.leaf {w : World} {n : Nat} {x : Bx} {kv : List Pr} (h : Part w 0 n x kv) : ∃ a c, x = (47, .slice a kv.length c) ∧ LV EP w (.slice a kv.length c) kv ∧ kv.length = n := by
  obtain ⟨t, y⟩ := x
  obtain ⟨ht, hl, hn⟩ := h
  have ht' : t = 47 := ht
  have hl' : LV EP w y kv := hl
  subst ht'
  obtain ⟨a, c, rfl⟩ := hl'.form
  exact ⟨a, c, rfl, hl', hn⟩
theorem Part.inner {w : World} {h n : Nat} {x : Bx} {kv : List Pr} (hp : Part w (h + 1) n x kv) : ∃ a c ks, x = (63, .agg #[.slice a n c, .string (fst kv), .int .i64 (kv.length : Int)]) ∧ LV EK w (.slice a n c) (ks.map (·.1)) ∧ ks.length = n ∧ 0 < n ∧ kv = flat ks ∧ Kids w h ks := by
  obtain ⟨sl, ks, rfl, h2, h3, h4, h5, h6⟩ := hp
  obtain ⟨a, c, hf⟩ := h2.form
  rw [List.length_map, h3] at hf
  subst hf
  exact ⟨a, c, ks, rfl, h2, h3, h4, h5, h6⟩
theorem leaf_of {w : World} {v : Value} {kv : List Pr} (h : LV EP w v kv) : Part w 0 kv.length (47, v) kv := ⟨rfl, h, rfl⟩
theorem inner_of {w : World} {h : Nat} {v : Value} {ks : List Kd} (h0 : 0 < ks.length) (hl : LV EK w v (ks.map (·.1))) (hk : Kids w h ks) : Part w (h + 1) ks.length (63, .agg #[v, .string (fst (flat ks)), .int .i64 ((flat ks).length : Int)]) (flat ks) := ⟨v, ks, rfl, hl, rfl, h0, rfl, hk⟩
set_option maxHeartbeats 400000 in
theorem levels42 : ∀ {h n : Nat} {w : World} {x : Bx} {kv : List Pr}, Part w h n x kv → h ≤ 100 → Calls Tryd.prog 61 #[.iface x.1 x.2] w fun e w' => e = .returned (.int .i64 ((h + 1 : Nat) : Int)) ∧ Below w.heap.size w w'
  | 0, n, w, x, kv, hp, hh => by
    obtain ⟨a, c, rfl, -, -⟩ := hp.leaf
    clear hp
    go_enter Tryd.func61, Tryd.ntmps61
    go_wp2
    go_ret
    exact ⟨rfl, Below.refl _ _⟩
  | h + 1, n, w, x, kv, hp, hh => by
    obtain ⟨a, c, ks, rfl, h2, h3, h4, -, h6⟩ := hp.inner
    obtain ⟨y, hy⟩ : ∃ y, ks[0]? = some y := ⟨_, List.getElem?_eq_getElem (by omega)⟩
    have hB := al w (.cells #[.slice a n c, .string (fst kv), .int .i64 (kv.length : Int)] 63)
    obtain ⟨g, o, rfl, d0⟩ := EK.cell (h2.below hB) (i := 0) (x := y.1) (by rw [List.getElem?_map, hy]; rfl)
    obtain ⟨m, q1, q2, q3⟩ := h6 y (List.mem_of_getElem? hy)
    have k42 := levels42 (q3.below hB) (by omega)
    have hl0 : (0 : Int) < (n : Int) := by omega
    have HB : Hid _ := hB
    rw [Nat.add_zero] at d0
    generalize fst kv = s at *
    generalize kv.length = kl at *
    clear h2 h3 h6 hB hy q3 hp
    go_enter Tryd.func61, Tryd.ntmps61
    go_wp2_with (go_at_call 61; (with_reducible refine k42.mono ?_); rintro e w1 ⟨rfl, hB1⟩)
    go_ret
    exact ⟨by simp; omega, bmore HB.out hB1⟩
end Go.Proofs.YthfkmedpcmiibaaDoor.T
/-! ### floor. -/
namespace Go.Proofs.YthfkmedpcmiibaaDoor.T
open Go.RowKit Go.Shelf
set_option maxRecDepth 100000
attribute [local go_sem] ta64_64 ta72_64 ta72_72 ta64_72 tb64_64 tb72_72
abbrev prV (p : Pr) : Value := .agg #[.string p.1, .string p.2]
abbrev noP : Pr := (⟨#[]⟩, ⟨#[]⟩)
/-- A pair, if there is one. -/
abbrev opV (o : Option Pr) : Value := .tuple #[.agg #[.string (o.getD noP).1, .string (o.getD noP).2], .bool o.isSome]
def floorP (kv : List Pr) (k : ByteArray) : Option Pr := (le kv k).getLast?
def FPost (w : World) (o : Option Pr) (e : Ending) (w' : World) : Prop := e = .returned (opV o) ∧ Below w.heap.size w w'
theorem last_take {kv : List Pr} {i : Nat} {p : Pr} (h : kv[i]? = some p) : (kv.take (i + 1)).getLast? = some p := by
  rw [List.take_add_one, h]
  simp
theorem floor_found {kv : List Pr} {i : Nat} {k : ByteArray} {p : Pr} (hs : Srt kv) (ha : At kv k i) (hp : kv[i]? = some p) (hf : found kv k i = true) : floorP kv k = some p := by
  have hk : p.1 = k := by unfold found at hf; rw [hp] at hf; simpa using hf
  unfold floorP
  rw [(cut_found hs hp hk ha).2.1]
  exact last_take hp
theorem not_found {kv : List Pr} {i : Nat} {k : ByteArray} (hf : found kv k i = false) : ∀ p, kv[i]? = some p → p.1 ≠ k := fun p hp => by
  unfold found at hf
  rw [hp] at hf
  simpa using hf
theorem floor_none {kv : List Pr} {i : Nat} {k : ByteArray} (hs : Srt kv) (ha : At kv k i) (hf : found kv k i = false) : floorP kv k = (kv.take i).getLast? := by
  unfold floorP
  rw [(cut_none ha (not_found hf) hs).2.1]
theorem is_found {kv : List Pr} {i : Nat} {k : ByteArray} (hf : found kv k i = true) : ∃ p, kv[i]? = some p ∧ p.1 = k := by
  unfold found at hf
  cases hp : kv[i]? with
  | none => rw [hp] at hf; cases hf
  | some p => rw [hp] at hf; exact ⟨p, rfl, by simpa using hf⟩
theorem Blk.c2 {W : World} {b : Nat} {x y : Value} {t : TypeId} (h : Blk W b [x, y] t) : W.cell? ⟨b, 0, none⟩ = some x ∧ W.cell? ⟨b, 1, none⟩ = some y ∧ W.frozen? ⟨b, 0, none⟩ = false ∧ W.frozen? ⟨b, 1, none⟩ = false := ⟨h.cell 0, h.cell 1, h.frozen 0, h.frozen 1⟩
theorem floor_mid {ks : List Kd} {k : ByteArray} {i : Nat} {y : Kd} (ht : Tow ks k i y) (h0 : 0 < y.2.length) : floorP (flat ks) k = floorP y.2 k := by
  unfold floorP
  rw [flat_cut ht.at_, ht.mid.le]
  by_cases hi : i = 0
  · subst hi
    simp [flat]
  · have hne : le y.2 k ≠ [] := by
      obtain ⟨p, hp, e⟩ := fst_mem h0
      intro hn
      have : p ∈ le y.2 k := List.mem_filter.2 ⟨hp, by rw [e, ht.le (by omega)]; rfl⟩
      rw [hn] at this
      cases this
    rw [List.getLast?_append]
    cases hq : (le y.2 k).getLast? with
    | none => exact absurd (List.getLast?_eq_none_iff.1 hq) hne
    | some p => rfl
set_option maxHeartbeats 1000000 in
theorem floor36 {k : ByteArray} : ∀ {h n : Nat} {w : World} {x : Bx} {kv : List Pr}, Part w h n x kv → Srt kv → kv.length ≤ 1000 → Calls Tryd.prog 30 #[.iface x.1 x.2, .string k] w (FPost w (floorP kv k))
  | 0, n, w, x, kv, hp, hs, hn => by
    obtain ⟨a, c, rfl, hl, -⟩ := hp.leaf
    have hB := al w (.cells #[.string ⟨#[]⟩, .string ⟨#[]⟩] 42)
    have k48 := place48 (k := k) (hl.below hB) hs hn
    have HB : Hid _ := hB
    have HS : Hid (Srt kv) := hs
    have HV : Hid (LV EP w (.slice a kv.length c) kv) := hl
    have hbk := blk_new w [.string ⟨#[]⟩, .string ⟨#[]⟩] 42
    have HBk : Hid (Blk (w.alloc (.cells #[.string ⟨#[]⟩, .string ⟨#[]⟩] 42)) w.heap.size [.string ⟨#[]⟩, .string ⟨#[]⟩] 42) := hbk
    generalize hkl : kv.length = kl at *
    have HKL : Hid (kv.length = kl) := hkl
    clear hl hp hs hB hbk hkl
    have HC : Hid (∀ (w1 : World) (i : Nat), i ≤ kv.length → At kv k i → Below (w.alloc (.cells #[.string ⟨#[]⟩, .string ⟨#[]⟩] 42)).heap.size (w.alloc (.cells #[.string ⟨#[]⟩, .string ⟨#[]⟩] 42)) w1 →
        (w1.cell? ⟨w.heap.size, 0, none⟩ = some (.string ⟨#[]⟩) ∧ w1.cell? ⟨w.heap.size, 1, none⟩ = some (.string ⟨#[]⟩) ∧ w1.frozen? ⟨w.heap.size, 0, none⟩ = false ∧ w1.frozen? ⟨w.heap.size, 1, none⟩ = false) ∧ Hid (Blk w1 w.heap.size [.string ⟨#[]⟩, .string ⟨#[]⟩] 42) ∧ Hid (Below w.heap.size w w1) ∧
        ((found kv k i = true ∧ ∃ p g o, a = some ⟨g, o, none⟩ ∧ w1.cell? ⟨g, o + i * 2, none⟩ = some (.string p.1) ∧ w1.cell? ⟨g, o + i * 2 + 1, none⟩ = some (.string p.2) ∧ (0 : Int) ≤ (i : Int) ∧ (i : Int) < (kl : Int) ∧ Hid (floorP kv k = some p)) ∨
         (found kv k i = false ∧ ∃ p g o j, a = some ⟨g, o, none⟩ ∧ w1.cell? ⟨g, o + j * 2, none⟩ = some (.string p.1) ∧ w1.cell? ⟨g, o + j * 2 + 1, none⟩ = some (.string p.2) ∧ (0 : Int) < (i : Int) ∧ wrap64 ((i : Int) - 1) = (j : Int) ∧ (0 : Int) ≤ (j : Int) ∧ (j : Int) < (kl : Int) ∧ Hid (floorP kv k = some p)) ∨
         (found kv k i = false ∧ i = 0 ∧ Hid (floorP kv k = none)))) := fun w1 i hi ha hB1 => by
      have hB2 : Below w.heap.size w w1 := bmore HB.out hB1
      have hil : i ≤ kl := by rw [← HKL.out]; exact hi
      refine ⟨Blk.c2 (HBk.out.below hB1), HBk.out.below hB1, hB2, ?_⟩
      cases hf : found kv k i with
      | true =>
        obtain ⟨p, hp, hpk⟩ := is_found hf
        obtain ⟨g, o, e, d0, d1⟩ := EP.cell (HV.out.below hB2) hp
        have hlt : (i : Int) < (kl : Int) := by have := (List.getElem?_eq_some_iff.1 hp).1; rw [HKL.out] at this; omega
        exact .inl ⟨rfl, p, g, o, e, d0, d1, by omega, hlt, floor_found HS.out ha hp hf⟩
      | false =>
        by_cases hi1 : 0 < i
        · obtain ⟨j, rfl⟩ : ∃ j, i = j + 1 := ⟨i - 1, by omega⟩
          obtain ⟨p, hp⟩ : ∃ p, kv[j]? = some p := ⟨_, List.getElem?_eq_getElem (by rw [HKL.out]; omega)⟩
          obtain ⟨g, o, e, d0, d1⟩ := EP.cell (HV.out.below hB2) hp
          refine .inr (.inl ⟨rfl, p, g, o, j, e, d0, d1, by omega, by rw [IntWalk.wrap64_in _ (by omega)]; omega, by omega, by omega, ?_⟩)
          show _ = _
          rw [floor_none HS.out ha hf]
          exact last_take hp
        · obtain rfl : i = 0 := by omega
          refine .inr (.inr ⟨rfl, rfl, ?_⟩)
          show _ = _
          rw [floor_none HS.out ha hf]
          rfl
    clear HV HS HKL
    go_enter Tryd.func30, Tryd.ntmps30
    go_wp2_with (go_at_call 31; (with_reducible refine k48.mono ?_); rintro e w1 ⟨i, hi, ha, rfl, hB1⟩; obtain ⟨⟨e0, e1, f0, f1⟩, HBk1, HB2, hcase⟩ := HC.out w1 i hi ha hB1; clear hi ha hB1 k48; rcases hcase with ⟨hf, p, g, o, rfl, d0, d1, l0, l1, HR⟩ | ⟨hf, p, g, o, j, rfl, d0, d1, l0, l1, l2, l3, HR⟩ | ⟨hf, rfl, HR⟩)
    · refine bodyPost_ret (results_cell2 rfl _ _ _ w.heap.size [.string p.1, .string p.2] 42 (Blk.set (o := 1) (Blk.set (o := 0) HBk1.out _) _) rfl _ Tryd.underlying42 rfl (by kernel_rfl)) rfl ⟨?_, bset (bset HB2.out (Nat.le_refl _) _) (Nat.le_refl _) _⟩
      rw [HR.out]
      rfl
    · refine bodyPost_ret (results_cell2 rfl _ _ _ w.heap.size [.string p.1, .string p.2] 42 (Blk.set (o := 1) (Blk.set (o := 0) HBk1.out _) _) rfl _ Tryd.underlying42 rfl (by kernel_rfl)) rfl ⟨?_, bset (bset HB2.out (Nat.le_refl _) _) (Nat.le_refl _) _⟩
      rw [HR.out]
      rfl
    · refine bodyPost_ret (results_cell2 rfl _ _ _ w.heap.size [.string ⟨#[]⟩, .string ⟨#[]⟩] 42 (Blk.set (o := 1) (Blk.set (o := 0) HBk1.out _) _) rfl _ Tryd.underlying42 rfl (by kernel_rfl)) rfl ⟨?_, bset (bset HB2.out (Nat.le_refl _) _) (Nat.le_refl _) _⟩
      rw [HR.out]
      rfl
  | h + 1, n, w, x, kv, hp, hs, hn => by
    obtain ⟨a, c, ks, rfl, h2, h3, h4, h5, h6⟩ := hp.inner
    subst h5
    have hks : ks.length ≤ (flat ks).length := flat_len fun y hy => h6.pos hy
    generalize hs0 : fst (flat ks) = s at *
    generalize hk0 : (flat ks).length = kl at *
    have hB : Below w.heap.size w ((w.alloc (.cells #[.string ⟨#[]⟩, .string ⟨#[]⟩] 42)).alloc (.cells #[.slice a n c, .string s, .int .i64 (kl : Int)] 63)) := bal (al _ _) _
    have hbr : Blk ((w.alloc (.cells #[.string ⟨#[]⟩, .string ⟨#[]⟩] 42)).alloc (.cells #[.slice a n c, .string s, .int .i64 (kl : Int)] 63)) w.heap.size [.string ⟨#[]⟩, .string ⟨#[]⟩] 42 := (blk_new w [.string ⟨#[]⟩, .string ⟨#[]⟩] 42).below (al _ _)
    have hbn : Blk ((w.alloc (.cells #[.string ⟨#[]⟩, .string ⟨#[]⟩] 42)).alloc (.cells #[.slice a n c, .string s, .int .i64 (kl : Int)] 63)) (w.heap.size + 1) [.slice a n c, .string s, .int .i64 (kl : Int)] 63 := blk_at (w.alloc (.cells #[.string ⟨#[]⟩, .string ⟨#[]⟩] 42)) [.slice a n c, .string s, .int .i64 (kl : Int)] 63 (by simp)
    go_enter Tryd.func30, Tryd.ntmps30
    go_wp2_with fail
    generalize (w.alloc (.cells #[.string ⟨#[]⟩, .string ⟨#[]⟩] 42)).alloc (.cells #[.slice a n c, .string s, .int .i64 (kl : Int)] 63) = W0 at *
    have hD : Below w.heap.size w W0.drew := hB.drew
    have k49 := toward49 (k := k) (s := s) (t := (kl : Int)) (h2.below hD) (h6.below hD) hs (by omega) (by omega)
    obtain ⟨y, ht⟩ := tow_i (k := k) h6 hs (by omega)
    unfold TPost at k49
    generalize towI ks k = i at *
    have hi := (List.getElem?_eq_some_iff.1 ht.at_).1
    obtain ⟨m, q1, q2, q3⟩ := h6 y (List.mem_of_getElem? ht.at_)
    have HK : Hid (∀ W, Below w.heap.size w W → Calls Tryd.prog 30 #[.iface y.1.1 y.1.2, .string k] W (FPost W (floorP (flat ks) k))) := fun W hW => by
      have hyl : y.2.length ≤ (flat ks).length := by rw [flat_cut ht.at_]; simp; omega
      rw [floor_mid ht (h6.pos (List.mem_of_getElem? ht.at_))]
      exact floor36 (q3.below hW) (kid_srt hs (List.mem_of_getElem? ht.at_)) (by omega)
    obtain ⟨g, o, rfl, d0⟩ := EK.cell h2 (i := i) (x := y.1) (by rw [List.getElem?_map, ht.at_]; rfl)
    have l0 : (0 : Int) ≤ (i : Int) := by omega
    have l1 : (i : Int) < (n : Int) := by omega
    have HB : Hid (Below w.heap.size w W0) := hB
    have HR : Hid (Blk W0 w.heap.size [.string ⟨#[]⟩, .string ⟨#[]⟩] 42) := hbr
    have HN : Hid (Blk W0 (w.heap.size + 1) [.slice (some ⟨g, o, none⟩) n c, .string s, .int .i64 (kl : Int)] 63) := hbn
    have HD : Hid (w.cell? ⟨g, o + i, none⟩ = some (.iface y.1.1 y.1.2)) := d0
    obtain ⟨P, hP⟩ : ∃ P, P = floorP (flat ks) k := ⟨_, rfl⟩
    rw [← hP]
    rw [← hP] at HK
    have HSb : Hid (∀ W, Keep (fun b => b = w.heap.size) W0 W → W.cell? ⟨w.heap.size + 1, 0, none⟩ = some (.slice (some ⟨g, o, none⟩) n c) ∧ W.cell? ⟨w.heap.size + 1, 1, none⟩ = some (.string s) ∧ W.cell? ⟨w.heap.size + 1, 2, none⟩ = some (.int .i64 (kl : Int)) ∧ W.cell? ⟨g, o + i, none⟩ = some (.iface y.1.1 y.1.2)) := fun W hW => by
      have hg : g < w.heap.size := World.block_lt_of_cell? w _ HD.out
      refine ⟨(HN.out.keep hW (by omega)).cell 0, (HN.out.keep hW (by omega)).cell 1, (HN.out.keep hW (by omega)).cell 2, ?_⟩
      rw [hW.cell (by have := HB.out.size; omega) (by omega), HB.out.cell (p := ⟨g, o + i, none⟩) hg]
      exact HD.out
    have hS0 := HSb.out W0.drew (Keep.of (Below.refl _ _).drew)
    have HST : Hid (∀ (W : World) (u v : Value), Below W0.heap.size W0 W → ((W.setCell ⟨w.heap.size, 0, none⟩ u).setCell ⟨w.heap.size, 1, none⟩ v).cell? ⟨w.heap.size + 1, 0, none⟩ = some (.slice (some ⟨g, o, none⟩) n c) ∧ ((W.setCell ⟨w.heap.size, 0, none⟩ u).setCell ⟨w.heap.size, 1, none⟩ v).cell? ⟨w.heap.size + 1, 1, none⟩ = some (.string s) ∧ ((W.setCell ⟨w.heap.size, 0, none⟩ u).setCell ⟨w.heap.size, 1, none⟩ v).cell? ⟨w.heap.size + 1, 2, none⟩ = some (.int .i64 (kl : Int)) ∧ ((W.setCell ⟨w.heap.size, 0, none⟩ u).setCell ⟨w.heap.size, 1, none⟩ v).cell? ⟨g, o + i, none⟩ = some (.iface y.1.1 y.1.2)) := fun W u v hW => HSb.out _ (Keep.set (p := ⟨w.heap.size, 1, none⟩) (Keep.set (F := fun b => b = w.heap.size) (p := ⟨w.heap.size, 0, none⟩) (Keep.of hW) (.inr rfl) _) (.inr rfl) _)
    have HP : Hid _ := hP
    clear h2 h3 h6 hp hs hB hbr hbn hD hks hs0 hk0 d0 q3 ht hP
    go_region_held3 (fun W => W.cell? ⟨w.heap.size + 1, 0, none⟩ = some (.slice (some ⟨g, o, none⟩) n c) ∧ W.cell? ⟨w.heap.size + 1, 1, none⟩ = some (.string s) ∧ W.cell? ⟨w.heap.size + 1, 2, none⟩ = some (.int .i64 (kl : Int)) ∧ W.cell? ⟨g, o + i, none⟩ = some (.iface y.1.1 y.1.2)) (first | exact hS0 | exact HSb.out _ (Keep.of HBa.out) | exact HSb.out _ (Keep.of HBb.out) | exact HST.out _ _ _ HBb.out) (first
      | (go_at_call 34; (with_reducible refine k49.mono ?_); rintro e w1 ⟨rfl, hB1⟩; have HBa : Hid (Below W0.heap.size W0 w1) := bmore (Below.refl _ _).drew hB1; have k36 := HK.out w1 (bmore HB.out HBa.out); clear hB1 k49)
      | (go_at_call 30; (with_reducible refine k36.mono ?_); rintro e w2 ⟨rfl, hB2⟩; have HBb : Hid (Below W0.heap.size W0 w2) := bmore HBa.out hB2; obtain ⟨e0, e1, f0, f1⟩ := Blk.c2 (HR.out.below HBb.out); clear hB2 k36))
    go_wp2
    refine bodyPost_ret (results_cell2 rfl _ _ _ w.heap.size [.string (P.getD noP).1, .string (P.getD noP).2] 42 (Blk.set (o := 1) (Blk.set (o := 0) (HR.out.below HBb.out) _) _) rfl _ Tryd.underlying42 rfl (by kernel_rfl)) rfl ⟨by rw [← HP.out]; rfl, bset (bset (bmore HB.out HBb.out) (Nat.le_refl _) _) (Nat.le_refl _) _⟩
end Go.Proofs.YthfkmedpcmiibaaDoor.T
