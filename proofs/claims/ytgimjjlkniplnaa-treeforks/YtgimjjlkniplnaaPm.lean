/- Which kid has a key. -/
import Derived.Test.YtgimjjlkniplnaaPj
import Derived.Test.YtgimjjlkniplnaaPk
namespace Go.Proofs.Ytgimjjlkniplnaa
open Go.RowKit Go.Shelf
set_option maxRecDepth 100000
theorem less_cases : ∀ a b : List UInt8, (Op.bytesLess a b = true ∧ Lib.compareBytes a b = -1) ∨ (Op.bytesLess a b = false ∧ Op.bytesLess b a = true ∧ Lib.compareBytes a b = 1) ∨ (Op.bytesLess a b = false ∧ Op.bytesLess b a = false ∧ Lib.compareBytes a b = 0)
  | [], [] => .inr (.inr ⟨rfl, rfl, rfl⟩)
  | [], _ :: _ => .inl ⟨rfl, rfl⟩
  | _ :: _, [] => .inr (.inl ⟨rfl, rfl, rfl⟩)
  | x :: a, y :: b => by
    have ih := less_cases a b
    by_cases h1 : x < y
    · exact .inl ⟨by simp [Op.bytesLess, h1], by simp [Lib.compareBytes, h1]⟩
    · by_cases h2 : y < x
      · have hne : ¬ (x = y) := fun e => by subst e; exact h1 h2
        exact .inr (.inl ⟨by simp [Op.bytesLess, h1, hne], by simp [Op.bytesLess, h2], by simp [Lib.compareBytes, h1, h2]⟩)
      · obtain rfl : x = y := UInt8.le_antisymm (UInt8.not_lt.1 h2) (UInt8.not_lt.1 h1)
        simpa [Op.bytesLess, Lib.compareBytes, h1] using ih
theorem less_lt (a b : ByteArray) : Op.bytesLess a.toList b.toList = lt a b := by
  have ea : a.toList = bs a := Lib.toList_data a
  have eb : b.toList = bs b := Lib.toList_data b
  rw [ea, eb]
  unfold lt cmpS
  rcases less_cases (bs a) (bs b) with ⟨h1, h2⟩ | ⟨h1, _, h2⟩ | ⟨h1, _, h2⟩ <;> rw [h1, h2] <;> rfl
theorem eq_str (a b : ByteArray) : (a.toList == b.toList) = decide (a = b) := by
  have ea : a.toList = bs a := Lib.toList_data a
  have eb : b.toList = bs b := Lib.toList_data b
  rw [ea, eb, Bool.eq_iff_iff]
  simp only [beq_iff_eq, decide_eq_true_eq]
  exact ⟨bs_inj, fun e => by rw [e]⟩
theorem gtr_lt (a b : ByteArray) : (!Op.bytesLess a.toList b.toList && !a.toList == b.toList) = lt b a := by
  rw [less_lt, eq_str]
  rcases lt_three a b with h | h | h
  · simp [h, lt_not h]
  · subst h; simp [lt_irrefl]
  · simp [h, lt_not h, (lt_ne h).symm]
theorem leq_lt (a b : ByteArray) : (Op.bytesLess a.toList b.toList || a.toList == b.toList) = !lt b a := by
  rw [less_lt, eq_str]
  rcases lt_three a b with h | h | h
  · simp [h, lt_not h]
  · subst h; simp [lt_irrefl]
  · simp [h, lt_not h, (lt_ne h).symm]
/-- The boxes of an inner part and of a key. -/
structure Box (w : World) (b d : Nat) (sl : Value) (s : ByteArray) (t : Int) (k : ByteArray) : Prop where
  n : Blk w b [sl, .string s, .int .i64 t] 72
  k : Blk w d [.string k] 9
theorem Box.below {w w' : World} {b d : Nat} {sl : Value} {s : ByteArray} {t : Int} {k : ByteArray} (h : Box w b d sl s t k) (e : Below w.heap.size w w') : Box w' b d sl s t k := ⟨h.n.below e, h.k.below e⟩
set_option maxHeartbeats 1000000 in
theorem behind61 {w : World} {b d h i m : Nat} {sl : Value} {s k : ByteArray} {t : Int} {L : List Bx} {x : Bx} {kv : List Pr} (hb : Box w b d sl s t k) (hl : LV EK w sl L) (hx : L[i]? = some x) (hp : Part w h m x kv) (h0 : 0 < kv.length) :
    Calls Try.prog 61 #[.int .i64 (i : Int), .pointer (some ⟨b, 0, none⟩), .pointer (some ⟨d, 0, none⟩)] w fun e w' => e = .returned (.bool (lt k (fst kv))) ∧ Below w.heap.size w w' := by
  obtain ⟨a, c, rfl⟩ := hl.form
  obtain ⟨g, o, rfl, d0⟩ := EK.cell hl hx
  have hi1 : (i : Int) < (L.length : Int) := by have := (List.getElem?_eq_some_iff.1 hx).1; omega
  have hi0 : (0 : Int) ≤ (i : Int) := by omega
  have c0 := hb.n.cell 0
  have ck := hb.k.cell 0
  simp only [List.getElem?_cons_zero] at c0 ck
  generalize L.length = n at *
  cases h with
  | zero =>
    obtain ⟨t', y⟩ := x
    obtain ⟨ht', hl2, hn2⟩ := hp
    have ht'' : t' = 64 := ht'
    subst ht''
    have k90 := fun W (hW : Below w.heap.size w W) => first90 (hl2.below hW) h0
    have HKK : Hid (∀ W, Below w.heap.size w W → Calls Try.prog 90 #[y] W fun e w' => e = .returned (.string (fst kv)) ∧ W = w') := k90
    have hm1 := m_first64
    have hS : w.drew.cell? ⟨b, 0, none⟩ = some (.slice (some ⟨g, o, none⟩) n c) ∧ w.drew.cell? ⟨d, 0, none⟩ = some (.string k) ∧ w.drew.cell? ⟨g, o + i, none⟩ = some (.iface 64 y) := ⟨c0, ck, d0⟩
    clear hl hx hb hl2 c0 ck d0 k90
    generalize fst kv = sf at *
    go_enter Try.func61, Try.ntmps61
    go_wp2_with fail
    go_region_held3 (fun W' => W'.cell? ⟨b, 0, none⟩ = some (.slice (some ⟨g, o, none⟩) n c) ∧ W'.cell? ⟨d, 0, none⟩ = some (.string k) ∧ W'.cell? ⟨g, o + i, none⟩ = some (.iface 64 y)) (exact hS) (first | (go_at_call 90; (with_reducible refine (HKK.out _ (Below.refl _ _).drew).mono ?_); rintro e w1 ⟨rfl, rfl⟩))
    go_wp2
    go_ret
    exact ⟨by simp [gtr_lt], (Below.refl _ _).drew⟩
  | succ h =>
    obtain ⟨sl2, ks2, rfl, h2, h3, h4, h5, h6⟩ := hp
    obtain ⟨b2, c2, rfl⟩ := h2.form
    have k93 := fun W => first93 b2 (ks2.map (·.1)).length c2 (fst kv) (kv.length : Int) W
    have hm1 := m_first72
    have hS : w.drew.cell? ⟨b, 0, none⟩ = some (.slice (some ⟨g, o, none⟩) n c) ∧ w.drew.cell? ⟨d, 0, none⟩ = some (.string k) ∧ w.drew.cell? ⟨g, o + i, none⟩ = some (.iface 72 (.agg #[.slice b2 (ks2.map (·.1)).length c2, .string (fst kv), .int .i64 (kv.length : Int)])) := ⟨c0, ck, d0⟩
    have HBb := hb
    have HD0 : Hid (w.cell? ⟨g, o + i, none⟩ = some (.iface 72 (.agg #[.slice b2 (ks2.map (·.1)).length c2, .string (fst kv), .int .i64 (kv.length : Int)]))) := d0
    have HS : Hid (∀ W, Below w.drew.heap.size w.drew W → W.cell? ⟨b, 0, none⟩ = some (.slice (some ⟨g, o, none⟩) n c) ∧ W.cell? ⟨d, 0, none⟩ = some (.string k) ∧ W.cell? ⟨g, o + i, none⟩ = some (.iface 72 (.agg #[.slice b2 (ks2.map (·.1)).length c2, .string (fst kv), .int .i64 (kv.length : Int)]))) := fun W hW => by
      have hW' : Below w.heap.size w W := bmore (Below.refl _ _).drew hW
      exact ⟨(hb.n.below hW').cell 0, (hb.k.below hW').cell 0, (hW'.cell (p := ⟨g, o + i, none⟩) (World.block_lt_of_cell? w _ HD0.out)).trans HD0.out⟩
    clear hl hx hb c0 ck d0 h5 h6 h2 HBb HD0
    generalize (ks2.map (·.1)).length = n2 at *
    generalize fst kv = sf at *
    generalize kv.length = kl at *
    go_enter Try.func61, Try.ntmps61
    go_wp2_with fail
    go_region_held3 (fun W' => W'.cell? ⟨b, 0, none⟩ = some (.slice (some ⟨g, o, none⟩) n c) ∧ W'.cell? ⟨d, 0, none⟩ = some (.string k) ∧ W'.cell? ⟨g, o + i, none⟩ = some (.iface 72 (.agg #[.slice b2 n2 c2, .string sf, .int .i64 (kl : Int)]))) (first | exact hS | exact HS.out _ hB1) (first | (go_at_call 93; (with_reducible refine (k93 _).mono ?_); rintro e w1 ⟨rfl, hB1⟩))
    go_wp2
    go_ret
    exact ⟨by simp [gtr_lt], bmore (Below.refl _ _).drew hB1⟩
theorem flat_pair {ks : List Kd} (hs : Srt (flat ks)) {t u : Nat} {x y : Kd} (hx : ks[t]? = some x) (hy : ks[u]? = some y) (htu : t < u) {p q : Pr} (hp : p ∈ x.2) (hq : q ∈ y.2) : lt p.1 q.1 = true := by
  have h := (List.pairwise_flatten.1 hs).2
  obtain ⟨h1, rfl⟩ := List.getElem?_eq_some_iff.1 hx
  obtain ⟨h2, rfl⟩ := List.getElem?_eq_some_iff.1 hy
  have := List.pairwise_iff_getElem.1 h t u (by simpa using h1) (by simpa using h2) htu
  simp only [List.getElem_map] at this
  exact this p hp q hq
theorem fst_mem {kv : List Pr} (h : 0 < kv.length) : ∃ p ∈ kv, p.1 = fst kv := by
  cases kv with
  | nil => simp at h
  | cons a l => exact ⟨a, by simp, rfl⟩
theorem fst_le {kv : List Pr} (hs : Srt kv) {p : Pr} (hp : p ∈ kv) : lt p.1 (fst kv) = false := by
  cases kv with
  | nil => cases hp
  | cons a l =>
    show lt p.1 a.1 = false
    rcases List.mem_cons.1 hp with rfl | hp
    · exact lt_irrefl _
    · exact lt_not ((List.pairwise_cons.1 hs).1 p hp)
theorem kid_srt {ks : List Kd} (hs : Srt (flat ks)) {x : Kd} (hx : x ∈ ks) : Srt x.2 := (List.pairwise_flatten.1 hs).1 x.2 (List.mem_map_of_mem hx)
theorem Kids.pos {w : World} {h : Nat} {ks : List Kd} (k : Kids w h ks) {x : Kd} (hx : x ∈ ks) : 0 < x.2.length := by
  obtain ⟨m, h1, _, h3⟩ := k x hx
  have := h3.len
  omega
/-- Behind which kid a key comes. -/
def Behind (ks : List Kd) (k : ByteArray) (i : Nat) : Prop := ∀ (t : Nat) (x : Kd), ks[t]? = some x → (lt k (fst x.2) = true ↔ i ≤ t)
def IPost (w : World) (n : Nat) (R : Nat → Prop) (e : Ending) (w' : World) : Prop := ∃ i : Nat, i ≤ n ∧ R i ∧ e = .returned (.int .i64 (i : Int)) ∧ Below w.heap.size w w'
set_option maxHeartbeats 1000000 in
theorem search60 {w : World} {b d h : Nat} {sl : Value} {s k : ByteArray} {t : Int} {ks : List Kd} (hb : Box w b d sl s t k) (hl : LV EK w sl (ks.map (·.1))) (hk : Kids w h ks) (hs : Srt (flat ks)) (hn : ks.length ≤ 1000) :
    Calls Try.prog 60 #[.int .i64 (ks.length : Int), .func (.func 61) #[] #[.pointer (some ⟨b, 0, none⟩), .pointer (some ⟨d, 0, none⟩)]] w (IPost w ks.length (Behind ks k)) := by
  have HK : Hid (∀ (W : World) (i : Nat) (x : Kd), Below w.heap.size w W → ks[i]? = some x → Calls Try.prog 61 #[.int .i64 (i : Int), .pointer (some ⟨b, 0, none⟩), .pointer (some ⟨d, 0, none⟩)] W fun e w' => e = .returned (.bool (lt k (fst x.2))) ∧ Below W.heap.size W w') := fun W i x hW hx => by
    obtain ⟨m, h1, h2, h3⟩ := hk x (List.mem_of_getElem? hx)
    exact behind61 (hb.below hW) (hl.below hW) (by rw [List.getElem?_map, hx]; rfl) (h3.below hW) (by have := h3.len; omega)
  have HMono : Hid (∀ (t u : Nat) (x y : Kd), ks[t]? = some x → ks[u]? = some y → t < u → lt (fst x.2) (fst y.2) = true) := fun t u x y hx hy htu => by
    obtain ⟨p, hp, e1⟩ := fst_mem (hk.pos (List.mem_of_getElem? hx))
    obtain ⟨q, hq, e2⟩ := fst_mem (hk.pos (List.mem_of_getElem? hy))
    rw [← e1, ← e2]
    exact flat_pair hs hx hy htu hp hq
  generalize hN : ks.length = n at *
  have HN : Hid (ks.length = n) := hN
  clear hb hl hk hs hN
  go_enter Try.func60, Try.ntmps60
  go_wp2_with fail
  go_loopw [5, 6] (fun fi fj wr => ∃ (i j : Nat), fi = .int .i64 (i : Int) ∧ fj = .int .i64 (j : Int) ∧ Hid (i ≤ j) ∧ Hid (j ≤ n) ∧ Hid (∀ t x, ks[t]? = some x → t < i → lt k (fst x.2) = false) ∧ Hid (∀ t x, ks[t]? = some x → j ≤ t → lt k (fst x.2) = true) ∧ Hid (Below w.heap.size w wr)) (fun fi fj _ => (intOf fj - intOf fi).toNat)
  case atStart => exact ⟨0, n, rfl, rfl, Nat.zero_le _, Nat.le_refl _, (fun t p _ h => by omega), (fun t p h1 h2 => by have := (List.getElem?_eq_some_iff.1 h1).1; rw [HN.out] at this; omega), Below.refl _ _⟩
  case round =>
    obtain ⟨i, j, rfl, rfl, hij, hjn, hlo, hge, hB⟩ := hrel
    have hij' := hij.out
    have hjn' := hjn.out
    by_cases hlt : i < j
    · have hli : (i : Int) < (j : Int) := by omega
      obtain ⟨m, hm⟩ : ∃ m, m = (i + j) / 2 := ⟨_, rfl⟩
      have hwa : wrap64 ((i : Int) + (j : Int)) = (i : Int) + (j : Int) := IntWalk.wrap64_in _ (by omega)
      have hwb : IntKind.u64.wrap ((i : Int) + (j : Int)) = (i : Int) + (j : Int) := u64_in _ (by omega) (by omega)
      have hwc : ((i : Int) + (j : Int)) / 2 = (m : Int) := by omega
      have hwd : wrap64 (m : Int) = (m : Int) := IntWalk.wrap64_in _ (by omega)
      have hwe : wrap64 ((m : Int) + 1) = (m : Int) + 1 := IntWalk.wrap64_in _ (by omega)
      have him : Hid (i ≤ m) := by show _ ≤ _; omega
      have hmj : Hid (m < j) := by show _ < _; omega
      obtain ⟨x, hx⟩ : ∃ x, ks[m]? = some x := ⟨_, List.getElem?_eq_getElem (by rw [HN.out]; omega)⟩
      have k61 := HK.out wr m x hB.out hx
      have HX : Hid (ks[m]? = some x) := hx
      clear hx hm
      cases hz : lt k (fst x.2) with
      | false =>
        rw [hz] at k61
        have HZ : Hid (lt k (fst x.2) = false) := hz
        clear hz
        go_wp2_with (go_at_call 61; (with_reducible refine k61.mono ?_); rintro e w1 ⟨rfl, hB1⟩)
        go_roundw
        case rel =>
          refine ⟨m + 1, j, by simp, rfl, hmj.out, hjn.out, ?_, hge.out, bmore hB.out hB1⟩
          intro t y ht hlt'
          by_cases htm : t = m
          · subst htm; rw [HX.out] at ht; cases ht; exact HZ.out
          · cases hq : lt k (fst y.2)
            · rfl
            · have := lt_trans hq (HMono.out t m y x ht HX.out (by omega))
              rw [HZ.out] at this; cases this
        case measure => simp only [intOf]; have := hmj.out; have := him.out; omega
      | true =>
        rw [hz] at k61
        have HZ : Hid (lt k (fst x.2) = true) := hz
        clear hz
        go_wp2_with (go_at_call 61; (with_reducible refine k61.mono ?_); rintro e w1 ⟨rfl, hB1⟩)
        go_roundw
        case rel =>
          refine ⟨i, m, rfl, rfl, him.out, by show _ ≤ _; have := hmj.out; omega, hlo.out, ?_, bmore hB.out hB1⟩
          intro t y ht hlt'
          by_cases htm : t = m
          · subst htm; rw [HX.out] at ht; cases ht; exact HZ.out
          · exact lt_trans HZ.out (HMono.out m t x y HX.out ht (by omega))
        case measure => simp only [intOf]; have := hmj.out; have := him.out; omega
    · have hli : ¬ (i : Int) < (j : Int) := by omega
      obtain rfl : i = j := by omega
      have HAt : Hid (Behind ks k i) := fun t x ht => by
        refine ⟨fun hl => ?_, fun hti => hge.out t x ht hti⟩
        by_cases hti : i ≤ t
        · exact hti
        · rw [hlo.out t x ht (by omega)] at hl
          cases hl
      go_wp2
      go_ret
      exact ⟨i, hjn.out, HAt.out, rfl, hB.out⟩
end Go.Proofs.Ytgimjjlkniplnaa
