/- The document's Oldest, Writes, last, Test; SameTexts. -/
import Derived.Test.YtjgdcdeekpeenaaRc
namespace Go.Proofs.Ytjgdcdeekpeenaa
open Go.RowKit Go.Shelf
set_option maxRecDepth 100000
/-- The least of some instants. -/
def oldR (R : Rf) : Nat → Int × Bool
  | 0 => (0, false)
  | n + 1 => if (R.l n).op = true then (if (oldR R n).2 = false ∨ (R.l n).since < (oldR R n).1 then ((R.l n).since, true) else oldR R n) else oldR R n
theorem errR_at {R : Rf} {i : Nat} (hi : i < 4) : errR R (i : Int) = if (R.l i).op = true then 0 else 7 := by
  have h1 : ¬ ((i : Int) < 0 ∨ 4 ≤ (i : Int)) := by omega
  simp [errR, h1]
set_option maxHeartbeats 1000000 in
theorem roldest34 {w : World} {r : Nat} {K : Nat → Value} {D : Value} {R : Rf} (h : RM w r K D R) : Calls Try.prog 34 #[.pointer (some ⟨r, 0, none⟩)] w fun e w' => e = .returned (.tuple #[.int .i64 (oldR R 4).1, .bool (oldR R 4).2]) ∧ Below w.heap.size w w' := by
  have HM : Hid (∀ W, Below w.heap.size w W → RM W r K D R) := fun W q => h.below q
  clear h
  go_enter Try.func34, Try.ntmps34
  go_wp2_with fail
  go_loopw [4, 5, 6] (fun f4 f5 f6 wr => ∃ k : Nat, f4 = .int .i64 (oldR R k).1 ∧ f5 = .bool (oldR R k).2 ∧ f6 = .int .i64 (k : Int) ∧ Hid (k ≤ 4) ∧ Hid (Below w.heap.size w wr)) (fun _ _ f6 _ => ((4 : Int) - intOf f6).toNat)
  case atStart => exact ⟨0, rfl, rfl, rfl, by show _ ≤ _; omega, Below.refl _ _⟩
  case round =>
    obtain ⟨k, rfl, rfl, rfl, hk, hB⟩ := hrel
    by_cases hk4 : k < 4
    · have b1 : (k : Int) < 4 := by omega
      have k29 := rsince29 (HM.out _ hB.out) (k : Int)
      have ee := errR_at (R := R) hk4
      cases hs : (R.l k).op with
      | false =>
        rw [hs] at ee
        have e0 : errR R (k : Int) = 7 := ee
        rw [show sinceR R (k : Int) = 0 by simp [sinceR, e0], e0] at k29
        have HE : Hid (oldR R (k + 1) = oldR R k) := by show _ = _; simp [oldR, hs]
        clear hs ee e0
        go_wp2_with (go_at_call 29; (with_reducible refine k29.mono ?_); rintro e w1 ⟨rfl, hB1⟩)
        go_roundw
        case rel => exact ⟨k + 1, by rw [HE.out], by rw [HE.out], by simp, by show _ ≤ _; omega, bmore hB.out hB1⟩
        case measure => simp only [intOf]; omega
      | true =>
        rw [hs] at ee
        have e0 : errR R (k : Int) = 0 := ee
        rw [show sinceR R (k : Int) = (R.l k).since by simp [sinceR, e0], e0] at k29
        obtain ⟨sc, hsc⟩ : ∃ sc, (R.l k).since = sc := ⟨_, rfl⟩
        rw [hsc] at k29
        by_cases hc : (oldR R k).2 = false ∨ sc < (oldR R k).1
        · have HE : Hid (oldR R (k + 1) = (sc, true)) := by show _ = _; rw [oldR, hs, hsc]; simp only [if_true, if_pos hc]
          clear hs ee e0 hsc
          obtain ⟨p, hp⟩ : ∃ p, (oldR R k).1 = p := ⟨_, rfl⟩
          rw [hp] at hc ⊢
          cases hq : (oldR R k).2
          · go_wp2_with (go_at_call 29; (with_reducible refine k29.mono ?_); rintro e w1 ⟨rfl, hB1⟩)
            go_roundw
            case rel => exact ⟨k + 1, by rw [HE.out], by rw [HE.out], by simp, by show _ ≤ _; omega, bmore hB.out hB1⟩
            case measure => simp only [intOf]; omega
          · rw [hq] at hc
            have hc' : sc < p := by rcases hc with h | h; cases h; exact h
            have hd : decide (sc < p) = true := decide_eq_true hc'
            go_wp2_with (go_at_call 29; (with_reducible refine k29.mono ?_); rintro e w1 ⟨rfl, hB1⟩)
            go_roundw
            case rel => exact ⟨k + 1, by rw [HE.out], by rw [HE.out], by simp, by show _ ≤ _; omega, bmore hB.out hB1⟩
            case measure => simp only [intOf]; omega
        · have HE : Hid (oldR R (k + 1) = oldR R k) := by show _ = _; rw [oldR, hs, hsc]; simp only [if_true, if_neg hc]
          clear hs ee e0 hsc
          obtain ⟨p, hp⟩ : ∃ p, (oldR R k).1 = p := ⟨_, rfl⟩
          have HP : Hid ((oldR R k).1 = p) := hp
          rw [hp] at hc ⊢
          clear hp
          cases hq : (oldR R k).2
          · exact absurd (.inl hq) hc
          · have hc' : ¬ sc < p := fun h => hc (.inr h)
            have hd : decide (sc < p) = false := decide_eq_false hc'
            have HQ : Hid ((oldR R k).2 = true) := hq
            clear hq hc
            go_wp2_with (go_at_call 29; (with_reducible refine k29.mono ?_); rintro e w1 ⟨rfl, hB1⟩)
            go_roundw
            case rel => exact ⟨k + 1, by rw [HE.out, HP.out], by rw [HE.out, HQ.out], by simp, by show _ ≤ _; omega, bmore hB.out hB1⟩
            case measure => simp only [intOf]; omega
    · have b1 : ¬ (k : Int) < 4 := by omega
      have hk' : k = 4 := by have := hk.out; omega
      subst hk'
      go_wp2_with fail
      exact bodyPost_ret (v := .tuple #[.int .i64 (oldR R 4).1, .bool (oldR R 4).2]) (by simp [results, Try.results34, go_sem]) rfl ⟨rfl, hB.out⟩
theorem rwrites33_no {w : World} {r : Nat} {K : Nat → Value} {D : Value} {R : Rf} (h : RM w r K D R) (id : Int) (hn : errR R id ≠ 0) : Calls Try.prog 33 #[.pointer (some ⟨r, 0, none⟩), .int .i64 id] w (WPost w []) := by
  have k := ropen30 h id
  rw [decide_eq_false hn] at k
  clear h
  go_enter Try.func33, Try.ntmps33
  go_wp2_with (go_at_call 30; (with_reducible refine k.mono ?_); rintro e w1 ⟨rfl, hB⟩)
  go_ret
  exact ⟨_, rfl, LV.nil ET _ none 0, hB⟩
theorem wpList_append_run {P : Program} {w : World} {ops : Array Oper} {rest : List Oper} {o : Oper} {a : Act} {Q : Exit → Act → World → Prop} (hg : o.guard = none) (s x : Operand) (t : TypeId)
    (ho : o.op = .call { callee := .builtin .append, args := #[s, x], argTypes := #[t, t] }) (v y : Value) (hs : a.eval s = v) (hx : a.eval x = y) (u : Value) (w' : World) (hrun : (Builtin.append_ #[t, t] o.type #[v, y]).run P w = .ok u w')
    (h : wpList P ops Q rest (a.put o.dst u) w') : wpList P ops Q (o :: rest) a w := by
  refine wpList_plain hg fun K hK => ?_
  unfold Oper.wp execOp
  simp only [ho, resolve, invoke, builtin, Sem.run_bind, Sem.run_pure, Result.andThen_ok, List.map_toArray, List.map_cons, List.map_nil, hs, hx, hrun]
  exact hK _ _ h
set_option maxHeartbeats 1000000 in
theorem rwrites33_yes {w : World} {r : Nat} {K : Nat → Value} {D : Value} {R : Rf} (h : RM w r K D R) {i : Nat} (hi : i < 4) (ho : (R.l i).op = true) (hl : (R.l i).keys.length ≤ 1000) : Calls Try.prog 33 #[.pointer (some ⟨r, 0, none⟩), .int .i64 (i : Int)] w (WPost w (R.l i).keys) := by
  have k := ropen30 h (i : Int)
  rw [errR_at hi, ho] at k
  have HC : Hid (∀ W, Below w.heap.size w W → (W.alloc (.cells #[] 9)).cell? ⟨r, 2 + i * 3 + 2, none⟩ = some (K i) ∧ ∃ u w', (Builtin.append_ #[43, 43] 43 #[.slice (some ⟨W.heap.size, 0, none⟩) 0 0, K i]).run Try.prog (W.alloc (.cells #[] 9)) = .ok u w' ∧ Hid (LV ET w' u (R.l i).keys) ∧ Hid (Below W.heap.size W w')) := fun W b => by
    have hA := al W (.cells #[] 9)
    have hU : RU ET W.heap.size (W.alloc (.cells #[] 9)) (.slice (some ⟨W.heap.size, 0, none⟩) 0 0) [] := .inl ⟨rfl, _, rfl, Nat.le_refl _, by simp⟩
    obtain ⟨u, w', h1, h2, h3⟩ := run_app hU (((h.below b).below hA).keys i hi) (by simp; omega) hA.size
    refine ⟨?_, u, w', h1, ?_, hA.trans (grown_below hU h3 hA.size)⟩
    · exact (((h.below b).below hA).at hi).2.2
    · have := h2.read
      rw [List.nil_append] at this
      exact this
  have h1 : (0 : Int) ≤ (i : Int) := by omega
  have h2 : (i : Int) < 4 := by omega
  obtain ⟨pk, ck, hpk⟩ := (h.keys i hi).form
  rw [hpk] at HC
  clear h
  generalize (R.l i).keys.length = nk at *
  go_enter Try.func33, Try.ntmps33
  go_wp2_with (first
    | (go_at_call 30; (with_reducible refine k.mono ?_); rintro e w1 ⟨rfl, hB1⟩; obtain ⟨c2, u, w3, hrun, hv, hB3⟩ := HC.out _ hB1)
    | (at_builtin; refine wpList_append_run rfl (.tmp 9) (.tmp 16) 43 rfl _ _ rfl rfl _ _ hrun ?_))
  go_ret
  exact ⟨_, rfl, hv.out, bmore hB1 hB3.out⟩
/-- The instant of a key's last commit, by the document. -/
def lastD (d : List (ByteArray × Int)) (x : ByteArray) : Int := d.foldl (fun a e => if e.1 = x then e.2 else a) (-1)
theorem lastD_take {d : List (ByteArray × Int)} {k : Nat} {e : ByteArray × Int} (h : d[k]? = some e) (x : ByteArray) : lastD (d.take (k + 1)) x = if e.1 = x then e.2 else lastD (d.take k) x := by
  unfold lastD
  rw [List.take_add_one, h, List.foldl_append]
  rfl
theorem ne_list {a b : ByteArray} (h : a ≠ b) : (a.toList == b.toList) = false := by
  rw [beq_eq_false_iff_ne, Lib.toList_data, Lib.toList_data]
  intro e
  exact h (ByteArray.ext (Array.toList_inj.1 e))
set_option maxHeartbeats 1000000 in
theorem last49 {w : World} {r : Nat} {K : Nat → Value} {D : Value} {R : Rf} (h : RM w r K D R) (hl : R.done.length ≤ 100000) (x : ByteArray) : Calls Try.prog 49 #[.pointer (some ⟨r, 0, none⟩), .string x] w fun e w' => e = .returned (.int .i64 (lastD R.done x)) ∧ Below w.heap.size w w' := by
  obtain ⟨pd, cd, rfl⟩ := h.done.form
  have HM : Hid (∀ W, Below w.heap.size w W → W.cell? ⟨r, 14, none⟩ = some (.slice pd R.done.length cd) ∧ ∀ (i : Nat) (e : ByteArray × Int), R.done[i]? = some e → ∃ g o, pd = some ⟨g, o, none⟩ ∧ W.cell? ⟨g, o + i * 2, none⟩ = some (.string e.1) ∧ W.cell? ⟨g, o + i * 2 + 1, none⟩ = some (.int .i64 e.2)) := fun W q => by
    refine ⟨(h.below q).blk.cell 14, fun i e he => ?_⟩
    obtain ⟨g, o, h1, h2⟩ := (h.below q).done.at he
    exact ⟨g, o, h1, h2 0 (by decide), h2 1 (by decide)⟩
  obtain ⟨N, hN⟩ : ∃ N, R.done.length = N := ⟨_, rfl⟩
  have HN : Hid (R.done.length = N) := hN
  rw [hN] at HM hl
  clear h hN
  go_enter Try.func49, Try.ntmps49
  go_wp2_with fail
  go_loopw [5, 6] (fun f5 f6 wr => ∃ k : Nat, f5 = .int .i64 (lastD (R.done.take k) x) ∧ f6 = .int .i64 (k : Int) ∧ Hid (k ≤ N) ∧ Hid (Below w.heap.size w wr)) (fun _ f6 _ => ((N : Int) - intOf f6).toNat)
  case atStart => exact ⟨0, rfl, rfl, Nat.zero_le _, Below.refl _ _⟩
  case round =>
    obtain ⟨k, rfl, rfl, hk, hB⟩ := hrel
    obtain ⟨c14, hat⟩ := HM.out _ hB.out
    by_cases hkN : k < N
    · have b1 : (k : Int) < (N : Int) := by omega
      have b2 : (0 : Int) ≤ (k : Int) := by omega
      obtain ⟨e, he⟩ : ∃ e, R.done[k]? = some e := ⟨_, List.getElem?_eq_getElem (by rw [HN.out]; exact hkN)⟩
      obtain ⟨g, o, rfl, a1, a2⟩ := hat k e he
      have HT := lastD_take he x
      obtain ⟨ek, ev⟩ := e
      simp only at a1 a2 HT
      clear hat he
      by_cases c : ek = x
      · rw [if_pos c] at HT
        have HT' : Hid _ := HT
        subst c
        clear HT
        generalize lastD (R.done.take k) ek = lv at *
        go_wp2_with fail
        go_roundw
        case rel => exact ⟨k + 1, by rw [HT'.out], by simp, by show _ ≤ _; omega, hB.out⟩
        case measure => simp only [intOf]; omega
      · rw [if_neg c] at HT
        have HT' : Hid _ := HT
        clear HT
        have hne := ne_list c
        generalize hlv : lastD (R.done.take k) x = lv at *
        clear hlv
        go_wp2_with fail
        go_roundw
        case rel => exact ⟨k + 1, by rw [HT'.out], by simp, by show _ ≤ _; omega, hB.out⟩
        case measure => simp only [intOf]; omega
    · have b1 : ¬ (k : Int) < (N : Int) := by omega
      have HE : Hid (lastD (R.done.take k) x = lastD R.done x) := by show _ = _; rw [List.take_of_length_le (by rw [HN.out]; omega)]
      clear hat
      go_wp2_with fail
      go_ret
      exact ⟨by rw [← HE.out]; rfl, hB.out⟩
end Go.Proofs.Ytjgdcdeekpeenaa
