/- A catalog: Children, Tables. -/
import Derived.Test.YtkoagjfbhkhfkaaDoorCn
import Derived.Test.YtkoagjfbhkhfkaaDoorRt
namespace Go.Proofs.YtkoagjfbhkhfkaaDoor
open Go.RowKit Go.Lib
set_option maxRecDepth 100000
variable {w w' : World} {c m : Nat} {nv : Value} {E : List En}
theorem Cat.look1 (h : Cat w c m nv E) (s : ByteArray) (hs : s.size ≤ maxLen) :
    (Instr.lookup 59 (.map (some m)) (.string s) false).run Tryd.prog w = .ok (((fnd E (bs s)).map tv).getD TB0) w := by
  have hkey : keyOf Tryd.prog 9 (.string s) = some (.string (bs s)) := WideMaps.keyOf_string_mk Tryd.underlying9 hs
  obtain ⟨v, ps, h1, h2⟩ := h.map.lookup keyed9 Tryd.underlying59 (zero32 w) (show heldR TB0 = some (.held TB0, []) from rfl) hkey
  rw [atKey_DT] at h2
  have : v = ((fnd E (bs s)).map tv).getD TB0 := by
    simp only [heldR, Option.some.injEq, Prod.mk.injEq] at h2
    cases hf : fnd E (bs s) with
    | none => rw [hf] at h2; have := h2.1; simp at this; simpa using this
    | some x => rw [hf] at h2; have := h2.1; simp at this; simpa using this
  rw [← this]
  exact h1
theorem fnd_self : ∀ {E : List En}, (E.map (·.1.n)).Nodup → ∀ x ∈ E, fnd E x.1.n = some x
  | [], _, x, hx => by simp at hx
  | y :: E, h, x, hx => by
    rw [List.map_cons, List.nodup_cons] at h
    rcases List.mem_cons.1 hx with rfl | hx
    · simp [fnd]
    · have hne : ¬ y.1.n = x.1.n := fun e => h.1 (List.mem_map.2 ⟨x, hx, e.symm⟩)
      have := fnd_self h.2 x hx
      simp only [fnd] at this ⊢
      simp [hne, this]
theorem Cat.nameAt (h : Cat w c m nv E) {i : Nat} {x : En} (hx : E.reverse[i]? = some x) : ∃ gn cap, nv = .slice (some ⟨gn, 0, none⟩) E.length cap ∧ gn < w.heap.size ∧ w.cell? ⟨gn, i, none⟩ = some (.string (str x.1.n)) := by
  have hi := (List.getElem?_eq_some_iff.1 hx).1
  rw [List.length_reverse] at hi
  rcases h.names.2 with ⟨_, h0⟩ | ⟨g, cap, cur, rfl, _, h4, h5, h6, h7, h8⟩
  · omega
  · refine ⟨g, cap, rfl, (Array.getElem?_eq_some_iff.1 h4).1, ?_⟩
    have hv : (namesV E)[i]? = some (.string (str x.1.n)) := by
      rw [namesV, List.getElem?_map, hx]; rfl
    rw [← h8, List.getElem?_take, if_pos (by omega)] at hv
    simpa [World.cell?, h4] using hv
theorem ownsRow_zero {B : Nat} {e : TypeId} {sz n : Nat} {v : Value} {xs : List Value} (h : w.ownsRow B e sz v n xs) : w.ownsRow 0 e sz v n xs := ⟨h.1, h.2.imp id fun ⟨g, cap, cur, q1, _, q3⟩ => ⟨g, cap, cur, q1, Nat.zero_le _, q3⟩⟩
theorem ownsRow_below {B : Nat} {e : TypeId} {sz n : Nat} {v : Value} {xs : List Value} (h : w.ownsRow B e sz v n xs) (hb : Below w.heap.size w w') : w'.ownsRow B e sz v n xs := ⟨h.1, h.2.imp id fun ⟨g, cap, cur, q1, q2, q3, q4⟩ => ⟨g, cap, cur, q1, q2, (hb.block g (Array.getElem?_eq_some_iff.1 q3).1).trans q3, q4⟩⟩
theorem ownsRow_ge {B : Nat} {e : TypeId} {sz n : Nat} {v : Value} {xs : List Value} (h : w.ownsRow B e sz v n xs) {k : Nat} (hk : v.ownBlock = some k) : B ≤ k ∧ k < w.heap.size := by
  rcases h.2 with ⟨rfl, _⟩ | ⟨g, cap, cur, rfl, q2, q3, _⟩
  · cases hk
  · cases hk; exact ⟨q2, (Array.getElem?_eq_some_iff.1 q3).1⟩
theorem field_p (a b : ByteArray) (v : Value) (q : Int) (w : World) : (Instr.field 32 (TB a v b q) 2).run Tryd.prog w = .ok (.string b) w := by
  simp [Instr.field, run_underlying Tryd.underlying32, asAgg, part]
/-- Who refers to a table, in order. -/
def chB (E : List En) (s : Bs) : List En := E.reverse.filter (fun x => x.1.p == s)
def stV (l : List En) : List Value := l.map fun x => Value.string (str x.1.n)
def CPost (w : World) (l : List En) (e : Ending) (w' : World) : Prop := (∃ va vc, e = .returned (.slice va l.length vc) ∧ w'.ownsRow w.heap.size 9 1 (.slice va l.length vc) l.length (stV l)) ∧ Below w.heap.size w w'
set_option maxHeartbeats 2000000 in
theorem children24 (h : Cat w c m nv E) (hnd : (E.map (·.1.n)).Nodup) (s : ByteArray) (hs : bs s ≠ []) :
    Calls Tryd.prog 24 #[.pointer (some ⟨c, 0, none⟩), .string s] w (CPost w (chB E (bs s))) := by
  have hem : s.toList.isEmpty = false := by
    rw [toList_data]
    cases hb : bs s with
    | nil => exact absurd hb hs
    | cons x t => rw [show s.data.toList = x :: t from hb]; rfl
  have hfew := h.few
  have e1 := h.blk.here (j := 1) rfl
  obtain ⟨na, ncap, rfl⟩ := names_form h
  obtain ⟨N, hN⟩ : ∃ N, E.length = N := ⟨_, rfl⟩
  have HNN : Hid (E.length = N) := hN
  have HC : Hid (∀ w1, Below w.heap.size w w1 → Cat w1 c m (.slice na E.length ncap) E) := fun w1 h1 => h.below h1
  obtain ⟨i9, hi9, hzz⟩ := Option.map_eq_some_iff.1 info9
  simp only [Prod.mk.injEq] at hzz
  obtain ⟨hz9, hs9, hb9⟩ := hzz
  rw [hN] at e1 hfew
  have hfd := field_p
  clear hN hs
  go_enter Tryd.func24, Tryd.ntmps24
  go_wp2
  go_loopw [5, 19] (fun v q wr => ∃ k : Nat, k ≤ N ∧ q = .int .i64 (k : Int) ∧ (∃ va vn vc, v = .slice va vn vc ∧ Hid (vn = ((E.reverse.take k).filter (fun x => x.1.p == bs s)).length)) ∧ Hid (wr.ownsRow w.heap.size 9 1 v ((E.reverse.take k).filter (fun x => x.1.p == bs s)).length (stV ((E.reverse.take k).filter (fun x => x.1.p == bs s))) ∧ Below w.heap.size w wr)) (fun _ q _ => N - (RowKit.intOf q).toNat)
  case atStart => exact ⟨0, by omega, rfl, ⟨_, _, _, rfl, rfl⟩, ⟨⟨rfl, .inl ⟨rfl, rfl⟩⟩, Below.refl _ _⟩⟩
  case round =>
    obtain ⟨k, hk, rfl, ⟨va, vn, vc, rfl, HVN⟩, HO⟩ := hrel
    obtain ⟨hown, hB⟩ := HO.out
    by_cases hlt : k < N
    · have hlt1 : (k : Int) < (N : Int) := by omega
      have hlt0 : (0 : Int) ≤ (k : Int) := by omega
      obtain ⟨x, hx⟩ : ∃ x, E.reverse[k]? = some x := ⟨_, List.getElem?_eq_getElem (by rw [List.length_reverse, HNN.out]; exact hlt)⟩
      have hxm : x ∈ E := List.mem_reverse.1 (List.mem_of_getElem? hx)
      obtain ⟨gn, cap, he, hgn, hcn⟩ := (HC.out wr hB).nameAt hx
      simp only [Value.slice.injEq] at he
      obtain ⟨rfl, _, rfl⟩ := he
      have hxs : (str x.1.n).size ≤ maxLen := by
        have h5 := rtB_name (h.ok x hxm)
        rw [str_size]; unfold maxLen; omega
      have hlk := (HC.out wr hB).look1 (str x.1.n) hxs
      rw [bs_str, fnd_self hnd x hxm] at hlk
      simp only [Option.map_some, Option.getD_some, tv] at hlk
      have c0 := (HC.out wr hB).blk.here (j := 0) rfl
      have htk : E.reverse.take (k + 1) = E.reverse.take k ++ [x] := by
        have hk' := List.getElem?_eq_some_iff.1 hx
        rw [List.take_succ_eq_append_getElem hk'.1, hk'.2]
      have HT : Hid (E.reverse.take (k + 1) = E.reverse.take k ++ [x]) := htk
      clear htk
      by_cases hp : x.1.p = bs s
      · have hps : str x.1.p = s := by rw [hp, str_bs]
        rw [hps] at hlk
        have HP : Hid (x.1.p = bs s) := hp
        have hlen : ((E.reverse.take k).filter (fun x => x.1.p == bs s)).length ≤ 3 := by
          have h1 := List.length_filter_le (fun x : En => x.1.p == bs s) (E.reverse.take k)
          rw [List.length_take, List.length_reverse, HNN.out] at h1
          omega
        have HL : Hid _ := hlen
        clear hp hps hlen
        go_wp2_with (at_builtin; (refine wpList_append_lies _ rfl (.tmp 32) (.tmp 34) 51 rfl w.heap.size 9 i9 _ 1 16 Tryd.underlying51 hi9 hz9 hs9 hb9 rfl (by decide) (.slice va vn vc) _ _ rfl (ownsRow_below hown (al _ _)) ⟨wr.heap.size, 0, none⟩ 1 1 [.string (str x.1.n)] rfl rfl (World.news_of_block (blk_new wr [.string (str x.1.n)] 9)) (by simp [Value.oneCell']) (by decide) (by have := HL.out; unfold maxLen; omega) (by have := HL.out; omega) (bal hB _).size _ rfl ?_; intro g2 cap2 w2 hown2 hgr2 hat2 hlt2))
        go_roundw
        case rel =>
          have hfl : (E.reverse.take (k + 1)).filter (fun x => x.1.p == bs s) = (E.reverse.take k).filter (fun x => x.1.p == bs s) ++ [x] := by rw [HT.out]; simp [HP.out]
          refine ⟨k + 1, by omega, by simp, ⟨_, _, _, rfl, ?_⟩, ?_⟩
          · show _ = _
            rw [hfl, List.length_append]; rfl
          · show _ ∧ _
            rw [hfl, List.length_append]
            refine ⟨?_, (bal hB _).grown hgr2 (bal hB _).size (fun k hk => (ownsRow_ge hown hk).1)⟩
            simpa [stV] using hown2
        case measure => simp [RowKit.intOf]; omega
      · have hps : str x.1.p ≠ s := fun e => hp (str_inj e)
        have hnd2 := ne_list hps
        have HP : Hid (¬ x.1.p = bs s) := hp
        clear hp hps
        generalize str x.1.p = xp at *
        go_wp2
        go_roundw
        case rel =>
          have hfl : (E.reverse.take (k + 1)).filter (fun x => x.1.p == bs s) = (E.reverse.take k).filter (fun x => x.1.p == bs s) := by rw [HT.out]; simp [HP.out]
          refine ⟨k + 1, by omega, by simp, ⟨_, _, _, rfl, ?_⟩, ?_⟩
          · show _ = _
            rw [hfl]; exact HVN.out
          · show _ ∧ _
            rw [hfl]
            exact ⟨hown, hB⟩
        case measure => simp [RowKit.intOf]; omega
    · have hlt1 : ¬ (k : Int) < (N : Int) := by omega
      go_wp2
      go_ret
      have HV2 := HVN.out
      rw [List.take_of_length_le (by rw [List.length_reverse, HNN.out]; omega)] at hown HV2
      subst HV2
      exact show CPost _ _ _ _ from ⟨⟨va, vc, rfl, hown⟩, hB⟩
end Go.Proofs.YtkoagjfbhkhfkaaDoor
