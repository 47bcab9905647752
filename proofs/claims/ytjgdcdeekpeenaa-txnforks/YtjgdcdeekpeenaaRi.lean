/- Insert2: texts in order, with one more. -/
import Derived.Test.YtjgdcdeekpeenaaRe
import Derived.Deep.RegionLaw
namespace Go.Proofs.Ytjgdcdeekpeenaa
open Go.RowKit Go.Shelf
set_option maxRecDepth 100000
theorem step_append_run {P : Program} {ops : Array Oper} {o : Oper} {a : Act} {w : World} {K : Act → World → Prop} {Q : Exit → Act → World → Prop} {E : Prop} (hgd : o.guard = none) (s x : Operand) (t : TypeId)
    (ho : o.op = .call { callee := .builtin .append, args := #[s, x], argTypes := #[t, t] }) (v y : Value) (hs : a.eval s = v) (hx : a.eval x = y) (u : Value) (w' : World) (hrun : (Builtin.append_ #[t, t] o.type #[v, y]).run P w = .ok u w')
    (h : K (a.put o.dst u) w') : if Region.wanted o (yielded ops a.tmps) = true then Oper.wp P o a w K Q else E := by
  have hw : Region.wanted o (yielded ops a.tmps) = true := by simp [Region.wanted, hgd]
  rw [if_pos hw]
  unfold Oper.wp execOp
  simp only [ho, resolve, invoke, builtin, Sem.run_bind, Sem.run_pure, Result.andThen_ok, List.map_toArray, List.map_cons, List.map_nil, hs, hx, hrun]
  exact h
theorem SK.here {l ks : List Ky} (h : SK l ks) {x : Ky} (hx : x ∈ l) : SK l (x :: ks) := ⟨h.up, fun y => by rw [h.mem y]; constructor; exact fun q => List.mem_cons_of_mem _ q; intro q; rcases List.mem_cons.1 q with rfl | q; exact (h.mem _).1 hx; exact q⟩
theorem lt_of_not {a b : Ky} (h1 : ¬ a < b) (h2 : a ≠ b) : b < a := Decidable.byContradiction fun h => h2 (List.le_antisymm (List.not_lt.1 h) (List.not_lt.1 h1))
theorem SK.ins {l ks : List Ky} (h : SK l ks) {x : Ky} {k : Nat} (h1 : ∀ (p : Nat) (y : Ky), p < k → l[p]? = some y → y < x) (h2 : ∀ y, l[k]? = some y → x < y) : SK (l.take k ++ [x] ++ l.drop k) (x :: ks) := by
  have hpw := h.up
  rw [← List.take_append_drop k l, List.pairwise_append] at hpw
  obtain ⟨p1, p2, p3⟩ := hpw
  have ht : ∀ y ∈ l.take k, y < x := fun y hy => by
    obtain ⟨p, hp, rfl⟩ := List.getElem_of_mem hy
    have hpk : p < k := by simp at hp; omega
    refine h1 p _ hpk ?_
    have hpl : p < l.length := by simp at hp; omega
    rw [List.getElem?_eq_getElem hpl, List.getElem_take]
  have hd : ∀ y ∈ l.drop k, x < y := fun y hy => by
    cases hdk : l.drop k with
    | nil => rw [hdk] at hy; cases hy
    | cons z zs =>
      have hz : l[k]? = some z := by
        have := congrArg (·[0]?) hdk
        simpa using this
      have hxz := h2 z hz
      rw [hdk] at hy p2
      rcases List.mem_cons.1 hy with rfl | hy
      · exact hxz
      · exact List.lt_trans hxz ((List.pairwise_cons.1 p2).1 y hy)
  refine ⟨?_, fun y => ?_⟩
  · rw [List.append_assoc, List.pairwise_append]
    refine ⟨p1, ?_, ?_⟩
    · rw [List.singleton_append, List.pairwise_cons]
      exact ⟨hd, p2⟩
    · intro a ha b hb
      rcases List.mem_append.1 hb with hb | hb
      · simp only [List.mem_singleton] at hb
        subst hb
        exact ht a ha
      · exact p3 a ha b hb
  · rw [List.mem_cons, ← h.mem y]
    constructor
    · intro q
      rcases List.mem_append.1 q with q | q
      · rcases List.mem_append.1 q with q | q
        · exact .inr (List.mem_of_mem_take q)
        · exact .inl (by simpa using q)
      · exact .inr (List.mem_of_mem_drop q)
    · rintro (rfl | q)
      · simp
      · rw [← List.take_append_drop k l] at q
        rcases List.mem_append.1 q with q | q
        · exact List.mem_append_left _ (List.mem_append_left _ q)
        · exact List.mem_append_right _ q
theorem ofL_less (y x : Ky) : Op.bytesLess (ofL y).toList (ofL x).toList = decide (y < x) := by
  rw [bytesLess_eq, Lib.toList_data, Lib.toList_data]
  rfl
theorem ofL_eq (y x : Ky) : ((ofL y).toList == (ofL x).toList) = decide (y = x) := by
  rw [Lib.toList_data, Lib.toList_data]
  show (y == x) = _
  by_cases h : y = x <;> simp [h]
def IPost (w : World) (ks : List Ky) (n : Nat) (e : Ending) (w' : World) : Prop := ∃ v l, e = .returned v ∧ SK l ks ∧ l.length ≤ n ∧ LV ET w' v (l.map ofL) ∧ Below w.heap.size w w'
/-- What is put together: three appends onto an empty literal in the block e. -/
theorem three {W0 W : World} {e : Nat} {a c : Value} {L1 L2 L3 : List ByteArray} (hB : Below W0.heap.size W0 W) (he : W0.heap.size ≤ e) (hel : e < W.heap.size) (h1 : LV ET W a L1) (hl : L1.length + L2.length + L3.length ≤ 10000) :
    ∃ u1 W1, (Builtin.append_ #[43, 43] 43 #[.slice (some ⟨e, 0, none⟩) 0 0, a]).run Try.prog W = .ok u1 W1 ∧ Below W0.heap.size W0 W1 ∧ W.heap.size ≤ W1.heap.size ∧ (∀ g l t, Blk W g l t → g ≠ e → Blk W1 g l t) ∧
      ∀ W2 b, Below W1.heap.size W1 W2 → LV ET W2 b L2 → ∃ u2 W3, (Builtin.append_ #[43, 43] 43 #[u1, b]).run Try.prog W2 = .ok u2 W3 ∧ Below W0.heap.size W0 W3 ∧
        (LV ET W3 c L3 → ∃ u3 W4, (Builtin.append_ #[43, 43] 43 #[u2, c]).run Try.prog W3 = .ok u3 W4 ∧ LV ET W4 u3 (L1 ++ L2 ++ L3) ∧ Below W0.heap.size W0 W4) := by
  have hU : RU ET W0.heap.size W (.slice (some ⟨e, 0, none⟩) 0 0) [] := .inl ⟨rfl, _, rfl, he, hel⟩
  obtain ⟨u1, W1, r1, U1, g1⟩ := run_app hU h1 (by simp; omega) hB.size
  have B1 := hB.trans (grown_below hU g1 hB.size)
  rw [List.nil_append] at U1
  refine ⟨u1, W1, r1, B1, g1.size, fun g l t hb hg => (g1.block g hb.lt (fun q => hg (by cases q; rfl))).trans hb, fun W2 b q2 h2 => ?_⟩
  obtain ⟨u2, W3, r2, U2, g2⟩ := run_app (U1.below q2) h2 (by omega) (bmore B1 q2).size
  have B3 := (bmore B1 q2).trans (grown_below (U1.below q2) g2 (bmore B1 q2).size)
  refine ⟨u2, W3, r2, B3, fun h3 => ?_⟩
  obtain ⟨u3, W4, r3, U3, g3⟩ := run_app U2 h3 (by simp; omega) B3.size
  exact ⟨u3, W4, r3, U3.read, B3.trans (grown_below U2 g3 B3.size)⟩
set_option maxHeartbeats 2000000 in
theorem insert52 {w : World} {v : Value} {l ks : List Ky} (hv : LV ET w v (l.map ofL)) (hk : SK l ks) (hl : l.length ≤ 1000) (x : Ky) : Calls Try.prog 52 #[v, .string (ofL x)] w (IPost w (x :: ks) (l.length + 1)) := by
  obtain ⟨pv, cv, rfl⟩ := hv.form
  have hcap := hv.cap.2
  rw [List.length_map] at hv hcap ⊢
  have HV : Hid (LV ET w (.slice pv l.length cv) (l.map ofL)) := hv
  have HK : Hid (SK l ks) := hk
  obtain ⟨N, hN⟩ : ∃ N, l.length = N := ⟨_, rfl⟩
  have HN : Hid (l.length = N) := hN
  have HA : Hid (∀ W, Below w.heap.size w W → ∀ (j : Nat) (y : Ky), l[j]? = some y → ∃ g o, pv = some ⟨g, o, none⟩ ∧ W.cell? ⟨g, o + j, none⟩ = some (.string (ofL y))) := fun W q j y hy => lv_str (hv.below q) (by rw [List.getElem?_map, hy]; rfl)
  rw [hN] at hl hcap HV ⊢
  clear hv hk hN
  go_enter Try.func52, Try.ntmps52
  go_upto_region 1 with fail
  go_cut [5] from 6 (fun u5 wx => u5 = .int .i64 0 ∧ wx = w)
  case first =>
    go_wp2_with fail
    go_meet
    case rel => exact ⟨rfl, rfl⟩
  case rest =>
    obtain ⟨rfl, rfl⟩ := hcut
    rename_i Ka ha
    refine ha _ _ ?_
    refine wp_seq_k fun Kb hb => ?_
    clear ha
    obtain ⟨w0, hw0⟩ : ∃ w0, w0 = wc := ⟨_, rfl⟩
    subst hw0
    go_cut [5] from 6 (fun u5 wx => ∃ k : Nat, u5 = .int .i64 (k : Int) ∧ Hid (k ≤ N ∧ ∀ (p : Nat) (y : Ky), p < k → l[p]? = some y → y < x) ∧ Hid (∀ y, l[k]? = some y → ¬ y < x) ∧ Hid (Below w0.heap.size w0 wx))
    case first =>
      go_wp2_with fail
      go_loopw [5] (fun f5 wr => ∃ k : Nat, f5 = .int .i64 (k : Int) ∧ Hid (k ≤ N ∧ ∀ (p : Nat) (y : Ky), p < k → l[p]? = some y → y < x) ∧ Hid (Below w0.heap.size w0 wr)) (fun f5 _ => ((N : Int) - intOf f5).toNat)
      case atStart => exact ⟨0, rfl, ⟨Nat.zero_le _, fun p y hp => by omega⟩, Below.refl _ _⟩
      case round =>
        obtain ⟨k, rfl, hk, hB⟩ := hrel
        by_cases hkN : k < N
        · have b1 : (k : Int) < (N : Int) := by omega
          have b3 : decide ((k : Int) < (N : Int)) = true := decide_eq_true b1
          have b4 : decide (k < N) = true := decide_eq_true hkN
          have h0k : (0 : Int) ≤ (k : Int) := by omega
          obtain ⟨y, hy⟩ : ∃ y, l[k]? = some y := ⟨_, List.getElem?_eq_getElem (by rw [HN.out]; exact hkN)⟩
          obtain ⟨g, o, rfl, c0⟩ := HA.out _ hB.out k y hy
          have hless := ofL_less y x
          have HY : Hid (l[k]? = some y) := hy
          clear hy
          by_cases hc : y < x
          · rw [decide_eq_true hc] at hless
            go_wp2_with fail
            go_roundw
            case rel =>
              refine ⟨k + 1, by simp, ⟨by omega, fun p z hp hz => ?_⟩, hB.out⟩
              by_cases e : p = k
              · subst e
                have := HY.out
                rw [this] at hz
                cases hz
                exact hc
              · exact hk.out.2 p z (by omega) hz
            case measure => simp only [intOf]; omega
          · rw [decide_eq_false hc] at hless
            go_wp2_with fail
            go_meet
            case rel => exact ⟨k, rfl, hk.out, fun z hz => by have := HY.out; rw [this] at hz; cases hz; exact hc, hB.out⟩
        · have b1 : ¬ (k : Int) < (N : Int) := by omega
          have b3 : decide ((k : Int) < (N : Int)) = false := decide_eq_false b1
          have b4 : decide (k < N) = false := decide_eq_false hkN
          go_wp2_with fail
          go_meet
          case rel => exact ⟨k, rfl, hk.out, fun z hz => by have := (List.getElem?_eq_some_iff.1 hz).1; rw [HN.out] at this; omega, hB.out⟩
    case rest =>
      obtain ⟨k, rfl, hk, hno, hB⟩ := hcut
      refine hb _ _ ?_
      refine wp_seq_k fun Kc hc => ?_
      clear hb
      obtain ⟨w1, hw1⟩ : ∃ w1, w1 = wc := ⟨_, rfl⟩
      subst hw1
      go_cut [] from 6 (fun wx => Hid (∀ y, l[k]? = some y → x < y) ∧ wx = w1)
      case first =>
        by_cases hkN : k < N
        · have b1 : (k : Int) < (N : Int) := by omega
          have b3 : decide ((k : Int) < (N : Int)) = true := decide_eq_true b1
          have b4 : decide (k < N) = true := decide_eq_true hkN
          have h0k : (0 : Int) ≤ (k : Int) := by omega
          obtain ⟨y, hy⟩ : ∃ y, l[k]? = some y := ⟨_, List.getElem?_eq_getElem (by rw [HN.out]; exact hkN)⟩
          obtain ⟨g, o, rfl, c0⟩ := HA.out _ hB.out k y hy
          have heq := ofL_eq y x
          have HY : Hid (l[k]? = some y) := hy
          clear hy
          by_cases hc' : y = x
          · rw [decide_eq_true hc'] at heq
            go_wp2_with fail
            go_ret
            subst hc'
            exact ⟨_, l, rfl, SK.here HK.out (List.mem_of_getElem? HY.out), by rw [HN.out]; omega, LV.below HV.out hB.out, hB.out⟩
          · rw [decide_eq_false hc'] at heq
            go_wp2_with fail
            go_meet
            case rel => exact ⟨fun z hz => by have := HY.out; rw [this] at hz; cases hz; exact lt_of_not (hno.out _ HY.out) hc', rfl⟩
        · have b1 : ¬ (k : Int) < (N : Int) := by omega
          have b3 : decide ((k : Int) < (N : Int)) = false := decide_eq_false b1
          have b4 : decide (k < N) = false := decide_eq_false hkN
          go_wp2_with fail
          go_meet
          case rel => exact ⟨fun z hz => by have := (List.getElem?_eq_some_iff.1 hz).1; rw [HN.out] at this; omega, rfl⟩
      case rest =>
        obtain ⟨hgt, rfl⟩ := hcut
        obtain ⟨w2, hw2⟩ : ∃ w2, w2 = wc := ⟨_, rfl⟩
        subst hw2
        have HI : Hid (SK (l.take k ++ [x] ++ l.drop k) (x :: ks)) := SK.ins HK.out hk.out.2 hgt.out
        have HLn : Hid ((l.take k ++ [x] ++ l.drop k).length = N + 1) := by
          show _ = _
          have := hk.out.1
          have := HN.out
          simp only [List.length_append, List.length_take, List.length_drop, List.length_singleton]
          omega
        have g1 : (k : Int) ≤ (cv : Int) := by have := hk.out.1; omega
        have g2 : (k : Int) ≤ (N : Int) := by have := hk.out.1; omega
        have g3 : (0 : Int) ≤ (k : Int) := by omega
        clear hno hgt
        go_wp2_with fail
        have hvw := LV.below HV.out hB.out
        have HTk : Hid (∀ W, Below w2.heap.size w2 W → LV ET W (.slice pv k cv) ((l.take k).map ofL)) := fun W q => by
          have := (hvw.below q).take (k := k) (by rw [List.length_map, HN.out]; exact hk.out.1) cv (by have := hk.out.1; omega)
          rw [← List.map_take] at this
          exact this
        have HDr : Hid (∀ W, Below w2.heap.size w2 W → LV ET W (.slice (if cv = k then pv else Option.map (fun x => x.add k) pv) (N - k) (cv - k)) ((l.drop k).map ofL)) := fun W q => by
          have := (hvw.below q).sliced (k := k) hk.out.1
          rw [← List.map_drop, show k * ET.m = k from Nat.mul_one k] at this
          exact this
        have hsum : ((l.take k).map ofL).length + [ofL x].length + ((l.drop k).map ofL).length ≤ 10000 := by
          have := hk.out.1
          have := HN.out
          simp only [List.length_map, List.length_take, List.length_drop, List.length_singleton]
          omega
        have HRes : Hid ((l.take k).map ofL ++ [ofL x] ++ (l.drop k).map ofL = (l.take k ++ [x] ++ l.drop k).map ofL) := by show _ = _; simp
        have e1 : ET.cells [ofL x] = [.string (ofL x)] := rfl
        -- the literal of one behind the first append
        obtain ⟨uA1, WA1, rA1, bA1, _, _, fA⟩ := three (W0 := w2) (W := (w2.alloc (.cells #[] 9)).drew) (e := w2.heap.size) (L2 := [ofL x]) (c := .slice (if cv = k then pv else Option.map (fun x => x.add k) pv) (N - k) (cv - k)) ((al _ _).drew) (Nat.le_refl _) (by simp) (HTk.out _ ((al _ _).drew)) hsum
        obtain ⟨uA2, WA2, rA2, bA2, fA2⟩ := fA (WA1.alloc (.cells #[.string (ofL x)] 9)) (.slice (some ⟨WA1.heap.size, 0, none⟩) 1 1) (al _ _) (lv_blk ET (L := [ofL x]) (by rw [e1]; exact blk_new WA1 [.string (ofL x)] 9) 1 (Nat.le_refl _))
        obtain ⟨uA3, WA3, rA3, vA, bA3⟩ := fA2 (HDr.out _ bA2)
        -- ahead of it
        have bB := (bal (al w2 (.cells #[] 9)) (.cells #[.string (ofL x)] 9)).drew
        obtain ⟨uB1, WB1, rB1, bB1, _, kB, fB⟩ := three (W0 := w2) (W := ((w2.alloc (.cells #[] 9)).alloc (.cells #[.string (ofL x)] 9)).drew) (e := w2.heap.size) (L2 := [ofL x]) (c := .slice (if cv = k then pv else Option.map (fun x => x.add k) pv) (N - k) (cv - k)) bB (Nat.le_refl _) (by simp; omega) (HTk.out _ bB) hsum
        obtain ⟨uB2, WB2, rB2, bB2, fB2⟩ := fB WB1 (.slice (some ⟨w2.heap.size + 1, 0, none⟩) 1 1) (Below.refl _ _) (lv_blk ET (L := [ofL x]) (by rw [e1]; exact kB _ _ _ ((blk_at (w2.alloc (.cells #[] 9)) [.string (ofL x)] 9 (by simp)).below ((Below.refl _ _).drew)) (by omega)) 1 (Nat.le_refl _))
        obtain ⟨uB3, WB3, rB3, vB, bB3⟩ := fB2 (HDr.out _ bB2)
        -- ahead of all
        have bC := (bal (al w2 (.cells #[.string (ofL x)] 9)) (.cells #[] 9)).drew
        obtain ⟨uC1, WC1, rC1, bC1, _, kC, fC⟩ := three (W0 := w2) (W := ((w2.alloc (.cells #[.string (ofL x)] 9)).alloc (.cells #[] 9)).drew) (e := w2.heap.size + 1) (L2 := [ofL x]) (c := .slice (if cv = k then pv else Option.map (fun x => x.add k) pv) (N - k) (cv - k)) bC (by omega) (by simp) (HTk.out _ bC) hsum
        obtain ⟨uC2, WC2, rC2, bC2, fC2⟩ := fC WC1 (.slice (some ⟨w2.heap.size, 0, none⟩) 1 1) (Below.refl _ _) (lv_blk ET (L := [ofL x]) (by rw [e1]; exact kC _ _ _ (((blk_new w2 [.string (ofL x)] 9).below (al _ _)).below ((Below.refl _ _).drew)) (by omega)) 1 (Nat.le_refl _))
        obtain ⟨uC3, WC3, rC3, vC, bC3⟩ := fC2 (HDr.out _ bC2)
        have RA1 : Hid _ := rA1
        have RA2 : Hid _ := rA2
        have RA3 : Hid _ := rA3
        have RB1 : Hid _ := rB1
        have RB2 : Hid _ := rB2
        have RB3 : Hid _ := rB3
        have RC1 : Hid _ := rC1
        have RC2 : Hid _ := rC2
        have RC3 : Hid _ := rC3
        have PA : Hid (IPost w0 (x :: ks) (N + 1) (.returned uA3) WA3) := ⟨_, _, rfl, HI.out, Nat.le_of_eq HLn.out, by rw [← HRes.out]; exact vA, bmore hB.out bA3⟩
        have PB : Hid (IPost w0 (x :: ks) (N + 1) (.returned uB3) WB3) := ⟨_, _, rfl, HI.out, Nat.le_of_eq HLn.out, by rw [← HRes.out]; exact vB, bmore hB.out bB3⟩
        have PC : Hid (IPost w0 (x :: ks) (N + 1) (.returned uC3) WC3) := ⟨_, _, rfl, HI.out, Nat.le_of_eq HLn.out, by rw [← HRes.out]; exact vC, bmore hB.out bC3⟩
        clear rA1 rA2 rA3 rB1 rB2 rB3 rC1 rC2 rC3 fA fA2 fB fB2 fC fC2 kB kC vA vB vC bA1 bA2 bA3 bB bB1 bB2 bB3 bC bC1 bC2 bC3 hvw hsum e1
        go_region_law (first
          | (refine step_append_run rfl (.tmp 33) (.tmp 36) 43 rfl (.slice (some ⟨w2.heap.size, 0, none⟩) 0 0) (.slice pv k cv) rfl rfl _ _ (by with_reducible exact RA1.out) ?_)
          | (refine step_append_run rfl (.tmp 33) (.tmp 36) 43 rfl (.slice (some ⟨w2.heap.size, 0, none⟩) 0 0) (.slice pv k cv) rfl rfl _ _ (by with_reducible exact RB1.out) ?_)
          | (refine step_append_run rfl (.tmp 33) (.tmp 36) 43 rfl (.slice (some ⟨w2.heap.size + 1, 0, none⟩) 0 0) (.slice pv k cv) rfl rfl _ _ (by with_reducible exact RC1.out) ?_)
          | (refine step_append_run rfl (.tmp 37) (.tmp 39) 43 rfl uA1 (.slice (some ⟨WA1.heap.size, 0, none⟩) 1 1) rfl rfl _ _ (by with_reducible exact RA2.out) ?_)
          | (refine step_append_run rfl (.tmp 37) (.tmp 39) 43 rfl uB1 (.slice (some ⟨w2.heap.size + 1, 0, none⟩) 1 1) rfl rfl _ _ (by with_reducible exact RB2.out) ?_)
          | (refine step_append_run rfl (.tmp 37) (.tmp 39) 43 rfl uC1 (.slice (some ⟨w2.heap.size, 0, none⟩) 1 1) rfl rfl _ _ (by with_reducible exact RC2.out) ?_)
          | (refine step_append_run rfl (.tmp 40) (.tmp 43) 43 rfl uA2 (.slice (if cv = k then pv else Option.map (fun x => x.add k) pv) (N - k) (cv - k)) rfl rfl _ _ (by with_reducible exact RA3.out) ?_)
          | (refine step_append_run rfl (.tmp 40) (.tmp 43) 43 rfl uB2 (.slice (if cv = k then pv else Option.map (fun x => x.add k) pv) (N - k) (cv - k)) rfl rfl _ _ (by with_reducible exact RB3.out) ?_)
          | (refine step_append_run rfl (.tmp 40) (.tmp 43) 43 rfl uC2 (.slice (if cv = k then pv else Option.map (fun x => x.add k) pv) (N - k) (cv - k)) rfl rfl _ _ (by with_reducible exact RC3.out) ?_))
        all_goals (go_wp2_with fail)
        all_goals
          first
            | (refine bodyPost_ret (v := uA3) (by simp [results, Try.results52, go_sem]) rfl ?_; with_reducible exact PA.out)
            | (refine bodyPost_ret (v := uB3) (by simp [results, Try.results52, go_sem]) rfl ?_; with_reducible exact PB.out)
            | (refine bodyPost_ret (v := uC3) (by simp [results, Try.results52, go_sem]) rfl ?_; with_reducible exact PC.out)
end Go.Proofs.Ytjgdcdeekpeenaa
