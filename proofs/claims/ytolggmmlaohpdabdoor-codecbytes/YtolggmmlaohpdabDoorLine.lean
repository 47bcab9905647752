/- The law TopLine: in every good world it answers true. -/
import Derived.Test.YtolggmmlaohpdabDoorVrow
import Derived.Deep.QuietTactic
import Derived.BigQuiet
namespace Go.Proofs.YtolggmmlaohpdabDoor
open Go.RowKit Go.Lib

/-- The bytes of values, one behind the other. -/
def flat (l : List Vt) : Bs := l.flatMap bytesT
theorem flat_snoc (l : List Vt) (x : Vt) : flat (l ++ [x]) = flat l ++ bytesT x := by simp [flat]
theorem flat_cons (l : List Vt) (x : Vt) : flat (x :: l) = bytesT x ++ flat l := by simp [flat]
theorem bytesT_len {x : Vt} (h : okV x = true) : (bytesT x).length ≤ 34 ∧ 2 ≤ (bytesT x).length := by
  rcases rightV_cases h with ⟨e, _⟩ | ⟨e, e2, hs⟩
  · unfold bytesT; rw [e, bytesV_int, List.length_cons, be8_length]; omega
  · unfold bytesT; rw [e, e2, bytesV_text]; have := right_len hs; simp at this ⊢; omega
theorem flat_len : ∀ (l : List Vt), (∀ x ∈ l, okV x = true) → (flat l).length ≤ 34 * l.length
  | [], _ => by simp [flat]
  | x :: t, h => by
    have h1 := bytesT_len (h x (by simp))
    have h2 := flat_len t (fun y hy => h y (by simp [hy]))
    rw [flat_cons, List.length_append, List.length_cons]; omega
theorem keep_snoc (vs : List Vt) (k : Nat) (x : Vt) (hx : vs[k]? = some x) : (vs.take (k + 1)).filter okV = (vs.take k).filter okV ++ (if okV x then [x] else []) := by
  have hk : k < vs.length := (List.getElem?_eq_some_iff.1 hx).1
  have e : vs[k] = x := (List.getElem?_eq_some_iff.1 hx).2
  rw [List.take_succ_eq_append_getElem hk, List.filter_append, e]
  cases h : okV x <;> simp [h]
theorem keep_ok (vs : List Vt) (k : Nat) : ∀ x ∈ (vs.take k).filter okV, okV x = true := fun _ hx => (List.mem_filter.1 hx).2
theorem keep_len (vs : List Vt) (k : Nat) : ((vs.take k).filter okV).length ≤ k := by
  have h1 := List.length_filter_le okV (vs.take k)
  have h2 : (vs.take k).length ≤ k := List.length_take_le _ _
  omega

theorem rdV_none : rdV [] = (0, 0, [], 0, 3) := by unfold rdV begunV; simp [rightV_none]
theorem sb_rest {w w' : World} {gb ob cb M Q : Nat} {Y R : Bs} (hM : Y.length = M) (hQ : R.length = Q) (hc : M + Q ≤ cb) (hcm : cb ≤ maxLen) (hat : At w gb ob (Y ++ R)) (hb : Below w.heap.size w w') :
    SB w' (.slice (if cb = M then some ⟨gb, ob, none⟩ else some ⟨gb, ob + M, none⟩) Q (cb - M)) R := by
  by_cases h0 : Q = 0
  · subst h0
    exact .inl ⟨_, _, rfl, List.eq_nil_of_length_eq_zero hQ⟩
  · rw [if_neg (by omega)]
    refine .inr ⟨gb, ob + M, cb - M, by rw [hQ], by omega, by omega, by omega, ?_⟩
    have h1 := (hat.below hb).drop M
    rw [List.drop_append_of_le_length (by omega), List.drop_eq_nil_of_le (by omega), List.nil_append] at h1
    exact h1
theorem vrow_at {B g n c : Nat} {l : List Vt} {w : World} (h : VRow B (.slice (some ⟨g, 0, none⟩) n c) l w) (i : Nat) (x : Vt) (hx : l[i]? = some x) : w.cell? ⟨g, i * 3, none⟩ = some (.int .u8 x.1) ∧ w.cell? ⟨g, i * 3 + 1, none⟩ = some (.int .i64 x.2.1) ∧ w.cell? ⟨g, i * 3 + 2, none⟩ = some (.string x.2.2) := by
  obtain ⟨c0, c1, c2⟩ := cellsV_at l i x hx
  have k0 := World.ownsRow.cells h (g := g) rfl _ _ c0
  have k1 := World.ownsRow.cells h (g := g) rfl _ _ c1
  have k2 := World.ownsRow.cells h (g := g) rfl _ _ c2
  rw [add_offv, Nat.zero_add] at k0 k1 k2
  exact ⟨k0, k1, k2⟩

set_option maxRecDepth 100000 in
set_option maxHeartbeats 2000000 in
theorem line8_some (b0 o0 c0 n0 : Nat) (vs : List Vt) (w : World) (hl0 : Hid (vs.length = n0)) (hn0 : n0 ≤ 4611686018427387904) (_hc : n0 ≤ c0) (_hcm : c0 ≤ maxLen) (hat : VAt w b0 o0 vs) (hvs : ∀ x ∈ vs, inI64 x.2.1 ∧ x.2.2.size < 4611686018427387904) (hg : Good w) :
    Calls Tryd.prog 8 #[.slice (some ⟨b0, o0, none⟩) n0 c0] w fun e w' => e = .returned (.bool true) ∧ Below w.heap.size w w' := by
  have hgb : ∀ W, Below w.heap.size w W → Good W := fun W h => hg.below h
  have hatb : ∀ W, Below w.heap.size w W → VAt W b0 o0 vs := fun W h => hat.below h
  have HVS : Hid (∀ x ∈ vs, inI64 x.2.1 ∧ x.2.2.size < 4611686018427387904) := hvs
  clear hg hat hvs
  unfold maxLen at _hcm
  generalize hB : w.heap.size = B at *
  go_enter Tryd.func8, Tryd.ntmps8
  go_wp2
  go_loopw [3, 4, 5] (fun b inn i wr => ∃ k : Nat, k ≤ n0 ∧ k ≤ 10 ∧ i = .int .i64 (k : Int) ∧ BRow B b (flat ((vs.take k).filter okV)) wr ∧ VRow B inn ((vs.take k).filter okV) wr ∧ Below B w wr ∧ B ≤ wr.heap.size) (fun _ _ i _ => 10 - (Lib.intOf i).toNat)
  case atStart => exact ⟨0, by omega, by omega, rfl, BRow.none _ _, VRow.nil _ _, Below.refl _ _, by omega⟩
  case round =>
    obtain ⟨k, hk0, hk10, rfl, hown, hvrow, hbe, hBz⟩ := hrel
    by_cases hlt : k < n0
    · have hkz : (k : Int) < (n0 : Int) := by omega
      by_cases h10 : k < 10
      · have h10z : (k : Int) < 10 := by omega
        obtain ⟨x, hx⟩ : ∃ x, vs[k]? = some x := ⟨_, List.getElem?_eq_getElem (by rw [hl0.out]; exact hlt)⟩
        have HK : Hid ((vs.take (k + 1)).filter okV = (vs.take k).filter okV ++ (if okV x then [x] else [])) := keep_snoc vs k x hx
        have hcell := fun W h => hatb W h k x hx
        obtain ⟨hn, hsz⟩ := HVS.out x (List.mem_of_getElem? hx)
        have hlen := flat_len _ (keep_ok vs k)
        have hlen2 := keep_len vs k
        generalize hX : (vs.take k).filter okV = L at *
        obtain ⟨xk, xn, xs⟩ := x
        obtain ⟨a0, a1, a2⟩ := hcell wr hbe
        simp only at a0 a1 a2 hn hsz
        have hgw := hgb wr hbe
        cases hR : okV (xk, xn, xs)
        · have k24 := bytes_no xk xn xs wr hsz hR hgw
          rw [hR] at HK
          clear hX hR hlen hlen2
          go_wp2_with (go_at_call 24; refine k24.mono ?_; rintro e w1 ⟨rfl, hb1⟩)
          go_roundw
          case rel => exact ⟨k + 1, by omega, by omega, by go_num, by rw [HK.out]; simpa using hown.below hb1, by rw [HK.out]; simpa using hvrow.below hb1, hbe.trans (hb1.mono hBz), by have := hb1.size; omega⟩
          case measure => simp [Lib.intOf]; omega
        · have k24 := bytes_yes xk xn xs wr hn hR hgw
          have hbl := bytesT_len hR
          rw [hR] at HK
          clear hX hR
          go_wp2_with (first
            | (go_at_call 24; (refine k24.mono ?_; rintro e w1 ⟨u, rfl, hux, hb1⟩; have hw1 : Below B w w1 := hbe.trans (hb1.mono hBz); have hz1 : B ≤ w1.heap.size := Nat.le_trans hBz hb1.size))
            | (at_builtin; (refine push_sb _ rfl (.tmp 35) (.tmp 36) rfl B _ _ (flat L) (bytesT (xk, xn, xs)) rfl rfl (hown.below hb1) (brow_sb hux) (by omega) hz1 ?_; intro v1 w2 hown2 hgrow; have hw2 := grow2 hw1 (hown.below hb1) hgrow hz1; have hv2 := (hvrow.below hb1).kept (hown.below hb1) hgrow; obtain ⟨d0, d1, d2⟩ := hcell w2 hw2.1; try simp only at d0 d1 d2))
            | (at_builtin; (refine push_val rfl (.tmp 38) (.tmp 43) rfl B _ L (xk, xn, xs) rfl (hv2.below (al _ _)) w2.heap.size rfl ⟨by simp, by simp, by simp⟩ (by omega) (by simp; omega) ?_; intro v2 w3 hv3 hgrow3; have hw3 := growV (hw2.1.alloc hw2.2 _) (hv2.below (al _ _)) hgrow3 (by simp; omega); have hown3 := (hown2.below (al _ _)).kept (hv2.below (al _ _)) hgrow3)))
          go_roundw
          case rel => exact ⟨k + 1, by omega, by omega, by go_num, by rw [HK.out]; simp only [if_true]; rw [flat_snoc]; exact hown3, by rw [HK.out]; simp only [if_true]; exact hv3, hw3.1, hw3.2⟩
          case measure => simp [Lib.intOf]; omega
      · have h10z : ¬ ((k : Int) < 10) := by omega
        have hok := keep_ok vs k
        have hl2 := keep_len vs k
        have hin : ∀ x ∈ (vs.take k).filter okV, inI64 x.2.1 := fun x hx => (HVS.out x (List.mem_of_mem_take (List.mem_filter.1 hx).1)).1
        generalize (vs.take k).filter okV = L at *
        have HO : Hid (∀ x ∈ L, okV x = true ∧ inI64 x.2.1) := fun x hx => ⟨hok x hx, hin x hx⟩
        have hfl := flat_len L hok
        have hsb := brow_sb hown
        clear hok hin hown HVS hatb
        rcases id hvrow with ⟨_, ⟨rfl, hL0⟩ | ⟨g, cap, cur, rfl, _, _, hLc, hLm, _, _⟩⟩
        · have hL : L = [] := List.eq_nil_of_length_eq_zero hL0
          subst hL
          obtain ⟨a, c, rfl⟩ : ∃ a c, u3 = .slice a 0 c := by
            rcases hsb with ⟨a, c, rfl, _⟩ | ⟨_, _, _, _, h0, _⟩
            · exact ⟨a, c, rfl⟩
            · simp [flat] at h0
          have k25 := fun W h => read23 (.slice none 0 0) [] W (by simp) (.inl ⟨_, _, rfl, rfl⟩) h
          rw [rdV_none] at k25
          clear hsb
          go_wp2
          refine wp_loop_rounds 1 ?_
          rw [rounds_succ]
          go_wp2_with (go_at_call 25; (refine (k25 _ (hgb _ hbe)).mono ?_; rintro e w1 ⟨rfl, hb1⟩))
          go_ret
          exact ⟨rfl, hB ▸ ((hbe.trans (hb1.mono hBz)).alloc (Nat.le_trans hBz hb1.size) _)⟩
        · unfold maxLen at hLm
          obtain ⟨N, hN⟩ : ∃ N, L.length = N := ⟨_, rfl⟩
          have HN : Hid (L.length = N) := hN
          rw [hN] at hLc hl2 hfl
          simp only [hN]
          clear hN
          go_wp2
          go_loopw [3, 8] (fun b i wr => ∃ j : Nat, j ≤ N ∧ i = .int .i64 (j : Int) ∧ SB wr b (flat (L.drop j)) ∧ VRow B (.slice (some ⟨g, 0, none⟩) N cap) L wr ∧ Below B w wr ∧ B ≤ wr.heap.size) (fun _ i _ => N - (Lib.intOf i).toNat)
          case atStart => exact ⟨0, by omega, rfl, hsb, by have := hvrow; rw [HN.out] at this; exact this, hbe, hBz⟩
          case round =>
            obtain ⟨j, hjN, rfl, hsbj, hvj, hbj, hBj⟩ := hrel
            by_cases hj : j < N
            · have hjz : (j : Int) < (N : Int) := by omega
              obtain ⟨x, hx⟩ : ∃ x, L[j]? = some x := ⟨_, List.getElem?_eq_getElem (by rw [HN.out]; exact hj)⟩
              have hdrop : L.drop j = x :: L.drop (j + 1) := by
                have hjl : j < L.length := by rw [HN.out]; exact hj
                rw [List.drop_eq_getElem_cons hjl, (List.getElem?_eq_some_iff.1 hx).2]
              obtain ⟨hxo, hxi⟩ := HO.out x (List.mem_of_getElem? hx)
              have hbl := bytesT_len hxo
              have hfr : (flat (L.drop (j + 1))).length ≤ 34 * N := by
                have h1 := flat_len (L.drop (j + 1)) (fun y hy => (HO.out y (List.mem_of_mem_drop hy)).1)
                rw [List.length_drop, HN.out] at h1
                omega
              rw [hdrop, flat_cons] at hsbj
              have HR : Hid (rdV (bytesT x ++ flat (L.drop (j + 1))) = (x.1, x.2.1, bs x.2.2, (bytesT x).length, 0)) := rdV_bytes hxo hxi _
              generalize hF : flat (L.drop (j + 1)) = R at *
              have HF : Hid (flat (L.drop (j + 1)) = R) := hF
              clear hF hdrop
              have k25 := read23 _ _ wr (by rw [List.length_append]; omega) hsbj (hgb wr hbj)
              rw [HR.out] at k25
              simp only [str_bs] at k25
              obtain ⟨xk, xn, xs⟩ := x
              generalize hY : bytesT (xk, xn, xs) = Y at *
              clear hY HR
              rcases hsbj with ⟨a, c, rfl, he⟩ | ⟨gb, ob, cb, rfl, h0, hcb, hcbm, hatj⟩
              · have hYR : (Y ++ R).length = 0 := by rw [he]; rfl
                rw [List.length_append] at hYR
                omega
              · obtain ⟨M, hM⟩ : ∃ M, Y.length = M := ⟨_, rfl⟩
                obtain ⟨Q, hQ⟩ : ∃ Q, R.length = Q := ⟨_, rfl⟩
                have HMQ : Hid (Y.length = M ∧ R.length = Q) := ⟨hM, hQ⟩
                rw [List.length_append, hM, hQ] at hcb k25
                rw [hM] at hbl
                rw [hQ] at hfr
                simp only [List.length_append, hM, hQ]
                clear hM hQ h0
                unfold maxLen at hcbm
                go_wp2_with (go_at_call 25; (refine k25.mono ?_; rintro e w1 ⟨rfl, hb1⟩))
                have hv1 : ∀ o, VRow B (.slice (some ⟨g, 0, none⟩) N cap) L (w1.alloc o) := fun o => (hvj.below hb1).below (al _ _)
                have hcl : ∀ o, (w1.alloc o).cell? ⟨g, j * 3, none⟩ = some (.int .u8 xk) ∧ (w1.alloc o).cell? ⟨g, j * 3 + 1, none⟩ = some (.int .i64 xn) ∧ (w1.alloc o).cell? ⟨g, j * 3 + 2, none⟩ = some (.string xs) := fun o => by
                  have h1 := vrow_at (hv1 o) j _ hx
                  exact h1
                obtain ⟨i0, i1, i2⟩ := hcl (.cells #[.int .u8 xk, .int .i64 xn, .string xs] 46)
                have hM2 : ¬ ((M : Int) < 2) := by omega
                have hgt : ¬ (((M + Q : Nat) : Int) < (M : Int)) := by omega
                have hgt2 : ¬ ((M : Int) + (Q : Int) < (M : Int)) := by omega
                go_quiet (fail)
                have hle : (M : Int) ≤ ((M + Q : Nat) : Int) := by omega
                have hle0 : (0 : Int) ≤ (M : Int) := by omega
                go_wp2
                go_roundw
                case rel =>
                  have hz1 : B ≤ w1.heap.size := Nat.le_trans hBj hb1.size
                  refine ⟨j + 1, by omega, by go_num, ?_, ?_, ?_, ?_⟩
                  · rw [HF.out]
                    exact sb_rest HMQ.out.1 HMQ.out.2 hcb (by unfold maxLen; exact hcbm) hatj (below_drewN (bmore hb1 (al _ _)) nq)
                  · exact (hv1 _).below (below_drewN (Below.refl _ _) nq)
                  · exact below_drewN ((hbj.trans (hb1.mono hBj)).alloc hz1 _) nq
                  · show B ≤ (w1.alloc _).heap.size
                    simp
                    omega
                case measure => simp [Lib.intOf]; omega
            · have hjz : ¬ ((j : Int) < (N : Int)) := by omega
              have he : flat (L.drop j) = [] := by rw [List.drop_eq_nil_of_le (by rw [HN.out]; omega)]; rfl
              rw [he] at hsbj
              obtain ⟨a, c, rfl⟩ : ∃ a c, u3 = .slice a 0 c := by
                rcases hsbj with ⟨a, c, rfl, _⟩ | ⟨_, _, _, _, h0, _⟩
                · exact ⟨a, c, rfl⟩
                · simp at h0
              have k25 := fun W h => read23 (.slice none 0 0) [] W (by simp) (.inl ⟨_, _, rfl, rfl⟩) h
              rw [rdV_none] at k25
              clear he hsbj
              go_wp2_with (go_at_call 25; (refine (k25 _ (hgb _ hbj)).mono ?_; rintro e w1 ⟨rfl, hb1⟩))
              go_ret
              exact ⟨rfl, hB ▸ ((hbj.trans (hb1.mono hBj)).alloc (Nat.le_trans hBj hb1.size) _)⟩
    · have hkz : ¬ ((k : Int) < (n0 : Int)) := by omega
      have hok := keep_ok vs k
      have hl2 := keep_len vs k
      have hin : ∀ x ∈ (vs.take k).filter okV, inI64 x.2.1 := fun x hx => (HVS.out x (List.mem_of_mem_take (List.mem_filter.1 hx).1)).1
      generalize (vs.take k).filter okV = L at *
      have HO : Hid (∀ x ∈ L, okV x = true ∧ inI64 x.2.1) := fun x hx => ⟨hok x hx, hin x hx⟩
      have hfl := flat_len L hok
      have hsb := brow_sb hown
      clear hok hin hown HVS hatb
      rcases id hvrow with ⟨_, ⟨rfl, hL0⟩ | ⟨g, cap, cur, rfl, _, _, hLc, hLm, _, _⟩⟩
      · have hL : L = [] := List.eq_nil_of_length_eq_zero hL0
        subst hL
        obtain ⟨a, c, rfl⟩ : ∃ a c, u3 = .slice a 0 c := by
          rcases hsb with ⟨a, c, rfl, _⟩ | ⟨_, _, _, _, h0, _⟩
          · exact ⟨a, c, rfl⟩
          · simp [flat] at h0
        have k25 := fun W h => read23 (.slice none 0 0) [] W (by simp) (.inl ⟨_, _, rfl, rfl⟩) h
        rw [rdV_none] at k25
        clear hsb
        go_wp2
        refine wp_loop_rounds 1 ?_
        rw [rounds_succ]
        go_wp2_with (go_at_call 25; (refine (k25 _ (hgb _ hbe)).mono ?_; rintro e w1 ⟨rfl, hb1⟩))
        go_ret
        exact ⟨rfl, hB ▸ ((hbe.trans (hb1.mono hBz)).alloc (Nat.le_trans hBz hb1.size) _)⟩
      · unfold maxLen at hLm
        obtain ⟨N, hN⟩ : ∃ N, L.length = N := ⟨_, rfl⟩
        have HN : Hid (L.length = N) := hN
        rw [hN] at hLc hl2 hfl
        simp only [hN]
        clear hN
        go_wp2
        go_loopw [3, 8] (fun b i wr => ∃ j : Nat, j ≤ N ∧ i = .int .i64 (j : Int) ∧ SB wr b (flat (L.drop j)) ∧ VRow B (.slice (some ⟨g, 0, none⟩) N cap) L wr ∧ Below B w wr ∧ B ≤ wr.heap.size) (fun _ i _ => N - (Lib.intOf i).toNat)
        case atStart => exact ⟨0, by omega, rfl, hsb, by have := hvrow; rw [HN.out] at this; exact this, hbe, hBz⟩
        case round =>
          obtain ⟨j, hjN, rfl, hsbj, hvj, hbj, hBj⟩ := hrel
          by_cases hj : j < N
          · have hjz : (j : Int) < (N : Int) := by omega
            obtain ⟨x, hx⟩ : ∃ x, L[j]? = some x := ⟨_, List.getElem?_eq_getElem (by rw [HN.out]; exact hj)⟩
            have hdrop : L.drop j = x :: L.drop (j + 1) := by
              have hjl : j < L.length := by rw [HN.out]; exact hj
              rw [List.drop_eq_getElem_cons hjl, (List.getElem?_eq_some_iff.1 hx).2]
            obtain ⟨hxo, hxi⟩ := HO.out x (List.mem_of_getElem? hx)
            have hbl := bytesT_len hxo
            have hfr : (flat (L.drop (j + 1))).length ≤ 34 * N := by
              have h1 := flat_len (L.drop (j + 1)) (fun y hy => (HO.out y (List.mem_of_mem_drop hy)).1)
              rw [List.length_drop, HN.out] at h1
              omega
            rw [hdrop, flat_cons] at hsbj
            have HR : Hid (rdV (bytesT x ++ flat (L.drop (j + 1))) = (x.1, x.2.1, bs x.2.2, (bytesT x).length, 0)) := rdV_bytes hxo hxi _
            generalize hF : flat (L.drop (j + 1)) = R at *
            have HF : Hid (flat (L.drop (j + 1)) = R) := hF
            clear hF hdrop
            have k25 := read23 _ _ wr (by rw [List.length_append]; omega) hsbj (hgb wr hbj)
            rw [HR.out] at k25
            simp only [str_bs] at k25
            obtain ⟨xk, xn, xs⟩ := x
            generalize hY : bytesT (xk, xn, xs) = Y at *
            clear hY HR
            rcases hsbj with ⟨a, c, rfl, he⟩ | ⟨gb, ob, cb, rfl, h0, hcb, hcbm, hatj⟩
            · have hYR : (Y ++ R).length = 0 := by rw [he]; rfl
              rw [List.length_append] at hYR
              omega
            · obtain ⟨M, hM⟩ : ∃ M, Y.length = M := ⟨_, rfl⟩
              obtain ⟨Q, hQ⟩ : ∃ Q, R.length = Q := ⟨_, rfl⟩
              have HMQ : Hid (Y.length = M ∧ R.length = Q) := ⟨hM, hQ⟩
              rw [List.length_append, hM, hQ] at hcb k25
              rw [hM] at hbl
              rw [hQ] at hfr
              simp only [List.length_append, hM, hQ]
              clear hM hQ h0
              unfold maxLen at hcbm
              go_wp2_with (go_at_call 25; (refine k25.mono ?_; rintro e w1 ⟨rfl, hb1⟩))
              have hv1 : ∀ o, VRow B (.slice (some ⟨g, 0, none⟩) N cap) L (w1.alloc o) := fun o => (hvj.below hb1).below (al _ _)
              have hcl : ∀ o, (w1.alloc o).cell? ⟨g, j * 3, none⟩ = some (.int .u8 xk) ∧ (w1.alloc o).cell? ⟨g, j * 3 + 1, none⟩ = some (.int .i64 xn) ∧ (w1.alloc o).cell? ⟨g, j * 3 + 2, none⟩ = some (.string xs) := fun o => by
                have h1 := vrow_at (hv1 o) j _ hx
                exact h1
              obtain ⟨i0, i1, i2⟩ := hcl (.cells #[.int .u8 xk, .int .i64 xn, .string xs] 46)
              have hM2 : ¬ ((M : Int) < 2) := by omega
              have hgt : ¬ (((M + Q : Nat) : Int) < (M : Int)) := by omega
              have hgt2 : ¬ ((M : Int) + (Q : Int) < (M : Int)) := by omega
              go_quiet (fail)
              have hle : (M : Int) ≤ ((M + Q : Nat) : Int) := by omega
              have hle0 : (0 : Int) ≤ (M : Int) := by omega
              go_wp2
              go_roundw
              case rel =>
                have hz1 : B ≤ w1.heap.size := Nat.le_trans hBj hb1.size
                refine ⟨j + 1, by omega, by go_num, ?_, ?_, ?_, ?_⟩
                · rw [HF.out]
                  exact sb_rest HMQ.out.1 HMQ.out.2 hcb (by unfold maxLen; exact hcbm) hatj (below_drewN (bmore hb1 (al _ _)) nq)
                · exact (hv1 _).below (below_drewN (Below.refl _ _) nq)
                · exact below_drewN ((hbj.trans (hb1.mono hBj)).alloc hz1 _) nq
                · show B ≤ (w1.alloc _).heap.size
                  simp
                  omega
              case measure => simp [Lib.intOf]; omega
          · have hjz : ¬ ((j : Int) < (N : Int)) := by omega
            have he : flat (L.drop j) = [] := by rw [List.drop_eq_nil_of_le (by rw [HN.out]; omega)]; rfl
            rw [he] at hsbj
            obtain ⟨a, c, rfl⟩ : ∃ a c, u3 = .slice a 0 c := by
              rcases hsbj with ⟨a, c, rfl, _⟩ | ⟨_, _, _, _, h0, _⟩
              · exact ⟨a, c, rfl⟩
              · simp at h0
            have k25 := fun W h => read23 (.slice none 0 0) [] W (by simp) (.inl ⟨_, _, rfl, rfl⟩) h
            rw [rdV_none] at k25
            clear he hsbj
            go_wp2_with (go_at_call 25; (refine (k25 _ (hgb _ hbj)).mono ?_; rintro e w1 ⟨rfl, hb1⟩))
            go_ret
            exact ⟨rfl, hB ▸ ((hbj.trans (hb1.mono hBj)).alloc (Nat.le_trans hBj hb1.size) _)⟩

set_option maxRecDepth 100000 in
set_option maxHeartbeats 2000000 in
theorem line8_nil (a : Option Addr) (c : Nat) (w : World) (hg : Good w) :
    Calls Tryd.prog 8 #[.slice a 0 c] w fun e w' => e = .returned (.bool true) ∧ Below w.heap.size w w' := by
  have k25 := read23 (.slice none 0 0) [] w (by simp) (.inl ⟨_, _, rfl, rfl⟩) hg
  rw [rdV_none] at k25
  go_enter Tryd.func8, Tryd.ntmps8
  go_wp2
  refine wp_loop_rounds 1 ?_
  rw [rounds_succ]
  go_wp2
  refine wp_loop_rounds 1 ?_
  rw [rounds_succ]
  go_wp2_with (go_at_call 25; (refine k25.mono ?_; rintro e w1 ⟨rfl, hb1⟩))
  go_ret
  exact ⟨rfl, bmore hb1 (al _ _)⟩

theorem line8 (v : Value) (vs : List Vt) (w : World) (hsv : SV w v vs) (hn : ∀ x ∈ vs, inI64 x.2.1) (hz : vs.length ≤ 140737488355328 ∧ ∀ x ∈ vs, x.2.2.size ≤ 140737488355328) (hg : Good w) :
    Calls Tryd.prog 8 #[v] w fun e w' => e = .returned (.bool true) ∧ Below w.heap.size w w' := by
  rcases hsv with ⟨a, c, rfl, _⟩ | ⟨b, o, c, rfl, h0, hc, hcm, hat⟩
  · exact line8_nil a c w hg
  · exact line8_some b o c vs.length vs w rfl (by omega) hc hcm hat (fun x hx => ⟨hn x hx, by have := hz.2 x hx; omega⟩) hg

end Go.Proofs.YtolggmmlaohpdabDoor
