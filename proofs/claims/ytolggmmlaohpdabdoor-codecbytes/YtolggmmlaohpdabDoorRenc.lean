/- The reference of codec: two, Encode. -/
import Derived.Test.YtolggmmlaohpdabDoorTel
import Derived.Deep.RegionHeld3
namespace Go.Proofs.YtolggmmlaohpdabDoor
open Go.RowKit Go.Lib
set_option maxRecDepth 100000

theorem two38 (p : Int) (w : World) (h1 : -1000 ≤ p) (h2 : p ≤ 1000) :
    Calls Tryd.prog 38 #[.int .i64 p] w fun e w' => e = .returned (.slice (some ⟨w.heap.size, 0, none⟩) 2 2) ∧ At w' w.heap.size 0 (two p) ∧ Below w.heap.size w w' ∧ w.heap.size < w'.heap.size := by
  obtain ⟨q, hq⟩ : ∃ q : Nat, p + 1000 = (q : Int) := ⟨(p + 1000).toNat, by omega⟩
  have hp : p = (q : Int) - 1000 := by omega
  subst hp
  have HT : Hid (two ((q : Int) - 1000) = [UInt8.ofNat (q / 256), UInt8.ofNat (q % 256)]) := by
    show _ = _
    unfold two
    rw [hq, Int.toNat_natCast]
  clear hq
  have hc : At (w.alloc (.cells #[.int .u8 ((q : Int) / 256), .int .u8 ((q : Int) % 256)] 5)) w.heap.size 0 (two ((q : Int) - 1000)) := by
    rw [HT.out]
    intro j hj
    rw [Nat.zero_add, World.cell?_alloc_at _ _ _ _ rfl]
    match j, hj with
    | 0, _ =>
      have e : (UInt8.ofNat (q / 256)).toNat = q / 256 := by rw [UInt8.toNat_ofNat']; omega
      simp [e]
    | 1, _ =>
      have e : (UInt8.ofNat (q % 256)).toNat = q % 256 := by rw [UInt8.toNat_ofNat']; omega
      simp [e]
  go_enter Tryd.func38, Tryd.ntmps38
  go_wp2
  go_ret
  exact ⟨rfl, hc, al _ _, by simp⟩

set_option maxHeartbeats 2000000 in
theorem encode20_no (v : Value) (vs : List Vt) (f t : Int) (w : World) (hsv : SV w v vs) (hz : vs.length ≤ 140737488355328) (hvs : Few vs) (hr : rightRow vs f t = false) (hg : Good w) :
    Calls Tryd.prog 20 #[RV v f t] w fun e w' => e = .returned (.tuple #[.slice none 0 0, .int .i64 3]) ∧ Below w.heap.size w w' := by
  have c11 := fun W (h : Below w.heap.size w W) => rowRight12 v vs f t W (hsv.below h) hz hvs (hg.below h)
  rw [hr] at c11
  clear hr hsv hz hvs hg
  go_enter Tryd.func20, Tryd.ntmps20
  go_wp2_with (go_at_call 12; (refine (c11 _ (al _ _)).mono ?_; rintro e w1 ⟨rfl, hb1⟩))
  go_ret2
  exact ⟨rfl, bmore (al _ _) hb1⟩

theorem step_push_sb {w : World} {ops : Array Oper} {o : Oper} {a : Act} {K : Act → World → Prop} {Q : Exit → Act → World → Prop} {E : Prop} (hgd : o.guard = none) (s x : Operand)
    (ho : o.op = .call { callee := .builtin .append, args := #[s, x], argTypes := #[34, 34] }) (B : Nat) (v u : Value) (xs ys : Bs) (hs : a.eval s = v) (hx : a.eval x = u)
    (hown : BRow B v xs w) (hu : SB w u ys) (hlen : xs.length + ys.length ≤ 140737488355328) (hB : B ≤ w.heap.size)
    (h : ∀ v' w', BRow B v' (xs ++ ys) w' → w.grownBy w' v.ownBlock → K (a.put o.dst v') w') :
    if Region.wanted o (yielded ops a.tmps) = true then Oper.wp Tryd.prog o a w K Q else E := by
  have hw : Region.wanted o (yielded ops a.tmps) = true := by simp [Region.wanted, hgd]
  rw [if_pos hw]
  obtain ⟨v', w', hr, h2, h3⟩ := run_append_sb w B o.type v u xs ys hown hu hlen hB
  unfold Oper.wp execOp
  simp only [ho, resolve, invoke, builtin, Sem.run_bind, Sem.run_pure, Result.andThen_ok, List.map_toArray, List.map_cons, List.map_nil, hs, hx, hr]
  exact h v' w' h2 h3

theorem sb_two {w : World} {g : Nat} {p : Int} (h : At w g 0 (two p)) : SB w (.slice (some ⟨g, 0, none⟩) 2 2) (two p) := .inr ⟨g, 0, 2, rfl, by simp [two], by simp [two], by unfold maxLen; omega, h⟩
theorem At.grown {w w' : World} {g o : Nat} {l : Bs} {r : Option Nat} (h : At w g o l) (hg : w.grownBy w' r) (hr : some g ≠ r) : At w' g o l := fun i hi => hg.cell (h i hi) hr

set_option maxHeartbeats 2000000 in
theorem encode20_some (b o n c : Nat) (vs : List Vt) (f t : Int) (w : World) (hl : Hid (vs.length = n)) (hn4 : n ≤ 4) (hat : VAt w b o vs) (hvs : Few vs) (hok : ∀ x ∈ vs, okV x = true) (hs : spanR f t = true)
    (c11 : ∀ W, Below w.heap.size w W → Calls Tryd.prog 12 #[RV (.slice (some ⟨b, o, none⟩) n c) f t] W fun e w' => e = .returned (.bool true) ∧ Below W.heap.size W w') (hg : Good w) :
    Calls Tryd.prog 20 #[RV (.slice (some ⟨b, o, none⟩) n c) f t] w fun e w' => ∃ u, e = .returned (.tuple #[u, .int .i64 0]) ∧ BRow w.heap.size u (encR vs f t) w' ∧ Below w.heap.size w w' := by
  have hsp := spanR_parts hs
  have HO : Hid (∀ x ∈ vs, okV x = true ∧ inI64 x.2.1) := fun x hx => ⟨hok x hx, (hvs x hx).1⟩
  have hfl : ∀ k, (flat (vs.take k)).length ≤ 34 * n := fun k => by
    have h1 := flat_len (vs.take k) (fun x hx => hok x (List.mem_of_mem_take hx))
    have h2 := List.length_take_le' k vs
    rw [hl.out] at h2
    omega
  have hgb : ∀ W, Below w.heap.size w W → Good W := fun W h => hg.below h
  have hatb : ∀ W, Below w.heap.size w W → VAt W b o vs := fun W h => hat.below h
  clear hat hvs hok hs hg
  obtain ⟨W0, hW0⟩ : ∃ W0, w.alloc (.cells #[.slice (some ⟨b, o, none⟩) n c, .int .i64 f, .int .i64 t] 26) = W0 := ⟨_, rfl⟩
  have hW : Below w.heap.size w W0 := hW0 ▸ al _ _
  have hWz : W0.heap.size = w.heap.size + 1 := by rw [← hW0]; simp
  have hbox : W0.cell? ⟨w.heap.size, 0, none⟩ = some (.slice (some ⟨b, o, none⟩) n c) ∧ W0.cell? ⟨w.heap.size, 1, none⟩ = some (.int .i64 f) ∧ W0.cell? ⟨w.heap.size, 2, none⟩ = some (.int .i64 t) := by
    rw [← hW0]
    exact ⟨World.cell?_alloc_at _ _ _ _ rfl, World.cell?_alloc_at _ _ _ _ rfl, World.cell?_alloc_at _ _ _ _ rfl⟩
  have hcb : ∀ W, Below W0.heap.size W0 W → W.cell? ⟨w.heap.size, 0, none⟩ = some (.slice (some ⟨b, o, none⟩) n c) ∧ W.cell? ⟨w.heap.size, 1, none⟩ = some (.int .i64 f) ∧ W.cell? ⟨w.heap.size, 2, none⟩ = some (.int .i64 t) := fun W h => by
    have hc := fun i => h.cell (p := ⟨w.heap.size, i, none⟩) (show w.heap.size < W0.heap.size by omega)
    exact ⟨(hc 0).trans hbox.1, (hc 1).trans hbox.2.1, (hc 2).trans hbox.2.2⟩
  have k38 : ∀ (v : Value) l p W, (p = f ∨ p = t) → EncK W0 w.heap.size f t v l W → Calls Tryd.prog 38 #[.int .i64 p] W fun e w' => ∃ g, e = .returned (.slice (some ⟨g, 0, none⟩) 2 2) ∧ At w' g 0 (two p) ∧ some g ≠ v.ownBlock ∧ EncK W0 w.heap.size f t v l w' ∧ Below W.heap.size W w' := fun v l p W hp h => by
    obtain ⟨_, h4, h5, h6⟩ := h
    refine (two38 p W (by omega) (by omega)).mono ?_
    rintro e w' ⟨rfl, h7, h8, h9⟩
    have h10 : Below W0.heap.size W0 w' := h5.trans (h8.mono h6)
    exact ⟨_, rfl, h7, fun e => by have := (World.ownsRow.lt h4 _ e.symm).2; omega, ⟨(hcb w' h10).2, h4.below h8, h10, by omega⟩, h8⟩
  have kpush : ∀ v v' l l' W w', EncK W0 w.heap.size f t v l W → BRow W0.heap.size v' l' w' → W.grownBy w' v.ownBlock → EncK W0 w.heap.size f t v' l' w' := fun v v' l l' W w' h h1 h2 => by
    have h3 := grow2 h.2.2.1 h.2.1 h2 h.2.2.2
    exact ⟨(hcb w' h3.1).2, h1, h3.1, h3.2⟩
  obtain ⟨y0, y1, y2⟩ := hbox
  go_enter Tryd.func20, Tryd.ntmps20
  go_wp2_with (go_at_call 12; (refine (c11 _ hW).mono ?_; rintro e w1 ⟨rfl, hb1⟩; obtain ⟨x0, x1, x2⟩ := hcb w1 hb1))
  go_loopw [4, 5] (fun u i wr => ∃ k : Nat, k ≤ n ∧ i = .int .i64 (k : Int) ∧ BRow W0.heap.size u (flat (vs.take k)) wr ∧ Below W0.heap.size W0 wr ∧ W0.heap.size ≤ wr.heap.size) (fun _ i _ => n - (Lib.intOf i).toNat)
  case atStart => exact ⟨0, by omega, rfl, BRow.none _ _, hb1, hb1.size⟩
  case round =>
    obtain ⟨k, hk, rfl, hown, hbe, hBz⟩ := hrel
    obtain ⟨z0, z1, z2⟩ := hcb wr hbe
    have hbw := bmore hW hbe
    by_cases hlt : k < n
    · have hkz : (k : Int) < (n : Int) := by omega
      obtain ⟨x, hx⟩ : ∃ x, vs[k]? = some x := ⟨_, List.getElem?_eq_getElem (by rw [hl.out]; exact hlt)⟩
      obtain ⟨a0, a1, a2⟩ := hatb wr hbw k x hx
      obtain ⟨hxo, hxi⟩ := HO.out x (List.mem_of_getElem? hx)
      have HT : Hid (flat (vs.take (k + 1)) = flat (vs.take k) ++ bytesT x) := by
        have hk' := (List.getElem?_eq_some_iff.1 hx)
        show _ = _
        rw [List.take_succ_eq_append_getElem hk'.1, hk'.2, flat_snoc]
      have hlk := hfl k
      have hbl := bytesT_len hxo
      have k24 := bytes22_yes x.1 x.2.1 x.2.2 wr hxi hxo (hgb wr hbw)
      obtain ⟨xk, xn, xs⟩ := x
      simp only at a0 a1 a2 k24
      generalize flat (vs.take k) = X at *
      go_wp2_with (first
        | (go_at_call 36; (refine k24.mono ?_; rintro e w2 ⟨u2, rfl, hux, hb2⟩; have hz2 := Nat.le_trans hBz hb2.size; have hw2 : Below W0.heap.size W0 w2 := hbe.trans (hb2.mono hBz)))
        | (at_builtin; (refine push_sb _ rfl (.tmp 27) (.tmp 28) rfl W0.heap.size _ _ X (bytesT (xk, xn, xs)) rfl rfl (hown.below hb2) (brow_sb hux) (by omega) hz2 ?_; intro v3 w3 hown3 hgrow; have hw3 := grow2 hw2 (hown.below hb2) hgrow hz2)))
      go_roundw
      case rel => exact ⟨k + 1, by omega, by go_num, by rw [HT.out]; exact hown3, hw3.1, hw3.2⟩
      case measure => simp [Lib.intOf]; omega
    · have hkz : ¬ ((k : Int) < (n : Int)) := by omega
      have hall : vs.take k = vs := List.take_of_length_le (by rw [hl.out]; omega)
      have hlk := hfl k
      rw [hall] at hown hlk
      have HE : Hid (encR vs f t = flat vs ++ [0] ++ two f ++ two t) := rfl
      generalize flat vs = X at *
      clear hall
      go_wp2_with (at_builtin; (refine push_own rfl (.tmp 30) (.tmp 31) rfl W0.heap.size _ X 0 rfl (hown.alloc _) ⟨wr.heap.size, 0, none⟩ rfl (by simp) (by omega) (by simp; omega) ?_; intro v3 w3 hown3 hgrow; have hw3 := grow2 (hbe.alloc hBz _) (hown.alloc _) hgrow (by simp; omega)))
      have hk : EncK W0 w.heap.size f t v3 (X ++ [0]) w3.drew := by
        have hd : Below w3.heap.size w3 w3.drew := (Below.refl _ _).drew
        have h5 : Below W0.heap.size W0 w3.drew := hw3.1.trans (hd.mono hw3.2)
        exact ⟨(hcb _ h5).2, hown3.below hd, h5, hw3.2⟩
      have hx0 : (X ++ [0]).length + (two f).length ≤ 140737488355328 := by simp [two]; omega
      have hx1 : (X ++ [0] ++ two f).length + (two t).length ≤ 140737488355328 := by simp [two]; omega
      clear hgrow hown3 hw3 hown hbe hBz z0 z1 z2 x0 x1 x2 hcb y0 y1 y2 hlk hfl hatb c11 hgb
      generalize X ++ [0] = X0 at *
      go_region_held3 (fun W => W.cell? ⟨w.heap.size, 1, none⟩ = some (.int .i64 f) ∧ W.cell? ⟨w.heap.size, 2, none⟩ = some (.int .i64 t)) (exact hk.1)
        (first
        | (go_at_call 38; with_reducible refine (k38 _ _ f _ (.inl rfl) hk).mono ?_; rintro e wk ⟨g1, rfl, hs1, hn1, hk, _⟩)
        | (go_at_call 38; with_reducible refine (k38 _ _ t _ (.inr rfl) hk).mono ?_; rintro e wk ⟨g2, rfl, hs2, hn2, hk, hbk⟩; have hs1 := hs1.below hbk)
        | (refine step_push_sb (by rfl) (.tmp 33) (.tmp 37) (by rfl) W0.heap.size _ _ X0 (two f) (by rfl) (by rfl) hk.2.1 (sb_two hs1) hx0 hk.2.2.2 ?_; intro v5 w5 hown5 hg5; have hs2 := hs2.grown hg5 hn2; have hk := kpush _ _ _ _ _ _ hk hown5 hg5; clear hown5 hg5)
        | (refine step_push_sb (by rfl) (.tmp 33) (.tmp 37) (by rfl) W0.heap.size _ _ X0 (two f) (by rfl) (by rfl) hk.2.1 (sb_two hs1) hx0 hk.2.2.2 ?_; intro v5 w5 hown5 hg5; have hs1 := hs1.grown hg5 hn1; have hk := kpush _ _ _ _ _ _ hk hown5 hg5; clear hown5 hg5)
        | (refine step_push_sb (by rfl) (.tmp 38) (.tmp 42) (by rfl) W0.heap.size _ _ (X0 ++ two f) (two t) (by rfl) (by rfl) hk.2.1 (sb_two hs2) hx1 hk.2.2.2 ?_; intro v6 w6 hown6 hg6; have hk := kpush _ _ _ _ _ _ hk hown6 hg6; clear hown6 hg6))
      all_goals
        go_wp2
        go_ret2
        exact ⟨_, rfl, by rw [HE.out]; exact hk.2.1.lower (by omega), bmore hW hk.2.2.1⟩

/-- The reference's Encode of a row that can be. -/
theorem encode20_yes (v : Value) (vs : List Vt) (f t : Int) (w : World) (hsv : SV w v vs) (hvs : Few vs) (hr : rightRow vs f t = true) (hg : Good w) :
    Calls Tryd.prog 20 #[RV v f t] w fun e w' => ∃ u, e = .returned (.tuple #[u, .int .i64 0]) ∧ BRow w.heap.size u (encR vs f t) w' ∧ Below w.heap.size w w' := by
  obtain ⟨h1, h4, hok, hs⟩ := rightRow_parts hr
  have c11 := fun W (h : Below w.heap.size w W) => rowRight12 v vs f t W (hsv.below h) (by omega) hvs (hg.below h)
  rw [hr] at c11
  rcases hsv with ⟨a, c, rfl, rfl⟩ | ⟨b, o, c, rfl, h0, hc, hcm, hat⟩
  · simp at h1
  · exact encode20_some b o vs.length c vs f t w rfl h4 hat hvs hok hs c11 hg

end Go.Proofs.YtolggmmlaohpdabDoor
