/- codec.Same of every values; the reference's Key. -/
import Derived.Test.YtolggmmlaohpdabDoorTel2
import Derived.Laws.StructEq
namespace Go.Proofs.YtolggmmlaohpdabDoor
open Go.RowKit Go.Lib
set_option maxRecDepth 100000

theorem neq46 (k n : Int) (s : ByteArray) (k' n' : Int) (s' : ByteArray) (W : World) : (binOp .neq 46 (V k n s) (V k' n' s')).run Tryd.prog W = .ok (.bool (!((k == k') && ((n == n') && (s.toList == s'.toList))))) W := by
  have h1 : Tryd.prog.underlying 46 = some (.struct (Tryd.prog.fieldsOf 46)) := by kernel_rfl
  have h2 : Tryd.prog.stoodInHeld 46 = false := by kernel_rfl
  rw [run_neq_struct, show (10000 : Nat) = 9999 + 1 from rfl, run_equalIn_struct _ _ _ _ _ h1 h2]
  have hf : (Tryd.prog.fieldsOf 46) = (match Tryd.prog.underlying 46 with | some (.struct fs) => fs | _ => #[]) := rfl
  rw [hf, Tryd.underlying46]
  clear hf h1 h2
  by_cases e1 : k = k' <;> by_cases e2 : n = n' <;> cases e3 : (s.toList == s'.toList) <;> simp [go_sem, e1, e2, e3]

theorem eqL_zero {x y : Vt} : (!((x.1 == y.1) && ((x.2.1 == y.2.1) && (x.2.2.toList == y.2.2.toList)))) = !(cmpT x y == 0) := by
  obtain ⟨k, n, s⟩ := x
  obtain ⟨k', n', s'⟩ := y
  congr 1
  rw [Bool.eq_iff_iff]
  simp only [Bool.and_eq_true, beq_iff_eq]
  constructor
  · rintro ⟨rfl, rfl, h⟩
    have : bs s = bs s' := (toList_data s).symm.trans (h.trans (toList_data s'))
    show cmpV _ _ _ _ _ _ = 0
    rw [this]
    exact cmpV_self _ _ _
  · intro h
    obtain ⟨h1, h2, h3⟩ := cmpV_zero h
    exact ⟨h1, h2, (toList_data s).trans (h3.trans (toList_data s').symm)⟩

theorem cmpL_len : ∀ a b : List Vt, cmpL a b = 0 → a.length = b.length
  | [], [], _ => rfl
  | [], _ :: _, h => by simp [cmpL] at h
  | _ :: _, [], h => by simp [cmpL] at h
  | x :: a, y :: b, h => by
    unfold cmpL at h
    split at h
    · simp [cmpL_len a b h]
    · rename_i h2; exact absurd h h2

set_option maxHeartbeats 2000000 in
theorem equal35 (v v' : Value) (a b : List Vt) (w : World) (ha : SV w v a) (hb : SV w v' b) (hza : a.length ≤ 140737488355328) (hzb : b.length ≤ 140737488355328) :
    Calls Tryd.prog 35 #[v, v'] w fun e w' => e = .returned (.bool (cmpL a b == 0)) ∧ Below w.heap.size w w' := by
  obtain ⟨pa, ca, rfl, hfa⟩ := sv_form ha
  obtain ⟨pb, cb, rfl, hfb⟩ := sv_form hb
  clear ha hb
  obtain ⟨n, hn⟩ : ∃ n, a.length = n := ⟨_, rfl⟩
  obtain ⟨m, hm⟩ : ∃ m, b.length = m := ⟨_, rfl⟩
  have HA : Hid (a.length = n) := hn
  have HB : Hid (b.length = m) := hm
  have HFA : Hid (0 < n → ∃ b' o, pa = some ⟨b', o, none⟩ ∧ VAt w b' o a) := by rw [hn] at hfa; exact hfa
  have HFB : Hid (0 < m → ∃ b' o, pb = some ⟨b', o, none⟩ ∧ VAt w b' o b) := by rw [hm] at hfb; exact hfb
  rw [hn] at hza ⊢
  rw [hm] at hzb ⊢
  clear hn hm hfa hfb
  by_cases hnm : n = m
  · subst hnm
    go_enter Tryd.func35, Tryd.ntmps35
    go_wp2_with fail
    go_loopw [13] (fun i wr => ∃ k : Nat, k ≤ n ∧ i = .int .i64 (k : Int) ∧ cmpL a b = cmpL (a.drop k) (b.drop k) ∧ Below w.heap.size w wr) (fun i _ => n - (Lib.intOf i).toNat)
    case atStart => exact ⟨0, by omega, rfl, rfl, Below.refl _ _⟩
    case round =>
      obtain ⟨k, hkn, rfl, hcmp, hbe⟩ := hrel
      by_cases hlt : k < n
      · have hkz : (k : Int) < (n : Int) := by omega
        obtain ⟨b1, o1, rfl, hat1⟩ := HFA.out (by omega)
        obtain ⟨x, hx⟩ : ∃ x, a[k]? = some x := ⟨_, List.getElem?_eq_getElem (by rw [HA.out]; exact hlt)⟩
        obtain ⟨b2, o2, rfl, hat2⟩ := HFB.out (by omega)
        obtain ⟨y, hy⟩ : ∃ y, b[k]? = some y := ⟨_, List.getElem?_eq_getElem (by rw [HB.out]; exact hlt)⟩
        obtain ⟨a0, a1, a2⟩ := (hat1.below hbe) k x hx
        obtain ⟨q0, q1, q2⟩ := (hat2.below hbe) k y hy
        have HS : Hid (cmpL a b = if cmpT x y = 0 then cmpL (a.drop (k + 1)) (b.drop (k + 1)) else cmpT x y) := by
          show _ = _
          rw [hcmp]; exact cmpL_step hx hy
        clear hcmp
        obtain ⟨xk, xn, xs⟩ := x
        obtain ⟨yk, yn, ys⟩ := y
        simp only at a0 a1 a2 q0 q1 q2
        have hz0 : (0 : Int) ≤ (k : Int) := by omega
        have hq := neq46 xk xn xs yk yn ys
        have hgd : Tryd.prog.eqGuardType Tryd.prog.depth 46 = false := by kernel_rfl
        rw [eqL_zero (x := (xk, xn, xs)) (y := (yk, yn, ys))] at hq
        generalize cmpT (xk, xn, xs) (yk, yn, ys) = T at *
        clear hx hy hat1 hat2
        by_cases hT : T = 0
        · subst hT
          rw [show (!((0 : Int) == 0)) = false from rfl] at hq
          go_wp2_with fail
          go_quiet (fail)
          go_wp2_with fail
          go_roundw
          case rel => exact ⟨k + 1, by omega, by go_num, by rw [HS.out]; rfl, below_drewN hbe _⟩
          case measure => simp [Lib.intOf]; omega
        · rw [show (!(T == 0)) = true by simpa using hT] at hq
          go_wp2_with fail
          go_quiet (fail)
          go_wp2_with fail
          go_ret
          exact ⟨by rw [HS.out, if_neg hT]; simp [hT], below_drewN hbe _⟩
      · have hkz : ¬ ((k : Int) < (n : Int)) := by omega
        have HS : Hid (cmpL a b = 0) := by
          show _ = _
          rw [hcmp, show a.drop k = [] from List.drop_eq_nil_of_le (by rw [HA.out]; omega), show b.drop k = [] from List.drop_eq_nil_of_le (by rw [HB.out]; omega)]
          rfl
        clear hcmp
        go_wp2_with fail
        go_ret
        exact ⟨by rw [HS.out]; rfl, hbe⟩
  · have hne : ((n : Int) != (m : Int)) = true := by simp; omega
    have HS : Hid (cmpL a b ≠ 0) := fun h => hnm (by rw [← HA.out, ← HB.out]; exact cmpL_len a b h)
    go_enter Tryd.func35, Tryd.ntmps35
    go_wp2_with fail
    go_ret
    exact ⟨by rw [show (cmpL a b == 0) = false by simpa using HS.out]; rfl, Below.refl _ _⟩

theorem same15 (v v' : Value) (a b : List Vt) (w : World) (ha : SV w v a) (hb : SV w v' b) (hza : a.length ≤ 140737488355328) (hzb : b.length ≤ 140737488355328) :
    Calls Tryd.prog 15 #[v, v'] w fun e w' => e = .returned (.bool (cmpL a b == 0)) ∧ Below w.heap.size w w' := by
  have c35 := equal35 v v' a b w ha hb hza hzb
  generalize cmpL a b = C at *
  clear ha hb
  go_enter Tryd.func15, Tryd.ntmps15
  go_wp2_with (go_at_call 35; (refine c35.mono ?_; rintro e w1 ⟨rfl, hb1⟩))
  go_ret
  exact ⟨rfl, hb1⟩

set_option maxHeartbeats 2000000 in
theorem key18_nil (a : Option Addr) (c : Nat) (f t : Int) (w : World) :
    Calls Tryd.prog 18 #[RV (.slice a 0 c) f t] w fun e w' => e = .returned (.string ⟨#[]⟩) ∧ Below w.heap.size w w' := by
  go_enter Tryd.func18, Tryd.ntmps18
  go_wp2
  go_ret
  exact ⟨rfl, al _ _⟩

set_option maxHeartbeats 2000000 in
theorem key18_some (b o n c : Nat) (x : Vt) (f t : Int) (w : World) (_h0 : ¬ ((n : Int) = 0)) (h0' : (0 : Int) < (n : Int)) (hat : w.cell? ⟨b, o, none⟩ = some (.int .u8 x.1) ∧ w.cell? ⟨b, o + 1, none⟩ = some (.int .i64 x.2.1) ∧ w.cell? ⟨b, o + 2, none⟩ = some (.string x.2.2)) (hx : inI64 x.2.1 ∧ x.2.2.size < 4611686018427387904) (hg : Good w) :
    Calls Tryd.prog 18 #[RV (.slice (some ⟨b, o, none⟩) n c) f t] w fun e w' => e = .returned (.string (str (if okV x then bytesT x else []))) ∧ Below w.heap.size w w' := by
  obtain ⟨a0, a1, a2⟩ := hat
  have hb : b < w.heap.size := World.block_lt_of_cell? _ _ a0
  have hne : b ≠ w.heap.size := by omega
  have d0 : ∀ ob, (w.alloc ob).cell? ⟨b, o, none⟩ = some (.int .u8 x.1) := fun ob => by rw [World.cell?_alloc_old _ _ _ hne]; exact a0
  have d1 : ∀ ob, (w.alloc ob).cell? ⟨b, o + 1, none⟩ = some (.int .i64 x.2.1) := fun ob => by rw [World.cell?_alloc_old _ _ _ hne]; exact a1
  have d2 : ∀ ob, (w.alloc ob).cell? ⟨b, o + 2, none⟩ = some (.string x.2.2) := fun ob => by rw [World.cell?_alloc_old _ _ _ hne]; exact a2
  have hgo : ∀ ob, Good (w.alloc ob) := fun ob => hg.below (al _ _)
  obtain ⟨xk, xn, xs⟩ := x
  simp only at d0 d1 d2 hx
  clear a0 a1 a2 hb hne
  cases hR : okV (xk, xn, xs)
  · have k24 := fun W h => bytes22_no xk xn xs W hx.2 hR h
    have cv : ∀ W, (convert 34 9 (.slice none 0 0)).run Tryd.prog W = .ok (.string ByteArray.empty) W := fun W => run_convert_bytes_nil W 34 5 Tryd.underlying34 Tryd.underlying5 0 0 9 Tryd.underlying9
    simp only [Bool.false_eq_true, if_false]
    clear hR hx
    go_enter Tryd.func18, Tryd.ntmps18
    go_wp2_with (go_at_call 36; (refine (k24 _ (hgo _)).mono ?_; rintro e w1 ⟨rfl, hb1⟩))
    go_ret
    exact ⟨rfl, bmore (al _ _) hb1⟩
  · have k24 := fun W h => bytes22_yes xk xn xs W hx.1 hR h
    simp only [if_true]
    show Calls _ _ _ _ fun e w' => e = .returned (.string (str (bytesV xk xn (bs xs)))) ∧ _
    generalize bytesV xk xn (bs xs) = X at *
    clear hR hx
    go_enter Tryd.func18, Tryd.ntmps18
    go_wp2_with (go_at_call 36; (refine (k24 _ (hgo _)).mono ?_; rintro e w1 ⟨u, rfl, hrow, hb1⟩; have cv := conv_own hrow))
    go_ret
    exact ⟨rfl, bmore (al _ _) hb1⟩

theorem key18 (v : Value) (vs : List Vt) (f t : Int) (w : World) (hsv : SV w v vs) (hvs : Few vs) (hg : Good w) :
    Calls Tryd.prog 18 #[RV v f t] w fun e w' => e = .returned (.string (str (keyR vs))) ∧ Below w.heap.size w w' := by
  rcases hsv with ⟨a, c, rfl, rfl⟩ | ⟨b, o, c, rfl, h0, hc, hcm, hat⟩
  · exact key18_nil a c f t w
  · cases vs with
    | nil => simp at h0
    | cons x r =>
      have h1 := hat 0 x (by simp)
      simp only [Nat.zero_mul, Nat.add_zero] at h1
      exact key18_some b o _ c x f t w (by simp; omega) (by simp) h1 (hvs x (by simp)) hg

end Go.Proofs.YtolggmmlaohpdabDoor
