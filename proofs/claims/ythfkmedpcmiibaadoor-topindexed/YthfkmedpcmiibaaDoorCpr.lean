/- codec.Compare of every two rows. -/
import Derived.Test.YthfkmedpcmiibaaDoorEnc
namespace Go.Proofs.YthfkmedpcmiibaaDoor
open Go.RowKit Go.Lib

/-- Which of two values comes first. -/
def cmpT (x y : Vt) : Int := cmpV x.1 x.2.1 (bs x.2.2) y.1 y.2.1 (bs y.2.2)
/-- Which of two lists of values comes first. -/
def cmpL : List Vt → List Vt → Int
  | [], [] => 0
  | [], _ :: _ => -1
  | _ :: _, [] => 1
  | x :: a, y :: b => if cmpT x y = 0 then cmpL a b else cmpT x y
/-- Which of two rows comes first. -/
def cmpR (a : List Vt) (f t : Int) (b : List Vt) (f' t' : Int) : Int := if cmpL a b = 0 then (if f = f' then compareInt t t' else compareInt f f') else cmpL a b

theorem two_over {w w1 : World} {o1 o2 : Obj} (h : Below ((w.alloc o1).alloc o2).heap.size ((w.alloc o1).alloc o2) w1) : Below w.heap.size w w1 := bmore (bmore (al w o1) (al _ o2)) h
/-- Two blocks that were laid, behind a call. -/
theorem two_blocks {w w1 : World} {o1 o2 : Obj} (h : Below ((w.alloc o1).alloc o2).heap.size ((w.alloc o1).alloc o2) w1) (i : Nat) :
    (w1.cell? ⟨w.heap.size, i, none⟩ = (w.alloc o1).cell? ⟨w.heap.size, i, none⟩ ∧ w1.frozen? ⟨w.heap.size, i, none⟩ = (w.alloc o1).frozen? ⟨w.heap.size, i, none⟩) ∧
    (w1.cell? ⟨w.heap.size + 1, i, none⟩ = ((w.alloc o1).alloc o2).cell? ⟨w.heap.size + 1, i, none⟩ ∧ w1.frozen? ⟨w.heap.size + 1, i, none⟩ = ((w.alloc o1).alloc o2).frozen? ⟨w.heap.size + 1, i, none⟩) := by
  have b2 : Below (w.alloc o1).heap.size (w.alloc o1) w1 := bmore (al _ o2) h
  exact ⟨⟨b2.cell (p := ⟨w.heap.size, i, none⟩) (by simp), b2.frozen (p := ⟨w.heap.size, i, none⟩) (by simp)⟩, h.cell (p := ⟨w.heap.size + 1, i, none⟩) (by simp), h.frozen (p := ⟨w.heap.size + 1, i, none⟩) (by simp)⟩

theorem sv_form {w : World} {v : Value} {vs : List Vt} (h : SV w v vs) : ∃ a c, v = .slice a vs.length c ∧ (0 < vs.length → ∃ b o, a = some ⟨b, o, none⟩ ∧ VAt w b o vs) := by
  rcases h with ⟨a, c, rfl, rfl⟩ | ⟨b, o, c, rfl, h0, _, _, hat⟩
  · exact ⟨a, c, rfl, fun h => by simp at h⟩
  · exact ⟨_, c, rfl, fun _ => ⟨b, o, rfl, hat⟩⟩

theorem cmpL_step {a b : List Vt} {k : Nat} {x y : Vt} (hx : a[k]? = some x) (hy : b[k]? = some y) : cmpL (a.drop k) (b.drop k) = if cmpT x y = 0 then cmpL (a.drop (k + 1)) (b.drop (k + 1)) else cmpT x y := by
  have h1 := List.getElem?_eq_some_iff.1 hx
  have h2 := List.getElem?_eq_some_iff.1 hy
  rw [List.drop_eq_getElem_cons h1.1, List.drop_eq_getElem_cons h2.1, h1.2, h2.2]
  rfl
theorem cmpT_three (x y : Vt) : cmpT x y = -1 ∨ cmpT x y = 0 ∨ cmpT x y = 1 := cmpV_three _ _ _ _ _ _
theorem cmpL_three : ∀ a b : List Vt, cmpL a b = -1 ∨ cmpL a b = 0 ∨ cmpL a b = 1
  | [], [] => .inr (.inl rfl)
  | [], _ :: _ => .inl rfl
  | _ :: _, [] => .inr (.inr rfl)
  | x :: a, y :: b => by
    unfold cmpL
    split
    · exact cmpL_three a b
    · exact cmpT_three x y

set_option maxRecDepth 100000 in
set_option maxHeartbeats 2000000 in
theorem cmp30 (v v' : Value) (a b : List Vt) (w : World) (ha : SV w v a) (hb : SV w v' b) (hza : a.length ≤ 140737488355328) (hzb : b.length ≤ 140737488355328) :
    Calls Tryd.prog 22 #[v, v', .func (.func 23) #[] #[]] w fun e w' => e = .returned (.int .i64 (cmpL a b)) ∧ Below w.heap.size w w' := by
  obtain ⟨pa, ca, rfl, hfa⟩ := sv_form ha
  obtain ⟨pb, cb, rfl, hfb⟩ := sv_form hb
  clear ha hb
  obtain ⟨n, hn⟩ : ∃ n, a.length = n := ⟨_, rfl⟩
  obtain ⟨m, hm⟩ : ∃ m, b.length = m := ⟨_, rfl⟩
  have HA : Hid (a.length = n) := hn
  have HB : Hid (b.length = m) := hm
  have HFA : Hid (0 < n → ∃ b' o, pa = some ⟨b', o, none⟩ ∧ VAt w b' o a) := by rw [hn] at hfa; exact hfa
  have HFB : Hid (0 < m → ∃ b' o, pb = some ⟨b', o, none⟩ ∧ VAt w b' o b) := by rw [hm] at hfb; exact hfb
  rw [hn] at hza ⊢
  rw [hm] at hzb ⊢
  clear hn hm hfa hfb
  go_enter Tryd.func22, Tryd.ntmps22
  go_wp2
  go_loopw [13] (fun i wr => ∃ k : Nat, k ≤ n ∧ k ≤ m ∧ i = .int .i64 (k : Int) ∧ cmpL a b = cmpL (a.drop k) (b.drop k) ∧ Below w.heap.size w wr) (fun i _ => n - (Lib.intOf i).toNat)
  case atStart => exact ⟨0, by omega, by omega, rfl, rfl, Below.refl _ _⟩
  case round =>
    obtain ⟨k, hkn, hkm, rfl, hcmp, hbe⟩ := hrel
    by_cases hlt : k < n
    · have hkz : (k : Int) < (n : Int) := by omega
      obtain ⟨b1, o1, rfl, hat1⟩ := HFA.out (by omega)
      obtain ⟨x, hx⟩ : ∃ x, a[k]? = some x := ⟨_, List.getElem?_eq_getElem (by rw [HA.out]; exact hlt)⟩
      obtain ⟨a0, a1, a2⟩ := (hat1.below hbe) k x hx
      by_cases hlm : k < m
      · have hkz2 : ¬ ((m : Int) ≤ (k : Int)) := by omega
        have hkz3 : (k : Int) < (m : Int) := by omega
        obtain ⟨b2, o2, rfl, hat2⟩ := HFB.out (by omega)
        obtain ⟨y, hy⟩ : ∃ y, b[k]? = some y := ⟨_, List.getElem?_eq_getElem (by rw [HB.out]; exact hlm)⟩
        have hat2b := fun ob => (hat2.below hbe).below (al wr ob) k y hy
        have HS : Hid (cmpL a b = if cmpT x y = 0 then cmpL (a.drop (k + 1)) (b.drop (k + 1)) else cmpT x y) := by
          show _ = _
          rw [hcmp]; exact cmpL_step hx hy
        clear hcmp
        have c31 := compare14 x.1 x.2.1 x.2.2 y.1 y.2.1 y.2.2
        rw [show cmpV x.1 x.2.1 (bs x.2.2) y.1 y.2.1 (bs y.2.2) = cmpT x y from rfl] at c31
        obtain ⟨xk, xn, xs⟩ := x
        obtain ⟨yk, yn, ys⟩ := y
        simp only at a0 a1 a2 hat2b c31
        have q0 := fun ob => (hat2b ob).1
        have q1 := fun ob => (hat2b ob).2.1
        have q2 := fun ob => (hat2b ob).2.2
        generalize hT : cmpT (xk, xn, xs) (yk, yn, ys) = T at *
        clear hat2b hT hx hy
        by_cases hT0 : T = 0
        · subst hT0
          go_wp2_with (go_at_call 23; (refine (c31 _).mono ?_; rintro e w1 ⟨rfl, hb1⟩))
          go_roundw
          case rel => exact ⟨k + 1, by omega, by omega, by go_num, by rw [HS.out]; rfl, bmore (bmore (bmore hbe (al _ _)) (al _ _)) hb1⟩
          case measure => simp [Lib.intOf]; omega
        · have hT1 : (T != 0) = true := by simpa using hT0
          go_wp2_with (go_at_call 23; (refine (c31 _).mono ?_; rintro e w1 ⟨rfl, hb1⟩))
          go_ret
          exact ⟨by rw [HS.out, if_neg hT0]; rfl, bmore (bmore (bmore hbe (al _ _)) (al _ _)) hb1⟩
      · have hkz2 : (m : Int) ≤ (k : Int) := by omega
        have HS : Hid (cmpL a b = 1) := by
          show _ = _
          rw [hcmp, show b.drop k = [] from List.drop_eq_nil_of_le (by rw [HB.out]; omega), List.drop_eq_getElem_cons (List.getElem?_eq_some_iff.1 hx).1]
          rfl
        obtain ⟨xk, xn, xs⟩ := x
        simp only at a0 a1 a2
        clear hcmp hx
        go_wp2
        go_ret
        exact ⟨by rw [HS.out]; rfl, bmore hbe (al _ _)⟩
    · have hkz : ¬ ((k : Int) < (n : Int)) := by omega
      have hda : a.drop k = [] := List.drop_eq_nil_of_le (by rw [HA.out]; omega)
      rw [hda] at hcmp
      by_cases hnm : n < m
      · have hz : (n : Int) < (m : Int) := by omega
        have HS : Hid (cmpL a b = -1) := by
          show _ = _
          rw [hcmp, List.drop_eq_getElem_cons (by rw [HB.out]; omega : k < b.length)]
          rfl
        clear hcmp hda
        go_wp2
        go_ret
        exact ⟨by rw [HS.out]; rfl, hbe⟩
      · have hz : ¬ ((n : Int) < (m : Int)) := by omega
        have HS : Hid (cmpL a b = 0) := by
          show _ = _
          rw [hcmp, show b.drop k = [] from List.drop_eq_nil_of_le (by rw [HB.out]; omega)]
          rfl
        clear hcmp hda
        go_wp2
        go_ret
        exact ⟨by rw [HS.out]; rfl, hbe⟩

set_option maxRecDepth 100000 in
set_option maxHeartbeats 2000000 in
theorem compare13 (v v' : Value) (a b : List Vt) (f t f' t' : Int) (w : World) (ha : SV w v a) (hb : SV w v' b) (hza : a.length ≤ 140737488355328) (hzb : b.length ≤ 140737488355328) :
    Calls Tryd.prog 10 #[RV v f t, RV v' f' t'] w fun e w' => e = .returned (.int .i64 (cmpR a f t b f' t')) ∧ Below w.heap.size w w' := by
  have c30 := fun o1 o2 => cmp30 v v' a b ((w.alloc o1).alloc o2) ((ha.below (al _ _)).below (al _ _)) ((hb.below (al _ _)).below (al _ _)) hza hzb
  have c32 := Tryd.cmp_Compare_int_f32
  unfold cmpR
  generalize cmpL a b = C at *
  clear ha hb hza hzb
  by_cases hC : C = 0
  · subst hC
    simp only [if_true]
    by_cases hf : f = f'
    · subst hf
      simp only [if_true]
      go_enter Tryd.func10, Tryd.ntmps10
      go_wp2_with (first
        | (go_at_call 22; (refine (c30 _ _).mono ?_; rintro e w1 ⟨rfl, hb1⟩; obtain ⟨⟨e0, _⟩, p0, _⟩ := two_blocks hb1 1; obtain ⟨⟨e1, _⟩, p1, _⟩ := two_blocks hb1 2; simp at e0 e1 p0 p1))
        | (go_at_call 24; (refine (c32 _ _ _).mono ?_; rintro e w2 ⟨rfl, rfl⟩)))
      go_ret
      exact ⟨rfl, two_over hb1⟩
    · have hfb : (f != f') = true := by simpa using hf
      simp only [hf, if_false]
      go_enter Tryd.func10, Tryd.ntmps10
      go_wp2_with (first
        | (go_at_call 22; (refine (c30 _ _).mono ?_; rintro e w1 ⟨rfl, hb1⟩; obtain ⟨⟨e0, _⟩, p0, _⟩ := two_blocks hb1 1; obtain ⟨⟨e1, _⟩, p1, _⟩ := two_blocks hb1 2; simp at e0 e1 p0 p1))
        | (go_at_call 24; (refine (c32 _ _ _).mono ?_; rintro e w2 ⟨rfl, rfl⟩)))
      go_ret
      exact ⟨rfl, two_over hb1⟩
  · have hCb : (C != 0) = true := by simpa using hC
    simp only [hC, if_false]
    go_enter Tryd.func10, Tryd.ntmps10
    go_wp2_with (go_at_call 22; (refine (c30 _ _).mono ?_; rintro e w1 ⟨rfl, hb1⟩))
    go_ret
    exact ⟨rfl, two_over hb1⟩

end Go.Proofs.YthfkmedpcmiibaaDoor
