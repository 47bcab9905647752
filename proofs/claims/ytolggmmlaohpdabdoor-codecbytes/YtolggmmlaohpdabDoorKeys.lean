/- The law TopKeys: in every good world it answers true. -/
import Derived.Test.YtolggmmlaohpdabDoorCpr
import Derived.Deep.QuietTactic
import Derived.BigQuiet
namespace Go.Proofs.YtolggmmlaohpdabDoor
open Go.RowKit Go.Lib

/-- Three rows in a block of the call's, and what the calls keep. -/
def S9 (w0 : World) (B : Nat) (v0 : Value) (a0 : List Vt) (f0 t0 : Int) (v1 : Value) (a1 : List Vt) (f1 t1 : Int) (v2 : Value) (a2 : List Vt) (f2 t2 : Int) (W : World) : Prop :=
  (W.cell? ⟨B, 0, none⟩ = some v0 ∧ W.cell? ⟨B, 1, none⟩ = some (.int .i64 f0) ∧ W.cell? ⟨B, 2, none⟩ = some (.int .i64 t0) ∧ W.cell? ⟨B, 3, none⟩ = some v1 ∧ W.cell? ⟨B, 4, none⟩ = some (.int .i64 f1) ∧ W.cell? ⟨B, 5, none⟩ = some (.int .i64 t1) ∧ W.cell? ⟨B, 6, none⟩ = some v2 ∧ W.cell? ⟨B, 7, none⟩ = some (.int .i64 f2) ∧ W.cell? ⟨B, 8, none⟩ = some (.int .i64 t2)) ∧ B < W.heap.size ∧ SV W v0 a0 ∧ SV W v1 a1 ∧ SV W v2 a2 ∧ St w0 W
theorem S9.below {w0 : World} {B : Nat} {v0 : Value} {a0 : List Vt} {f0 t0 : Int} {v1 : Value} {a1 : List Vt} {f1 t1 : Int} {v2 : Value} {a2 : List Vt} {f2 t2 : Int} {W W' : World} (h : S9 w0 B v0 a0 f0 t0 v1 a1 f1 t1 v2 a2 f2 t2 W) (b : Below W.heap.size W W') : S9 w0 B v0 a0 f0 t0 v1 a1 f1 t1 v2 a2 f2 t2 W' := by
  obtain ⟨⟨h0, h1, h2, h3, h4, h5, h6, h7, h8⟩, hB, s0, s1, s2, hst⟩ := h
  have c := fun i => b.cell (p := ⟨B, i, none⟩) hB
  exact ⟨⟨(c 0).trans h0, (c 1).trans h1, (c 2).trans h2, (c 3).trans h3, (c 4).trans h4, (c 5).trans h5, (c 6).trans h6, (c 7).trans h7, (c 8).trans h8⟩, Nat.lt_of_lt_of_le hB b.size, s0.below b, s1.below b, s2.below b, hst.more b⟩

theorem enc_begins {x : Vt} {r : List Vt} {f t : Int} : (encR (x :: r) f t).take (bytesT x).length = bytesT x := by
  unfold encR
  rw [flat_cons, List.append_assoc, List.append_assoc, List.append_assoc, List.take_append_of_le_length (by omega), List.take_of_length_le (by omega)]
theorem keyR_right {vs : List Vt} {f t : Int} (h : rightRow vs f t = true) : ∃ x r, vs = x :: r ∧ okV x = true ∧ keyR vs = bytesT x := by
  obtain ⟨h1, _, h3, _⟩ := rightRow_parts h
  cases vs with
  | nil => simp at h1
  | cons x r =>
    have hx := h3 x (by simp)
    exact ⟨x, r, rfl, hx, by simp [keyR, hx]⟩
theorem key_facts {vs : List Vt} {f t : Int} (h : rightRow vs f t = true) : 0 < (keyR vs).length ∧ (keyR vs).length ≤ (encR vs f t).length ∧ (encR vs f t).take (keyR vs).length = keyR vs := by
  obtain ⟨x, r, rfl, hx, hk⟩ := keyR_right h
  rw [hk]
  have h1 := enc_begins (x := x) (r := r) (f := f) (t := t)
  have h2 := (bytesT_len hx).2
  refine ⟨by omega, ?_, h1⟩
  have h3 := congrArg List.length h1
  rw [List.length_take] at h3
  omega
theorem enc_len {vs : List Vt} {f t : Int} (h : rightRow vs f t = true) : (encR vs f t).length ≤ 200 := by
  obtain ⟨_, h2, h3, _⟩ := rightRow_parts h
  have := flat_len vs h3
  unfold encR
  simp [two]
  omega

/-- Encode as the walk wants it. -/
theorem enc_at (v : Value) (vs : List Vt) (f t : Int) (w : World) (hsv : SV w v vs) (hvs : Few vs) (hr : rightRow vs f t = true) (hg : Good w) :
    Calls Tryd.prog 19 #[RV v f t] w fun e w' => ∃ g c, e = .returned (.tuple #[.slice (some ⟨g, 0, none⟩) (encR vs f t).length c, .int .i64 0]) ∧ At w' g 0 (encR vs f t) ∧ (encR vs f t).length ≤ c ∧ Below w.heap.size w w' := by
  refine (encode19_yes v vs f t w hsv hvs hr hg).mono ?_
  rintro e w' ⟨u, rfl, h2, h3⟩
  obtain ⟨g, c, rfl, h4, _, _, hat⟩ := brow_at h2 (by have := key_facts hr; omega)
  exact ⟨g, c, rfl, hat, h4, h3⟩

/-- A row between two of one key has that key. -/
theorem cmpL_head {x y : Vt} {a b : List Vt} (h : cmpL (x :: a) (y :: b) ≤ 0) : cmpT x y ≤ 0 := by
  unfold cmpL at h
  split at h
  · omega
  · exact h
theorem cmpR_head {x y : Vt} {a b : List Vt} {f t f' t' : Int} (h : cmpR (x :: a) f t (y :: b) f' t' ≤ 0) : cmpT x y ≤ 0 := by
  unfold cmpR at h
  split at h
  · rename_i h0
    exact cmpL_head (Int.le_of_eq h0)
  · exact cmpL_head h
theorem bytesT_inj {x y : Vt} (hx : okV x = true) (hy : okV y = true) (ix : inI64 x.2.1) (iy : inI64 y.2.1) (h : bytesT x = bytesT y) : cmpT x y = 0 := by
  have h1 := bytesV_cmp hx hy ix iy [] []
  simp only [List.append_nil] at h1
  rw [show bytesV x.1 x.2.1 (bs x.2.2) = bytesV y.1 y.2.1 (bs y.2.2) from h, cb_self] at h1
  by_cases h0 : cmpT x y = 0
  · exact h0
  · have h2 : (0 : Int) = if cmpT x y = 0 then compareBytes [] [] else cmpT x y := h1
    rw [if_neg h0] at h2
    exact h2.symm
theorem key_between {a b c : List Vt} {fa ta fb tb fc tc : Int} (ha : rightRow a fa ta = true) (hb : rightRow b fb tb = true) (hc : rightRow c fc tc = true) (na : Few a) (nb : Few b) (nc : Few c)
    (h1 : cmpR a fa ta b fb tb ≤ 0) (h2 : cmpR b fb tb c fc tc ≤ 0) (hk : keyR a = keyR c) : keyR b = keyR a := by
  obtain ⟨x, r, rfl, hx, ex⟩ := keyR_right ha
  obtain ⟨y, s, rfl, hy, ey⟩ := keyR_right hb
  obtain ⟨z, u, rfl, hz, ez⟩ := keyR_right hc
  rw [ex, ez] at hk
  rw [ex, ey]
  have c1 := cmpR_head h1
  have c2 := cmpR_head h2
  have c3 := bytesT_inj hx hz (na x (by simp)).1 (nc z (by simp)).1 hk
  obtain ⟨e1, e2, e3⟩ := cmpV_zero c3
  have c4 : cmpT y x ≤ 0 := by
    unfold cmpT at c2 ⊢
    rw [e1, e2, e3]; exact c2
  have c5 : cmpT y x = -cmpT x y := cmpV_turn _ _ _ _ _ _
  have c6 : cmpT x y = 0 := by omega
  obtain ⟨d1, d2, d3⟩ := cmpV_zero c6
  unfold bytesT
  rw [d1, d2, d3]

theorem mixedTryd : Tryd.prog.follows .mixedOrders = true := by kernel_rfl

theorem hideK {p : Prop} (h : p) : Hid p := h
/-- A world of which S is known. -/
structure GW (S : World → Prop) where
  w : World
  h : S w
/-- A region that draws its order, whose operations only read, and whose calls keep S. -/
theorem wp_region_gw {id : Nat} {Q : Exit → Act → World → Prop} {a : Act} {w : World} {l : List Oper} (S : World → Prop) (hB : Region.lexB .any l.toArray = true) (hS : S w.drew)
    (h : wpQuiet Tryd.prog l.toArray (fun w' => ∃ p : GW S, w' = p.w) (fun a' => ∀ w', (∃ p : GW S, w' = p.w) → Q .normal a' w') l a) : (Code.region id l.toArray true).wp Tryd.prog Q a w :=
  wp_region_quiet (C := fun w' => ∃ p : GW S, w' = p.w) mixedTryd hB ⟨⟨_, hS⟩, rfl⟩ (by simpa using h)
theorem calls_gw {S : World → Prop} {f : FuncId} {args : Array Value} {v : Value} (p : GW S) (h : Calls Tryd.prog f args p.w fun e w' => e = .returned v ∧ S w') : Calls Tryd.prog f args p.w fun e w'' => e = .returned v ∧ ∃ p' : GW S, w'' = p'.w :=
  h.mono fun _ _ ⟨he, hs⟩ => ⟨he, ⟨_, hs⟩, rfl⟩
/-- A call that turns no old memory keeps what such calls keep. -/
theorem calls_s {S : World → Prop} {f : FuncId} {args : Array Value} {v : Value} {W : World} (hS : S W) (hb : ∀ {A B : World}, S A → Below A.heap.size A B → S B) (h : Calls Tryd.prog f args W fun e w' => e = .returned v ∧ Below W.heap.size W w') : Calls Tryd.prog f args W fun e w' => e = .returned v ∧ S w' :=
  h.mono fun _ _ ⟨he, hw⟩ => ⟨he, hb hS hw⟩

end Go.Proofs.YtolggmmlaohpdabDoor
