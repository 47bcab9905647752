/- standing, halfInForce, chain. -/
import Derived.Test.YtnganmekiloigaaGt
namespace Go.Proofs.Ytnganmekiloigaa
open Go.RowKit
set_option maxRecDepth 100000
variable {w w' : World} {H L : List Pc}
theorem standing100 {v : Value} (hv : LV EPc w v H) (hH : H.length ≤ 64) (hok : ∀ x ∈ H, x.Ok) (p : Nat) : Calls Try.prog 100 #[v, .int .i64 (p : Int)] w (SPost w (standP H p)) := by
  by_cases hp : H.length ≤ p
  · rw [stand_none1 hp]
    exact standing_far hv.form p hp
  · obtain ⟨f, hf⟩ : ∃ f, H[p]? = some f := ⟨_, List.getElem?_eq_getElem (by omega)⟩
    by_cases h : f.e = 0 ∨ f.n < 1 ∨ min 64 (H.length - p) < f.n
    · rw [stand_none2 hf h]
      exact standing_no hv hH p hf (hok f (List.mem_of_getElem? hf)) h
    · exact standing_go hv hH p hf hok h
def ep0 (o : Option Rc) : Nat := match o with | none => 0 | some r => r.e
theorem ep0_eq (H : List Pc) : ep0 (standP H 0) = epoch0 H := rfl
/-- The epoch of what standing answers. -/
theorem SPost.ep {o : Option Rc} {e : Ending} (h : SPost w o e w') : ∃ l b, e = .returned (.tuple #[.agg (Value.int .i64 ((ep0 o : Nat) : Int) :: l).toArray, .bool b]) ∧ l.length = 2 ∧ (∀ u ∈ l, u.oneCell' = true) ∧ Below w.heap.size w w' := by
  obtain ⟨hB, h⟩ := h
  cases o with
  | none => exact ⟨[.int .i64 0, .slice none 0 0], false, h, rfl, by simp [Value.oneCell'], hB⟩
  | some r =>
    obtain ⟨u, h1, h2⟩ := h
    obtain ⟨a, c, rfl, _⟩ := h2.form
    exact ⟨[.int .i64 (r.n : Int), .slice a r.b.length c], true, h1, rfl, by simp [Value.oneCell'], hB⟩
set_option maxHeartbeats 1000000 in
theorem force71 {v : Value} {S : List Bs} {R : Nat} (hv : LV EPc w v (pcs S)) (hS : S.length = 2 * R) (hR : 2 ≤ R) (hR2 : R ≤ 64) (hok : ∀ x ∈ S, x.length = 64) :
    Calls Try.prog 71 #[v] w fun e w' => e = .returned (.int .i64 ((forceP S : Nat) : Int)) ∧ Below w.heap.size w w' := by
  have hpl : (pcs S).length = 2 * R := by simp [pcs, hS]
  have hpok : ∀ x ∈ pcs S, x.Ok := fun x hx => by
    simp only [pcs, List.mem_map] at hx
    obtain ⟨s, hs, rfl⟩ := hx
    exact pcOf_ok (hok s hs)
  have h0 : halfP S 0 = (pcs S).take R := by simp [halfP, hS]
  have h1 : halfP S 1 = (pcs S).drop R := by
    unfold halfP
    rw [hS, Nat.one_mul, show 2 * R / 2 = R by omega, List.take_of_length_le (by rw [List.length_drop, hpl]; omega)]
  have HF : Hid (forceP S = if ep0 (standP ((pcs S).take R) 0) < ep0 (standP ((pcs S).drop R) 0) then 1 else 0) := by show _ = _; rw [ep0_eq, ep0_eq, ← h0, ← h1]; rfl
  have k73 := halfOf73_0 hv hpl hR hR2
  have H73 : Hid (∀ W, Below w.heap.size w W → Calls Try.prog 73 #[v, .int .i64 1] W fun e w' => ∃ u, e = .returned u ∧ LV EPc W u ((pcs S).drop R) ∧ w' = W) := fun W k => halfOf73_1 (hv.below k) hpl hR hR2
  have H100 : Hid (∀ W u, LV EPc W u ((pcs S).take R) → Calls Try.prog 100 #[u, .int .i64 0] W (SPost W (standP ((pcs S).take R) 0))) := fun W u h => standing100 h (by rw [List.length_take]; omega) (fun x hx => hpok x (List.mem_of_mem_take hx)) 0
  have H100b : Hid (∀ W u, LV EPc W u ((pcs S).drop R) → Calls Try.prog 100 #[u, .int .i64 0] W (SPost W (standP ((pcs S).drop R) 0))) := fun W u h => standing100 h (by rw [List.length_drop]; omega) (fun x hx => hpok x (List.mem_of_mem_drop hx)) 0
  have hb0 : ep0 (standP ((pcs S).take R) 0) < 65536 ∧ ep0 (standP ((pcs S).drop R) 0) < 65536 := by
    have : ∀ H : List Pc, (∀ x ∈ H, x.Ok) → ep0 (standP H 0) < 65536 := fun H h => by
      cases hs : standP H 0 with
      | none => simp [ep0]
      | some r =>
        obtain ⟨f, h1, h2, _⟩ := stand_some hs
        have := (h f (List.mem_of_getElem? h1)).e
        simp only [ep0]; omega
    exact ⟨this _ fun x hx => hpok x (List.mem_of_mem_take hx), this _ fun x hx => hpok x (List.mem_of_mem_drop hx)⟩
  obtain ⟨a0, c0, hv0⟩ := hv.form
  have hzi := info117z
  rw [show (#[.int .i64 0, .int .i64 0, .slice none 0 0] : Array Value) = noR.toArray from rfl] at hzi
  have hl0 : noR.length = 3 := rfl
  generalize noR = z0 at *
  clear hv h0 h1 hpok
  generalize standP ((pcs S).take R) 0 = s0 at *
  generalize standP ((pcs S).drop R) 0 = s1 at *
  generalize (pcs S).length = nn at *
  clear hpl
  subst hv0
  have hcmp : ((ep0 s0 : Nat) : Int) < ((ep0 s1 : Nat) : Int) ↔ ep0 s0 < ep0 s1 := by omega
  go_enter Try.func71, Try.ntmps71
  go_wp2_with (first
    | (go_at_call 73; (with_reducible refine k73.mono ?_); rintro e w1 ⟨u0, rfl, hu0, rfl⟩; have k100 := H100.out _ _ hu0; clear k73)
    | (go_at_call 100; (with_reducible refine k100.mono ?_); rintro e w2 hq; obtain ⟨l0, b0, rfl, hl, ho, B2⟩ := hq.ep; clear hq k100)
    | ((with_reducible show wpList _ _ _ ({ dst := _, op := .alloc 117, type := _, pos := _, after := _, guard := none } :: _) _ _); refine wpList_alloc_row rfl 117 rfl z0 hzi ?_; first
      | (intro w7 b7 k7 s7; have S7 : Hid (w7.heap.size = w5.heap.size + 1) := s7; clear s7)
      | (intro w3 b3 k3 s3; have S3 : Hid (w3.heap.size = w2.heap.size + 1) := s3; clear s3))
    | ((with_reducible show wpList _ _ _ ({ dst := _, op := .store 117 (.tmp 3) _, type := _, pos := _, after := _, guard := none } :: _) _ _); refine wpList_store_whole rfl 117 (.tmp 3) (.tmp 11) rfl w2.heap.size (.int .i64 ((ep0 s0 : Nat) : Int) :: l0) rfl rfl z0 117 b3 (by simp; omega) (by simp [hl, info117s]) (by intro u hu; rcases List.mem_cons.1 hu with rfl | h; (· rfl); (· exact ho u h)) ?_; intro w4 b4 k4 s4; clear s4; have q4 : Below w1.heap.size w1 w4 := kbel (bmore B2 k3) k4 B2.size (Nat.le_refl _); have k73b := H73.out _ q4)
    | (go_at_call 73; (with_reducible refine k73b.mono ?_); rintro e w4' ⟨u1, rfl, hu1, rfl⟩; have k100b := H100b.out _ _ hu1; clear k73b)
    | (go_at_call 100; (with_reducible refine k100b.mono ?_); rintro e w5 hq; obtain ⟨l1, b1, rfl, hl1, ho1, B5⟩ := hq.ep; clear hq k100b)
    | ((with_reducible show wpList _ _ _ ({ dst := _, op := .store 117 (.tmp 5) _, type := _, pos := _, after := _, guard := none } :: _) _ _); refine wpList_store_whole rfl 117 (.tmp 5) (.tmp 17) rfl w5.heap.size (.int .i64 ((ep0 s1 : Nat) : Int) :: l1) rfl rfl z0 117 b7 (by simp; omega) (by simp [hl1, info117s]) (by intro u hu; rcases List.mem_cons.1 hu with rfl | h; (· rfl); (· exact ho1 u h)) ?_; intro w8 b8 k8 s8; clear s8; have q8 : Below w4'.heap.size w4' w8 := kbel (bmore B5 k7) k8 B5.size (Nat.le_refl _); have y0 : w8.cell? ⟨w2.heap.size, 0, none⟩ = some (.int .i64 ((ep0 s0 : Nat) : Int)) := (b4.below q8).cell 0; have y1 : w8.cell? ⟨w5.heap.size, 0, none⟩ = some (.int .i64 ((ep0 s1 : Nat) : Int)) := b8.cell 0))
  all_goals (go_ret; refine ⟨?_, bmore q4 q8⟩; rw [HF.out]; first | (rw [if_pos (by omega)]; rfl) | (rw [if_neg (by omega)]; rfl))
/-- chain: the function that tells records. -/
theorem chain72 (v : Value) (hv : ∃ a n c, v = .slice a n c) (W : World) : Calls Try.prog 72 #[v] W fun e w' => e = .returned (.func (.func 101) #[] #[.pointer (some ⟨W.heap.size, 0, none⟩)]) ∧ w' = W.alloc (.cells #[v] 106) := by
  obtain ⟨a, n, c, rfl⟩ := hv
  go_enter Try.func72, Try.ntmps72
  go_wp2
  go_ret
  exact ⟨rfl, rfl⟩
end Go.Proofs.Ytnganmekiloigaa
