/- The law RowsCanons. -/
import Derived.Test.YtpagnphabchfcaaGreatQh
import Derived.Test.YtpagnphabchfcaaGreatGc
namespace Go.Proofs.YtpagnphabchfcaaGreat
open Go.RowKit Go.Shelf
set_option maxRecDepth 100000
theorem at_len (l : List Rw) (p : Int) : (atR l p).length ≤ l.length := by
  unfold atR
  rw [List.length_map]
  refine Nat.le_trans (cutsF_len _ _ _) ?_
  rw [List.length_map, (sortR_perm _).length_eq]
  exact List.length_filter_le _ _
def A9Post (w : World) (l : List Rw) (p : Int) (e : Ending) (w' : World) : Prop := ∃ v vv, e = .returned v ∧ VL w' v vv ∧ vv.map (·.2) = atR l p ∧ (∀ x ∈ vv, x.2.length ≤ 1000) ∧ vv.length ≤ 1000 ∧ Below w.heap.size w w'
theorem at_facts {es : List El} {p : Int} {vv : List (Value × List Vt)} (h3 : vv.map (·.2) = atR (rws es) p) (hl : es.length ≤ 100) (hv : ∀ e ∈ es, e.2.1.length ≤ 1000) : (∀ x ∈ vv, x.2.length ≤ 1000) ∧ vv.length ≤ 1000 := by
  refine ⟨fun x hx => ?_, ?_⟩
  · have : x.2 ∈ atR (rws es) p := by rw [← h3]; exact List.mem_map.2 ⟨x, hx, rfl⟩
    obtain ⟨r, hr, hq, _⟩ := (at_mem _ _ _).1 this
    obtain ⟨e, he, rfl⟩ := List.mem_map.1 hr
    rw [← hq]
    exact hv e he
  · have h4 := congrArg List.length h3
    have h5 := at_len (rws es) p
    simp [rws] at h4 h5
    omega
theorem at9' {w : World} {X : Nat → Prop} {v : Value} {es : List El} {p : Int} (h0 : RL w X v es) (hl : es.length ≤ 100) (hv : ∀ e ∈ es, e.2.1.length ≤ 1000) : Calls Tryz.prog 29 #[v, .int .i64 p] w (A9Post w (rws es) p) := by
  refine (at9 h0 hl hv).mono ?_
  rintro e w' ⟨v, vv, rfl, h1, h2, h3, h4⟩
  exact ⟨v, vv, rfl, vl_of h1 h2, h3, (at_facts h3 hl hv).1, (at_facts h3 hl hv).2, h4⟩
theorem rat30' {w : World} {X : Nat → Prop} {v : Value} {es : List El} {p : Int} (h0 : RL w X v es) (hl : es.length ≤ 100) (hv : ∀ e ∈ es, e.2.1.length ≤ 1000) : Calls Tryz.prog 30 #[v, .int .i64 p] w (A9Post w (rws es) p) := by
  refine (rat30 h0 (by omega) hv).mono ?_
  rintro e w' ⟨v, vv, rfl, h1, h3, h4⟩
  exact ⟨v, vv, rfl, h1, h3, (at_facts h3 hl hv).1, (at_facts h3 hl hv).2, h4⟩
/-- What a call that answers rows of one's own leaves, as the walk takes it. -/
def RPost (w : World) (l : List Rw) (e : Ending) (w' : World) : Prop := ∃ p c, ∃ es : List El, e = .returned (.slice p es.length c) ∧ Hid (RL w' (fun _ => False) (.slice p es.length c) es) ∧ Hid (rws es = l) ∧ Below w.heap.size w w'
theorem LPost.r {w w' : World} {l : List Rw} {e : Ending} (h : LPost w l e w') : RPost w l e w' := by
  obtain ⟨v, x, rfl, h1, h2, h3⟩ := h
  obtain ⟨p, c, hf⟩ := (OwnR.rl h1).form
  subst hf
  exact ⟨p, c, x, rfl, OwnR.rl h1, h2, h3⟩
theorem SPost.r {w w' : World} {l : List Rw} {e : Ending} (h : SPost w l e w') : RPost w l e w' := by
  obtain ⟨v, x, h0, _, h1, h2, h3⟩ := h
  exact LPost.r ⟨v, x, h0, h1, h2, h3⟩
/-- Two lists with the same rows are the same. -/
theorem same9 {w w1 : World} {p p' : Option Addr} {c c' : Nat} {x x' : List El} {l : List Rw} (h : Hid (RL w1 (fun _ => False) (.slice p x.length c) x)) (hb : Below w1.heap.size w1 w) (h' : Hid (RL w (fun _ => False) (.slice p' x'.length c') x')) (e : Hid (rws x = l)) (e' : Hid (rws x' = l)) (hl : l.length ≤ 100000) (hv : ∀ r ∈ l, r.1.length ≤ 1000) :
    Calls Tryz.prog 9 #[.slice p x.length c, .slice p' x'.length c'] w fun e w' => e = .returned (.bool true) ∧ Below w.heap.size w w' := by
  have q1 : x.length ≤ 100000 := by have := congrArg List.length e.out; simp [rws] at this; omega
  have q2 : x'.length ≤ 100000 := by have := congrArg List.length e'.out; simp [rws] at this; omega
  have k := sameRows10 (h.out.below hb) h'.out (rws_vals e.out hv) (rws_vals e'.out hv) q1 q2
  rw [e.out, e'.out, decide_eq_true rfl] at k
  exact k
set_option maxHeartbeats 2000000 in
theorem rowsCanons4 {w : World} {X : Nat → Prop} {va : Value} {ea : List El} {a b pt : Int} (ha : RL w X va ea) (hca : CapOk va) (hva : ∀ e ∈ ea, CapOk e.1) :
    Calls Tryz.prog 4 #[va, .agg #[.int .i64 a, .int .i64 b], .int .i64 pt] w fun e w' => e = .returned (.bool true) ∧ Below w.heap.size w w' := by
  have hw1 := box39 w a b
  have b1 := blk_new w [.int .i64 a, .int .i64 b] 39
  change Blk (w.alloc (.cells #[.int .i64 a, .int .i64 b] 39)) _ _ _ at b1
  have k7 := few6 (RL.bound (ha.below hw1)) (fun b h => .inr h) hca hva
  obtain ⟨a0, n0, rfl⟩ := ha.form
  obtain ⟨A, hA⟩ : ∃ A, A = fewR (rws ea) := ⟨_, rfl⟩
  have HA : Hid (A = fewR (rws ea)) := hA
  rw [← hA] at k7
  have HA24 : Hid (A.length ≤ 24) := by rw [hA]; exact fewR_len _
  have HAv : Hid (∀ r ∈ A, r.1.length ≤ 1000) := by rw [hA]; exact fun r hr => Nat.le_trans (fewR_vals _ r hr) (by decide)
  have HW1 : Hid _ := hw1
  clear hA ha hca hva hw1
  go_enter Tryz.func4, Tryz.ntmps4
  go_wp2_with fail
  generalize w.alloc (.cells #[.int .i64 a, .int .i64 b] 39) = w1 at *
  go_at_call 7
  (with_reducible refine k7.mono ?_)
  rintro e w2 hL
  obtain ⟨p1, c1, x1, rfl, hR, hE, hB2⟩ := LPost.r hL
  clear hL k7
  have hx1 : x1.length ≤ 24 := by have h1 := congrArg List.length hE.out; have h2 := HA24.out; simp [rws] at h1; omega
  have hx2 : ∀ e ∈ x1, e.2.1.length ≤ 1000 := rws_vals hE.out HAv.out
  have HR : Hid (∀ W, Below w2.heap.size w2 W → RL W (fun _ => False) (.slice p1 x1.length c1) x1) := fun W k => hR.out.below k
  have H24 : Hid (∀ W, Below w2.heap.size w2 W → Calls Tryz.prog 24 #[.slice p1 x1.length c1] W (RPost W (canonR A))) := fun W k => by rw [← hE.out]; exact (canon7 (HR.out _ k) (by omega) hx2).mono (fun _ _ h => LPost.r h)
  have H25 : Hid (∀ W, Below w2.heap.size w2 W → Calls Tryz.prog 25 #[.slice p1 x1.length c1] W (RPost W (canonR A))) := fun W k => by rw [← hE.out]; exact (rcanon25 (HR.out _ k) (by omega) hx2).mono (fun _ _ h => LPost.r h)
  have H26 : Hid (∀ W, Below w2.heap.size w2 W → Calls Tryz.prog 26 #[.slice p1 x1.length c1, .agg #[.int .i64 a, .int .i64 b]] W (RPost W (sortR (sliceR a b A)))) := fun W k => by rw [← hE.out]; exact (slice26 (HR.out _ k) (by omega) hx2).mono (fun _ _ h => SPost.r h)
  have H27 : Hid (∀ W, Below w2.heap.size w2 W → Calls Tryz.prog 27 #[.slice p1 x1.length c1, .agg #[.int .i64 a, .int .i64 b]] W (RPost W (sortR (sliceR a b A)))) := fun W k => by rw [← hE.out]; exact (rslice27 (HR.out _ k) (by omega) hx2).mono (fun _ _ h => LPost.r h)
  have H29 : Hid (∀ W, Below w2.heap.size w2 W → Calls Tryz.prog 29 #[.slice p1 x1.length c1, .int .i64 pt] W (A9Post W A pt)) := fun W k => by rw [← hE.out]; exact at9' (HR.out _ k) (by omega) hx2
  have H30 : Hid (∀ W, Below w2.heap.size w2 W → Calls Tryz.prog 30 #[.slice p1 x1.length c1, .int .i64 pt] W (A9Post W A pt)) := fun W k => by rw [← hE.out]; exact rat30' (HR.out _ k) (by omega) hx2
  have HC1 : Hid ((canonR A).length ≤ 100000 ∧ ∀ r ∈ canonR A, r.1.length ≤ 1000) := ⟨by have h1 := canon_len A; have h2 := HA24.out; have h3 := Nat.mul_le_mul h2 h2; omega, fun r hr => by obtain ⟨q, hq, e⟩ := canon_mem A hr; rw [← e]; exact HAv.out q hq⟩
  have HC2 : Hid ((sortR (sliceR a b A)).length ≤ 100000 ∧ ∀ r ∈ sortR (sliceR a b A), r.1.length ≤ 1000) := ⟨by rw [sortR_len]; have h1 := sliceR_len a b A; have h2 := HA24.out; omega, sortR_vals (sliceR_vals HAv.out)⟩
  have HS : Hid (∀ W, Below w2.heap.size w2 W → W.cell? ⟨w.heap.size, 0, none⟩ = some (.int .i64 a) ∧ W.cell? ⟨w.heap.size, 1, none⟩ = some (.int .i64 b)) := fun W k => ⟨(b1.below (bmore hB2 k)).cell 0, (b1.below (bmore hB2 k)).cell 1⟩
  have HB2 : Hid (Below w.heap.size w w2) := bmore HW1.out hB2
  have K0 : Below w2.heap.size w2 w2.drew := (Below.refl _ _).drew
  have hS0 := HS.out _ K0
  have k8 := live13 w2.drew
  clear b1 hB2 hR hE hx1 hx2
  generalize canonR A = CA at *
  generalize sortR (sliceR a b A) = SA at *
  go_wp2_with fail
  go_region_held3 (fun W => W.cell? ⟨w.heap.size, 0, none⟩ = some (.int .i64 a) ∧ W.cell? ⟨w.heap.size, 1, none⟩ = some (.int .i64 b)) (first | exact hS0 | exact HS.out _ K1 | exact HS.out _ K2 | exact HS.out _ K3 | exact HS.out _ K4 | exact HS.out _ K5 | exact HS.out _ K6 | exact HS.out _ K7 | exact HS.out _ K8 | exact HS.out _ K9 | exact HS.out _ K10) (first
    | (go_at_call 8; (with_reducible refine k8.mono ?_); rintro e y1 ⟨rfl, C1⟩; have K1 := bmore K0 C1; have k24 := H24.out _ K1; clear C1)
    | (go_at_call 24; (with_reducible refine k24.mono ?_); rintro e y2 ⟨p2, c2, x2, rfl, r2, e2, C2⟩; have K2 := bmore K1 C2; have k25 := H25.out _ K2; clear C2)
    | (go_at_call 25; (with_reducible refine k25.mono ?_); rintro e y3 ⟨p3, c3, x3, rfl, r3, e3, C3⟩; have K3 := bmore K2 C3; have k9a := same9 r2 C3 r3 e2 e3 HC1.out.1 HC1.out.2; clear C3)
    | (go_at_call 9; (with_reducible refine k9a.mono ?_); rintro e y4 ⟨rfl, C4⟩; have K4 := bmore K3 C4; have k26 := H26.out _ K4; clear C4)
    | (go_at_call 26; (with_reducible refine k26.mono ?_); rintro e y5 ⟨p5, c5, x5, rfl, r5, e5, C5⟩; have K5 := bmore K4 C5; have k27 := H27.out _ K5; clear C5)
    | (go_at_call 27; (with_reducible refine k27.mono ?_); rintro e y6 ⟨p6, c6, x6, rfl, r6, e6, C6⟩; have K6 := bmore K5 C6; have k9b := same9 r5 C6 r6 e5 e6 HC2.out.1 HC2.out.2; clear C6)
    | (go_at_call 9; (with_reducible refine k9b.mono ?_); rintro e y7 ⟨rfl, C7⟩; have K7 := bmore K6 C7; have k29 := H29.out _ K7; clear C7)
    | (go_at_call 29; (with_reducible refine k29.mono ?_); rintro e y8 ⟨v8, vv8, rfl, hV8, hm8, hx8, hl8, C8⟩; have K8 := bmore K7 C8; have k30 := H30.out _ K8; obtain ⟨p8, c8, hf8⟩ := hV8.form; subst hf8; have HV8 : Hid _ := And.intro hV8 (And.intro hm8 hx8); clear C8 hV8 hm8 hx8)
    | (go_at_call 30; (with_reducible refine k30.mono ?_); rintro e y9 ⟨v9, vv9, rfl, hV9, hm9, hx9, hl9, C9⟩; have K9 := bmore K8 C9; obtain ⟨p9, c9, hf9⟩ := hV9.form; subst hf9; have k28 := sameAt8 (HV8.out.1.below C9) hV9 HV8.out.2.2 hx9 (by omega) (by omega); rw [HV8.out.2.1, hm9, decide_eq_true rfl] at k28; clear C9 hV9 hm9 hx9)
    | (go_at_call 28; (with_reducible refine k28.mono ?_); rintro e y10 ⟨rfl, C10⟩; have K10 := bmore K9 C10; clear C10))
  go_wp2_with fail
  go_ret
  exact ⟨rfl, bmore HB2.out K10⟩
end Go.Proofs.YtpagnphabchfcaaGreat
