/- TopCovers: the law's walk: it answers true, and turns no old memory. -/
import Derived.Test.YtgkkknjkgpdcjabInner
import Derived.Test.YtgkkknjkgpdcjabCovers
import Derived.Test.YtgkkknjkgpdcjabAppend
namespace Go.Proofs.Ytgkkknjkgpdcjab
open Go.RowKit

/-- a world of which S is known -/
structure GW (S : World → Prop) where
  w : World
  h : S w

/-- a region that draws its order, whose operations only read, and whose callees keep S -/
theorem wp_region_gw {id : Nat} {Q : Exit → Act → World → Prop} {a : Act} {w : World} {l : List Oper} (S : World → Prop) (hB : Region.lexB .any l.toArray = true) (hS : S w.drew)
    (h : wpQuiet Try.prog l.toArray (fun w' => ∃ p : GW S, w' = p.w) (fun a' => ∀ w', (∃ p : GW S, w' = p.w) → Q .normal a' w') l a) : (Code.region id l.toArray true).wp Try.prog Q a w :=
  wp_region_quiet (C := fun w' => ∃ p : GW S, w' = p.w) mixedTry hB ⟨⟨_, hS⟩, rfl⟩ (by simpa using h)
theorem calls_gw {S : World → Prop} {f : FuncId} {args : Array Value} {v : Value} (p : GW S) (h : Calls Try.prog f args p.w fun e w' => e = .returned v ∧ S w') : Calls Try.prog f args p.w fun e w'' => e = .returned v ∧ ∃ p' : GW S, w'' = p'.w :=
  h.mono fun _ _ ⟨he, hs⟩ => ⟨he, ⟨_, hs⟩, rfl⟩

theorem step_append_spans (w : World) {ops : Array Oper} {o : Oper} {a : Act} {K : Act → World → Prop} {Q : Exit → Act → World → Prop} {E' : Prop} (hgd : o.guard = none) (s x : Operand)
    (ho : o.op = .call { callee := .builtin .append, args := #[s, x], argTypes := #[25, 25] }) (B : Nat) (v u : Value) (xs ys : List (Int × Int)) (hs : a.eval s = v) (hx : a.eval x = u)
    (hown : Own w B v xs) (hu : SRow w u ys) (hlen : xs.length + ys.length ≤ 100000) (hB : B ≤ w.heap.size)
    (h : ∀ v' w', Own w' B v' (xs ++ ys) → w.grownBy w' v.ownBlock → K (a.put o.dst v') w') : if Region.wanted o (yielded ops a.tmps) = true then Oper.wp Try.prog o a w K Q else E' := by
  have hw : Region.wanted o (yielded ops a.tmps) = true := by simp [Region.wanted, hgd]
  rw [if_pos hw]
  obtain ⟨v', w', hr, h2, h3⟩ := run_append_spans w B o.type v u xs ys hown hu hlen hB
  unfold Oper.wp execOp
  simp only [ho, resolve, invoke, builtin, Sem.run_bind, Sem.run_pure, Result.andThen_ok, List.map_toArray, List.map_cons, List.map_nil, hs, hx, hr]
  exact h v' w' h2 h3

theorem cut34_s (v : Value) (zs : List Int) (a b : Int) (w : World) (hl : zs.length ≤ 50000) (h : IRow w v zs) :
    Calls Try.prog 4 #[.agg #[.int .i64 a, .int .i64 b], v] w fun e w' => ∃ p cap n l, e = .returned (.slice p n cap) ∧ n ≤ zs.length + 1 ∧ Hid (n = l.length ∧ CutIs a b zs l ∧ SRow w' (.slice p n cap) l) ∧ Below w.heap.size w w' := by
  refine (cut34 v zs a b w hl h).mono ?_
  rintro e w1 ⟨v1, l, rfl, hc, hlen, ho, hb1⟩
  have hs := ho.srow
  obtain ⟨p, cap, rfl, hf⟩ := ho.srow.form
  exact ⟨p, cap, _, l, rfl, hlen, ⟨rfl, hc, hs⟩, hb1⟩
theorem gaps26_s (v : Value) (xs : List (Int × Int)) (a b : Int) (w : World) (hl : xs.length ≤ 50000) (h : SRow w v xs) :
    Calls Try.prog 6 #[v, .agg #[.int .i64 a, .int .i64 b]] w fun e w' => ∃ p cap n gs, e = .returned (.slice p n cap) ∧ n ≤ xs.length + 1 ∧ Hid (n = gs.length ∧ Canon gs ∧ (∀ p, Pt gs p ↔ hasB a b p = true ∧ ¬ Has xs p) ∧ SRow w' (.slice p n cap) gs) ∧ Below w.heap.size w w' := by
  refine (gaps26 v xs a b w hl h).mono ?_
  rintro e w1 ⟨v1, gs, rfl, hc, hp, hlen, ho, hb1⟩
  have hs := ho.srow
  obtain ⟨p, cap, rfl, hf⟩ := ho.srow.form
  exact ⟨p, cap, _, gs, rfl, hlen, ⟨rfl, hc, hp, hs⟩, hb1⟩

theorem chn_pair : ∀ (l : List (Int × Int)) (a b : Int), Chn a l b → l.Pairwise fun x y => x.2 ≤ y.1
  | [], _, _, _ => by simp
  | x :: r, a, b, h => by
    rw [List.pairwise_cons]
    refine ⟨fun y hy => ?_, chn_pair r _ _ h.2.2⟩
    have := chn_mem r _ _ h.2.2 y hy
    omega

theorem srow_cells {w : World} {g off n cl : Nat} {l : List (Int × Int)} (h : SRow w (.slice (some ⟨g, off, none⟩) n cl) l) : n = l.length ∧ (l ≠ [] → n ≤ cl ∧ cl ≤ maxLen ∧ g < w.heap.size) ∧ ∀ i, (hi : i < l.length) → w.cell? ⟨g, off + i * 2, none⟩ = some (.int .i64 l[i].1) ∧ w.cell? ⟨g, off + i * 2 + 1, none⟩ = some (.int .i64 l[i].2) := by
  rcases h with ⟨⟨p, c, hv⟩, rfl⟩ | ⟨b', o', c', hv, h1, h2, h3, h4⟩
  · simp only [Value.slice.injEq] at hv
    exact ⟨by simpa using hv.2.1, fun h => absurd rfl h, fun i hi => by simp at hi⟩
  · simp only [Value.slice.injEq, Option.some.injEq, Addr.mk.injEq] at hv
    obtain ⟨⟨rfl, rfl, _⟩, rfl, rfl⟩ := hv
    exact ⟨rfl, fun _ => ⟨h1, h2, h3⟩, h4⟩
theorem srow_take {w : World} {g off n cl : Nat} {l : List (Int × Int)} (h : SRow w (.slice (some ⟨g, off, none⟩) n cl) l) (k : Nat) (hk : k < n) : SRow w (.slice (some ⟨g, off, none⟩) k cl) (l.take k) := by
  obtain ⟨hn, hz, hc⟩ := srow_cells h
  have hne : l ≠ [] := fun e => by subst e; simp at hn; omega
  obtain ⟨h1, h2, h3⟩ := hz hne
  have hlen : (l.take k).length = k := by simp; omega
  refine .inr ⟨g, off, cl, by rw [hlen], by omega, h2, h3, fun i hi => ?_⟩
  have := hc i (by omega)
  rw [List.getElem_take]; exact this
theorem srow_drop {w : World} {g off n cl : Nat} {l : List (Int × Int)} (h : SRow w (.slice (some ⟨g, off, none⟩) n cl) l) (k : Nat) (hk : k < n) (pz : Option Addr) (hp : (if cl = k + 1 then some (⟨g, off, none⟩ : Addr) else some ⟨g, off + (k + 1) * 2, none⟩) = pz) :
    SRow w (.slice pz (n - (k + 1)) (cl - (k + 1))) (l.drop (k + 1)) := by
  obtain ⟨hn, hz, hc⟩ := srow_cells h
  have hne : l ≠ [] := fun e => by subst e; simp at hn; omega
  obtain ⟨h1, h2, h3⟩ := hz hne
  have hlen : (l.drop (k + 1)).length = n - (k + 1) := by simp; omega
  by_cases h0 : n - (k + 1) = 0
  · rw [h0] at hlen ⊢
    exact .inl ⟨⟨_, _, rfl⟩, List.eq_nil_of_length_eq_zero hlen⟩
  · rw [if_neg (by omega)] at hp
    subst hp
    refine .inr ⟨g, off + (k + 1) * 2, cl - (k + 1), by rw [hlen], by omega, by omega, h3, fun i hi => ?_⟩
    have := hc (k + 1 + i) (by omega)
    rw [List.getElem_drop]
    rw [show off + (k + 1) * 2 + i * 2 = off + (k + 1 + i) * 2 by omega]
    exact this

/-- what is known of the pieces, and of them without one -/
theorem top_facts {a b : Int} {zs : List Int} {l : List (Int × Int)} (h : CutIs a b zs l) :
    (l = [] → rightB a b = false) ∧ ∀ k, (hk : k < l.length) → rightB a b = true ∧ (∀ p, a ≤ p → p < b → Has l p) ∧ (¬ ∀ p, a ≤ p → p < b → Has (l.take k ++ l.drop (k + 1)) p) ∧
      ∀ gs, Canon gs → (∀ p, Pt gs p ↔ hasB a b p = true ∧ ¬ Has (l.take k ++ l.drop (k + 1)) p) → gs = [l[k]] := by
  rcases h with ⟨h1, h2⟩ | ⟨h1, h2, h3⟩
  · subst h2
    exact ⟨fun _ => h1, fun k hk => by simp at hk⟩
  · obtain ⟨r1, r2, r3⟩ := (rightB_iff _ _).1 h1
    have hm : ∀ x, x ∈ l → rightB x.1 x.2 = true := fun x hx => by
      have := chn_mem l a b h2 x hx
      rw [rightB_iff]; omega
    have hin := fun x hx => chn_mem l a b h2 x hx
    have el : rights l = l := by unfold rights; rw [List.filter_eq_self]; exact hm
    refine ⟨fun e => ?_, fun k hk => ?_⟩
    · subst e
      have : a = b := h2
      omega
    · have hsub : ∀ x, x ∈ l.take k ++ l.drop (k + 1) → x ∈ l := fun x hx => by
        rcases List.mem_append.1 hx with hx | hx
        · exact List.mem_of_mem_take hx
        · exact List.mem_of_mem_drop hx
      have er : rights (l.take k ++ l.drop (k + 1)) = l.take k ++ l.drop (k + 1) := by unfold rights; rw [List.filter_eq_self]; exact fun x hx => hm x (hsub x hx)
      have hsplit : l = l.take k ++ (l[k] :: l.drop (k + 1)) := by
        rw [← List.drop_eq_getElem_cons hk, List.take_append_drop]
      have hpair := chn_pair l a b h2
      rw [hsplit, List.pairwise_append, List.pairwise_cons] at hpair
      have hpt : ∀ p, (Pt (l.take k ++ l.drop (k + 1)) p ∨ (l[k].1 ≤ p ∧ p < l[k].2)) ↔ a ≤ p ∧ p < b := fun p => by
        rw [← chn_pt l a b h2 p]
        conv => rhs; rw [hsplit]
        rw [pt_append, pt_append, pt_cons]
        constructor
        · rintro ((q | q) | q)
          · exact .inl q
          · exact .inr (.inr q)
          · exact .inr (.inl q)
        · rintro (q | q | q)
          · exact .inl (.inl q)
          · exact .inr q
          · exact .inl (.inr q)
      have hdis : ∀ p, ¬ (Pt (l.take k ++ l.drop (k + 1)) p ∧ (l[k].1 ≤ p ∧ p < l[k].2)) := fun p ⟨q, q1, q2⟩ => by
        rw [pt_append] at q
        rcases q with ⟨x, hx, q3, q4⟩ | ⟨x, hx, q3, q4⟩
        · have := hpair.2.2 x hx l[k] (List.mem_cons_self ..); omega
        · have := hpair.2.1.1 x hx; omega
      have hk1 := hin l[k] (List.getElem_mem hk)
      refine ⟨h1, fun p q1 q2 => ?_, fun hall => ?_, fun gs hc hp => ?_⟩
      · unfold Has; rw [el, chn_pt l a b h2]; exact ⟨q1, q2⟩
      · have := hall l[k].1 (by omega) (by omega)
        unfold Has at this
        rw [er] at this
        exact hdis _ ⟨this, by omega, by omega⟩
      · refine canon_unique _ _ hc ⟨fun x hx => by rw [List.mem_singleton.1 hx]; exact hm _ (List.getElem_mem hk), by simp⟩ (fun p => ?_)
        rw [hp, pt_cons]
        have e : hasB a b p = true ↔ a ≤ p ∧ p < b := by simp only [hasB, h1, Bool.true_and, Bool.and_eq_true, decide_eq_true_eq]
        unfold Has
        rw [er, e, ← hpt p]
        constructor
        · rintro ⟨q | q, q2⟩
          · exact absurd q q2
          · exact .inl q
        · rintro (q | q)
          · exact ⟨.inr q, fun q2 => hdis p ⟨q2, q⟩⟩
          · exact absurd q (pt_nil _)

/-- in the last statement: the one gap, the piece, the span's box; both lists; old memory -/
def S11 (w : World) (bg og g o1 : Nat) (x y a b : Int) (vl vs : Value) (l ls : List (Int × Int)) (W : World) : Prop :=
  (W.cell? ⟨bg, og, none⟩ = some (.int .i64 x) ∧ W.cell? ⟨bg, og + 1, none⟩ = some (.int .i64 y) ∧ W.cell? ⟨g, o1, none⟩ = some (.int .i64 x) ∧ W.cell? ⟨g, o1 + 1, none⟩ = some (.int .i64 y) ∧ W.cell? ⟨w.heap.size, 0, none⟩ = some (.int .i64 a) ∧ W.cell? ⟨w.heap.size, 1, none⟩ = some (.int .i64 b)) ∧
  (bg < W.heap.size ∧ g < W.heap.size ∧ w.heap.size < W.heap.size ∧ SRow W vl l ∧ SRow W vs ls ∧ Below w.heap.size w W)
theorem S11.step {w W W' : World} {bg og g o1 : Nat} {x y a b : Int} {vl vs : Value} {l ls : List (Int × Int)} (h : S11 w bg og g o1 x y a b vl vs l ls W) (hb : Below W.heap.size W W') : S11 w bg og g o1 x y a b vl vs l ls W' := by
  obtain ⟨⟨h1, h2, h3, h4, h5, h6⟩, h7, h8, h9, h10, h11, h12⟩ := h
  have hs := hb.size
  exact ⟨⟨(bc hb _ _ h7).trans h1, (bc hb _ _ h7).trans h2, (bc hb _ _ h8).trans h3, (bc hb _ _ h8).trans h4, (bc hb _ _ h9).trans h5, (bc hb _ _ h9).trans h6⟩, by omega, by omega, by omega, h10.below hb h10.lt, h11.below hb h11.lt, h12.trans (hb.mono (by omega))⟩
theorem kT7 {w : World} {bg og g o1 : Nat} {x y a b : Int} {vl vs : Value} {l ls : List (Int × Int)} (W : World) (h : S11 w bg og g o1 x y a b vl vs l ls W) (hl : l.length ≤ 100000) (hr : rightB a b = true) (hc : ∀ p, a ≤ p → p < b → Has l p) :
    Calls Try.prog 7 #[vl, .agg #[.int .i64 a, .int .i64 b]] W fun e w' => e = .returned (.bool true) ∧ S11 w bg og g o1 x y a b vl vs l ls w' :=
  (covers28 vl l a b W hl h.2.2.2.2.1).mono fun _ _ ⟨r, he, hi, hb⟩ => ⟨by rw [he, hi.2 ⟨hr, hc⟩], h.step hb⟩
theorem kF7 {w : World} {bg og g o1 : Nat} {x y a b : Int} {vl vs : Value} {l ls : List (Int × Int)} (W : World) (h : S11 w bg og g o1 x y a b vl vs l ls W) (hl : ls.length ≤ 100000) (hc : ¬ ∀ p, a ≤ p → p < b → Has ls p) :
    Calls Try.prog 7 #[vs, .agg #[.int .i64 a, .int .i64 b]] W fun e w' => e = .returned (.bool false) ∧ S11 w bg og g o1 x y a b vl vs l ls w' :=
  (covers28 vs ls a b W hl h.2.2.2.2.2.1).mono fun _ _ ⟨r, he, hi, hb⟩ => ⟨by
    rw [he]
    cases r
    · rfl
    · exact absurd (hi.1 rfl).2 hc, h.step hb⟩

set_option maxHeartbeats 1000000 in
theorem topCovers3_long (bb0 off0 cap n : Nat) (ts : List Int) (a b x : Int) (w : World) (hT : IRow (w.alloc (.cells #[.int .i64 a, .int .i64 b] 23)) (.slice (some ⟨bb0, off0, none⟩) 20 cap) ts) (h30 : 20 < n) (hm : n ≤ 9223372036854775807) (hcap : 20 ≤ cap) (hlt2 : ts.length ≤ 20) (hx0 : 0 ≤ x) (hx1 : x ≤ 255) :
    Calls Try.prog 3 #[.agg #[.int .i64 a, .int .i64 b], .slice (some ⟨bb0, off0, none⟩) n cap, .int .u8 x] w fun e w' => e = .returned (.bool true) ∧ Below w.heap.size w w' := by
  have HT := hideP' hT
  clear hT
  go_enter Try.func3, Try.ntmps3
  go_wp2_with fail
  have a0 := (box1 w a b).1
  have b0 := (box1 w a b).2
  have z0 : w.heap.size < (w.alloc (.cells #[.int .i64 a, .int .i64 b] 23)).heap.size := by simp
  have hbw : Below w.heap.size w (w.alloc (.cells #[.int .i64 a, .int .i64 b] 23)) := below1 _ _
  generalize w.alloc (.cells #[.int .i64 a, .int .i64 b] 23) = W0 at *
  refine (cut34_s _ ts a b W0 (by omega) HT.out).mono ?_
  rintro e w1 ⟨pl, cl, nl, l, rfl, hnl, HL, hb1⟩
  have a1 := (bc hb1 _ 0 z0).trans a0
  have b1 := (bc hb1 _ 1 z0).trans b0
  have z1 := Nat.lt_of_lt_of_le z0 hb1.size
  have hbw1 := hbw.trans (hb1.mono hbw.size)
  clear a0 b0 HT hb1 hbw z0
  obtain ⟨hnll, hcut, sl⟩ := HL.out
  have FACT := top_facts hcut
  have HE := hideP' FACT.1
  have HK := hideP' FACT.2
  have HNL := hideP' hnll
  have HSL := hideP' sl
  clear HL hcut FACT hnll
  by_cases hn0 : nl = 0
  · have hr : rightB a b = false := HE.out (List.eq_nil_of_length_eq_zero (by have := HNL.out; omega))
    have hr01 : rightB 0 1 = true := by decide
    clear HE HK HNL HSL sl
    subst hn0
    go_wp2_with (go_at_call 5; refine (right12 _ _ _).mono ?_; rintro e w' ⟨rfl, rfl⟩; first | rw [hr] | rw [hr01])
    go_ret
    exact ⟨rfl, below_alloc (below_alloc hbw1 _) _⟩
  · obtain ⟨pq, cq, hvq, hfq⟩ := sl.form
    simp only [Value.slice.injEq] at hvq
    obtain ⟨hpq, hx9, hx8⟩ := hvq
    clear hx9 hx8
    subst hpq
    obtain ⟨g, off, hpe, hgl, hq3, hq4⟩ := hfq 0 (by have := HNL.out; omega)
    clear hq3 hq4
    subst hpe
    have hne : ((nl : Int) == 0) = false := by simp; omega
    have hnI : (0 : Int) < nl := by omega
    have hcl : nl ≤ cl := by
      rcases sl with ⟨⟨p, c, hv⟩, _⟩ | ⟨b', o', c', hv, h1, _⟩
      · simp only [Value.slice.injEq] at hv; omega
      · simp only [Value.slice.injEq] at hv; have := HNL.out; omega
    clear sl hfq
    go_wp2_with fail
    obtain ⟨k, hkk⟩ : ∃ k : Nat, x % (nl : Int) = k := ⟨(x % (nl : Int)).toNat, by have := Int.emod_nonneg x (show (nl : Int) ≠ 0 by omega); omega⟩
    have hkn : k < nl := by have := Int.emod_lt_of_pos x hnI; omega
    rw [hkk]
    clear hkk
    have kb1 : (0 : Int) ≤ (k : Int) := by omega
    have kb2 : (k : Int) ≤ (cl : Int) := by omega
    have kb3 : (k : Int) + 1 ≤ (nl : Int) := by omega
    have kb4 : (0 : Int) ≤ (k : Int) + 1 := by omega
    have kb5 : (k : Int) ≤ (nl : Int) := by omega
    have kb6 : (nl : Int) ≤ (cl : Int) := by omega
    have kn2 : k ≤ cl := by omega
    have kn3 : k + 1 ≤ nl := by omega
    have kt : ((k : Int) + 1).toNat = k + 1 := by omega
    obtain ⟨pz, hpz⟩ : ∃ pz, (if cl = k + 1 then some (⟨g, off, none⟩ : Addr) else some ⟨g, off + (k + 1) * 2, none⟩) = pz := ⟨_, rfl⟩
    have hsl : ∀ wx, (Instr.slice 25 (.slice (some ⟨g, off, none⟩) nl cl) (some (.int .i64 ((k : Int) + 1))) none none).run Try.prog wx = .ok (.slice pz (nl - (k + 1)) (cl - (k + 1))) wx := fun wx => by
      have hh := run_slice_l (P := Try.prog) wx 25 (some ⟨g, off, none⟩) nl cl (by kernel_rfl) .i64 ((k : Int) + 1) kb4 kb3
      rw [hh]
      have e1 : (sizeOf (Try.prog.elem 25)).run Try.prog wx = .ok 2 wx := by kernel_rfl
      rw [e1, kt]
      show Result.ok (sliced _ _ _ _ _) wx = _
      unfold sliced
      rw [← hpz]
      by_cases hck : cl = k + 1
      · rw [if_pos hck, if_pos hck]
      · rw [if_neg hck, if_neg hck]
        simp [Addr.add]
    have T1 := hideP' (srow_take HSL.out k hkn)
    have T2 := hideP' (srow_drop HSL.out k hkn pz hpz)
    have HPZ := hideP' hpz
    have OWN0 : Own (w1.alloc (.cells #[] 23)).drew w1.heap.size (.slice (some ⟨w1.heap.size, 0, none⟩) 0 0) [] := World.ownsRow_made w1 #[] 0 (Nat.le_refl _) (Nat.zero_le _) rfl
    have HO := hideP' OWN0
    have hlens : (l.take k).length ≤ 22 ∧ (l.drop (k + 1)).length ≤ 22 := by have := HNL.out; simp; omega
    have hl1 : ([] : List (Int × Int)).length + (l.take k).length ≤ 100000 := by simp only [List.length_nil]; omega
    have hl2 : ([] ++ l.take k).length + (l.drop (k + 1)).length ≤ 100000 := by simp only [List.nil_append]; omega
    have hb0 : Below w1.heap.size w1 (w1.alloc (.cells #[] 23)).drew := (below1 _ _).drew
    have T1b := hideP' (T1.out.below hb0 T1.out.lt)
    have hsz0 : w1.heap.size ≤ (w1.alloc (.cells #[] 23)).drew.heap.size := hb0.size
    have K1 : Hid (∀ v3 w3, Own w3 w1.heap.size v3 ([] ++ l.take k) → (w1.alloc (.cells #[] 23)).drew.grownBy w3 (Value.ownBlock (.slice (some ⟨w1.heap.size, 0, none⟩) 0 0)) → Hid (Own w3 w1.heap.size v3 ([] ++ l.take k)) ∧ Hid (Below w1.heap.size w1 w3) ∧ Hid (SRow w3 (.slice pz (nl - (k + 1)) (cl - (k + 1))) (l.drop (k + 1))) ∧ w1.heap.size ≤ w3.heap.size) := fun v3 w3 ho3 hg3 => by
      have hb3 : Below w1.heap.size w1 w3 := hb0.grown hg3 hsz0 (fun j hj => by simp only [Value.ownBlock, Option.some.injEq] at hj; exact Nat.le_of_eq hj)
      exact ⟨ho3, hb3, T2.out.below hb3 T2.out.lt, hb3.size⟩
    have K2 : Hid (∀ v3 w3 v4 w4, Own w3 w1.heap.size v3 ([] ++ l.take k) → Below w1.heap.size w1 w3 → Own w4 w1.heap.size v4 ([] ++ l.take k ++ l.drop (k + 1)) → w3.grownBy w4 v3.ownBlock → Hid (Below w1.heap.size w1 w4) ∧ Hid (SRow w4 v4 (l.take k ++ l.drop (k + 1)))) := fun v3 w3 v4 w4 ho3 hb3 ho4 hg4 => by
      exact ⟨hb3.grown hg4 hb3.size (fun j hj => (World.ownsRow.lt ho3 j hj).1), by have q := ho4.srow; rw [List.nil_append] at q; exact q⟩
    have hwr : IntKind.i64.wrap ((k : Int) + 1) = (k : Int) + 1 := by simp [IntKind.wrap, IntKind.bits, IntKind.signed]; omega
    clear hpz OWN0 hb0 T1 T2 kt
    go_region_held3 (fun _ => True) (trivial)
      (first
      | (refine step_append_spans _ (by rfl) (.tmp 34) (.tmp 37) (by rfl) w1.heap.size (.slice (some ⟨w1.heap.size, 0, none⟩) 0 0) (.slice (some ⟨g, off, none⟩) k cl) [] (l.take k) (by rfl) (by rfl) HO.out T1b.out hl1 hsz0 ?_; intro v3 w3 ho3 hg3; obtain ⟨HO3, HB3, HS3, hz3⟩ := K1.out v3 w3 ho3 hg3; clear ho3 hg3)
      | (refine step_append_spans _ (by rfl) (.tmp 38) (.tmp 42) (by rfl) w1.heap.size v3 (.slice pz (nl - (k + 1)) (cl - (k + 1))) ([] ++ l.take k) (l.drop (k + 1)) (by rfl) (by rfl) HO3.out HS3.out hl2 hz3 ?_; intro v4 w4 ho4 hg4; obtain ⟨HB4, HS4⟩ := K2.out v3 w3 v4 w4 HO3.out HB3.out ho4 hg4; clear ho4 hg4))
    have hkl : k < l.length := by have := HNL.out; omega
    obtain ⟨fr, fc, fn, fg⟩ := HK.out k hkl
    have a4 := (bc HB4.out _ 0 z1).trans a1
    have b4 := (bc HB4.out _ 1 z1).trans b1
    have z4 := Nat.lt_of_lt_of_le z1 HB4.out.size
    have sl4 := HSL.out.below HB4.out HSL.out.lt
    have hbw4 := hbw1.trans (HB4.out.mono hbw1.size)
    have hlesl : (l.take k ++ l.drop (k + 1)).length ≤ 50000 := by rw [List.length_append]; omega
    have GP := hideP' (gaps26_s v4 _ a b w4 hlesl HS4.out)
    have HF := hideP' (And.intro fr (And.intro fc (And.intro fn fg)))
    have HSL4 := hideP' sl4
    have hll : l.length ≤ 100000 := by have := HNL.out; omega
    clear HO3 HB3 HS3 hz3 K1 K2 HO T1b HPZ hl1 hl2 hlens fr fc fn fg sl4 HB4 HSL hbw1 a1 b1 hwr hsl HK HE
    go_wp2_with fail
    refine GP.out.mono ?_
    rintro e w5 ⟨pg, cg, ng, gs, rfl, hng, HG, hb5⟩
    have eg : gs = [l[k]] := HF.out.2.2.2 gs HG.out.2.1 HG.out.2.2.1
    have ng1 : ng = 1 := by rw [HG.out.1, eg]; rfl
    have sG := HG.out.2.2.2
    rw [eg] at sG
    obtain ⟨pg', cg', hvg, hfg⟩ := sG.form
    simp only [Value.slice.injEq] at hvg
    obtain ⟨hpg, hx9, hx8⟩ := hvg
    clear hx9 hx8
    subst hpg
    obtain ⟨bg, og, hpe, zbg, xa, xb⟩ := hfg 0 (by simp)
    subst hpe
    simp at xa xb
    have sl5 := HSL4.out.below hb5 HSL4.out.lt
    have ss5 := HS4.out.below hb5 HS4.out.lt
    have hcell := (srow_cells sl5).2.2 k hkl
    have hgl5 := ((srow_cells sl5).2.1 (fun e => by rw [e] at hkl; simp at hkl)).2.2
    have a5 := (bc hb5 _ 0 z4).trans a4
    have b5 := (bc hb5 _ 1 z4).trans b4
    have z5 := Nat.lt_of_lt_of_le z4 hb5.size
    have hbw5 := hbw4.trans (hb5.mono hbw4.size)
    obtain ⟨x1, hx1'⟩ : ∃ q, l[k].1 = q := ⟨_, rfl⟩
    obtain ⟨x2, hx2'⟩ : ∃ q, l[k].2 = q := ⟨_, rfl⟩
    rw [hx1'] at xa hcell
    rw [hx2'] at xb hcell
    have hk : S11 w bg og g (off + k * 2) x1 x2 a b (.slice (some ⟨g, off, none⟩) nl cl) v4 l (l.take k ++ l.drop (k + 1)) w5.drew := ⟨⟨xa, xb, hcell.1, hcell.2, a5, b5⟩, zbg, hgl5, z5, sl5.below (Below.refl _ _).drew sl5.lt, ss5.below (Below.refl _ _).drew ss5.lt, hbw5.drew⟩
    have lsl : (l.take k ++ l.drop (k + 1)).length ≤ 100000 := by omega
    have kt7 := fun W h => kT7 (w := w) (bg := bg) (og := og) (g := g) (o1 := off + k * 2) (x := x1) (y := x2) (a := a) (b := b) (vl := .slice (some ⟨g, off, none⟩) nl cl) (vs := v4) (l := l) (ls := l.take k ++ l.drop (k + 1)) W h hll HF.out.1 HF.out.2.1
    have kf7 := fun W h => kF7 (w := w) (bg := bg) (og := og) (g := g) (o1 := off + k * 2) (x := x1) (y := x2) (a := a) (b := b) (vl := .slice (some ⟨g, off, none⟩) nl cl) (vs := v4) (l := l) (ls := l.take k ++ l.drop (k + 1)) W h lsl HF.out.2.2.1
    generalize l.take k ++ l.drop (k + 1) = ls at hk kt7 kf7
    have KT := hideP' kt7
    have KF := hideP' kf7
    clear kt7 kf7 xa xb hcell hgl5 a5 b5 z5 hbw5 sl5 ss5 hx1' hx2' hfg sG eg HG HF HSL4 HS4 GP hb5 a4 b4 z4 hbw4 zbg HNL
    subst ng1
    go_wp2_with fail
    go_region_held3 (fun w' => w'.cell? ⟨bg, og, none⟩ = some (.int .i64 x1) ∧ w'.cell? ⟨bg, og + 1, none⟩ = some (.int .i64 x2) ∧ w'.cell? ⟨g, off + k * 2, none⟩ = some (.int .i64 x1) ∧ w'.cell? ⟨g, off + k * 2 + 1, none⟩ = some (.int .i64 x2) ∧ w'.cell? ⟨w.heap.size, 0, none⟩ = some (.int .i64 a) ∧ w'.cell? ⟨w.heap.size, 1, none⟩ = some (.int .i64 b)) (exact hk.1)
      (first
      | (go_at_call_of 7 (Value.slice (some ⟨g, off, none⟩) nl cl); refine (KT.out _ hk).mono ?_; rintro e wk ⟨rfl, hk⟩)
      | (go_at_call 7; refine (KF.out _ hk).mono ?_; rintro e wk ⟨rfl, hk⟩))
    go_wp2
    go_ret
    exact ⟨rfl, hk.2.2.2.2.2.2⟩

set_option maxHeartbeats 1000000 in
theorem topCovers3_short (pv : Option Addr) (cv n : Nat) (ts : List Int) (a b x : Int) (w : World) (hT : IRow (w.alloc (.cells #[.int .i64 a, .int .i64 b] 23)) (.slice pv n cv) ts) (hn : n ≤ 20) (hlt2 : ts.length ≤ 20) (hx0 : 0 ≤ x) (hx1 : x ≤ 255) :
    Calls Try.prog 3 #[.agg #[.int .i64 a, .int .i64 b], .slice pv n cv, .int .u8 x] w fun e w' => e = .returned (.bool true) ∧ Below w.heap.size w w' := by
  have HT := hideP' hT
  clear hT
  go_enter Try.func3, Try.ntmps3
  go_wp2_with fail
  have a0 := (box1 w a b).1
  have b0 := (box1 w a b).2
  have z0 : w.heap.size < (w.alloc (.cells #[.int .i64 a, .int .i64 b] 23)).heap.size := by simp
  have hbw : Below w.heap.size w (w.alloc (.cells #[.int .i64 a, .int .i64 b] 23)) := below1 _ _
  generalize w.alloc (.cells #[.int .i64 a, .int .i64 b] 23) = W0 at *
  refine (cut34_s _ ts a b W0 (by omega) HT.out).mono ?_
  rintro e w1 ⟨pl, cl, nl, l, rfl, hnl, HL, hb1⟩
  have a1 := (bc hb1 _ 0 z0).trans a0
  have b1 := (bc hb1 _ 1 z0).trans b0
  have z1 := Nat.lt_of_lt_of_le z0 hb1.size
  have hbw1 := hbw.trans (hb1.mono hbw.size)
  clear a0 b0 HT hb1 hbw z0
  obtain ⟨hnll, hcut, sl⟩ := HL.out
  have FACT := top_facts hcut
  have HE := hideP' FACT.1
  have HK := hideP' FACT.2
  have HNL := hideP' hnll
  have HSL := hideP' sl
  clear HL hcut FACT hnll
  by_cases hn0 : nl = 0
  · have hr : rightB a b = false := HE.out (List.eq_nil_of_length_eq_zero (by have := HNL.out; omega))
    have hr01 : rightB 0 1 = true := by decide
    clear HE HK HNL HSL sl
    subst hn0
    go_wp2_with (go_at_call 5; refine (right12 _ _ _).mono ?_; rintro e w' ⟨rfl, rfl⟩; first | rw [hr] | rw [hr01])
    go_ret
    exact ⟨rfl, below_alloc (below_alloc hbw1 _) _⟩
  · obtain ⟨pq, cq, hvq, hfq⟩ := sl.form
    simp only [Value.slice.injEq] at hvq
    obtain ⟨hpq, hx9, hx8⟩ := hvq
    clear hx9 hx8
    subst hpq
    obtain ⟨g, off, hpe, hgl, hq3, hq4⟩ := hfq 0 (by have := HNL.out; omega)
    clear hq3 hq4
    subst hpe
    have hne : ((nl : Int) == 0) = false := by simp; omega
    have hnI : (0 : Int) < nl := by omega
    have hcl : nl ≤ cl := by
      rcases sl with ⟨⟨p, c, hv⟩, _⟩ | ⟨b', o', c', hv, h1, _⟩
      · simp only [Value.slice.injEq] at hv; omega
      · simp only [Value.slice.injEq] at hv; have := HNL.out; omega
    clear sl hfq
    go_wp2_with fail
    obtain ⟨k, hkk⟩ : ∃ k : Nat, x % (nl : Int) = k := ⟨(x % (nl : Int)).toNat, by have := Int.emod_nonneg x (show (nl : Int) ≠ 0 by omega); omega⟩
    have hkn : k < nl := by have := Int.emod_lt_of_pos x hnI; omega
    rw [hkk]
    clear hkk
    have kb1 : (0 : Int) ≤ (k : Int) := by omega
    have kb2 : (k : Int) ≤ (cl : Int) := by omega
    have kb3 : (k : Int) + 1 ≤ (nl : Int) := by omega
    have kb4 : (0 : Int) ≤ (k : Int) + 1 := by omega
    have kb5 : (k : Int) ≤ (nl : Int) := by omega
    have kb6 : (nl : Int) ≤ (cl : Int) := by omega
    have kn2 : k ≤ cl := by omega
    have kn3 : k + 1 ≤ nl := by omega
    have kt : ((k : Int) + 1).toNat = k + 1 := by omega
    obtain ⟨pz, hpz⟩ : ∃ pz, (if cl = k + 1 then some (⟨g, off, none⟩ : Addr) else some ⟨g, off + (k + 1) * 2, none⟩) = pz := ⟨_, rfl⟩
    have hsl : ∀ wx, (Instr.slice 25 (.slice (some ⟨g, off, none⟩) nl cl) (some (.int .i64 ((k : Int) + 1))) none none).run Try.prog wx = .ok (.slice pz (nl - (k + 1)) (cl - (k + 1))) wx := fun wx => by
      have hh := run_slice_l (P := Try.prog) wx 25 (some ⟨g, off, none⟩) nl cl (by kernel_rfl) .i64 ((k : Int) + 1) kb4 kb3
      rw [hh]
      have e1 : (sizeOf (Try.prog.elem 25)).run Try.prog wx = .ok 2 wx := by kernel_rfl
      rw [e1, kt]
      show Result.ok (sliced _ _ _ _ _) wx = _
      unfold sliced
      rw [← hpz]
      by_cases hck : cl = k + 1
      · rw [if_pos hck, if_pos hck]
      · rw [if_neg hck, if_neg hck]
        simp [Addr.add]
    have T1 := hideP' (srow_take HSL.out k hkn)
    have T2 := hideP' (srow_drop HSL.out k hkn pz hpz)
    have HPZ := hideP' hpz
    have OWN0 : Own (w1.alloc (.cells #[] 23)).drew w1.heap.size (.slice (some ⟨w1.heap.size, 0, none⟩) 0 0) [] := World.ownsRow_made w1 #[] 0 (Nat.le_refl _) (Nat.zero_le _) rfl
    have HO := hideP' OWN0
    have hlens : (l.take k).length ≤ 22 ∧ (l.drop (k + 1)).length ≤ 22 := by have := HNL.out; simp; omega
    have hl1 : ([] : List (Int × Int)).length + (l.take k).length ≤ 100000 := by simp only [List.length_nil]; omega
    have hl2 : ([] ++ l.take k).length + (l.drop (k + 1)).length ≤ 100000 := by simp only [List.nil_append]; omega
    have hb0 : Below w1.heap.size w1 (w1.alloc (.cells #[] 23)).drew := (below1 _ _).drew
    have T1b := hideP' (T1.out.below hb0 T1.out.lt)
    have hsz0 : w1.heap.size ≤ (w1.alloc (.cells #[] 23)).drew.heap.size := hb0.size
    have K1 : Hid (∀ v3 w3, Own w3 w1.heap.size v3 ([] ++ l.take k) → (w1.alloc (.cells #[] 23)).drew.grownBy w3 (Value.ownBlock (.slice (some ⟨w1.heap.size, 0, none⟩) 0 0)) → Hid (Own w3 w1.heap.size v3 ([] ++ l.take k)) ∧ Hid (Below w1.heap.size w1 w3) ∧ Hid (SRow w3 (.slice pz (nl - (k + 1)) (cl - (k + 1))) (l.drop (k + 1))) ∧ w1.heap.size ≤ w3.heap.size) := fun v3 w3 ho3 hg3 => by
      have hb3 : Below w1.heap.size w1 w3 := hb0.grown hg3 hsz0 (fun j hj => by simp only [Value.ownBlock, Option.some.injEq] at hj; exact Nat.le_of_eq hj)
      exact ⟨ho3, hb3, T2.out.below hb3 T2.out.lt, hb3.size⟩
    have K2 : Hid (∀ v3 w3 v4 w4, Own w3 w1.heap.size v3 ([] ++ l.take k) → Below w1.heap.size w1 w3 → Own w4 w1.heap.size v4 ([] ++ l.take k ++ l.drop (k + 1)) → w3.grownBy w4 v3.ownBlock → Hid (Below w1.heap.size w1 w4) ∧ Hid (SRow w4 v4 (l.take k ++ l.drop (k + 1)))) := fun v3 w3 v4 w4 ho3 hb3 ho4 hg4 => by
      exact ⟨hb3.grown hg4 hb3.size (fun j hj => (World.ownsRow.lt ho3 j hj).1), by have q := ho4.srow; rw [List.nil_append] at q; exact q⟩
    have hwr : IntKind.i64.wrap ((k : Int) + 1) = (k : Int) + 1 := by simp [IntKind.wrap, IntKind.bits, IntKind.signed]; omega
    clear hpz OWN0 hb0 T1 T2 kt
    go_region_held3 (fun _ => True) (trivial)
      (first
      | (refine step_append_spans _ (by rfl) (.tmp 34) (.tmp 37) (by rfl) w1.heap.size (.slice (some ⟨w1.heap.size, 0, none⟩) 0 0) (.slice (some ⟨g, off, none⟩) k cl) [] (l.take k) (by rfl) (by rfl) HO.out T1b.out hl1 hsz0 ?_; intro v3 w3 ho3 hg3; obtain ⟨HO3, HB3, HS3, hz3⟩ := K1.out v3 w3 ho3 hg3; clear ho3 hg3)
      | (refine step_append_spans _ (by rfl) (.tmp 38) (.tmp 42) (by rfl) w1.heap.size v3 (.slice pz (nl - (k + 1)) (cl - (k + 1))) ([] ++ l.take k) (l.drop (k + 1)) (by rfl) (by rfl) HO3.out HS3.out hl2 hz3 ?_; intro v4 w4 ho4 hg4; obtain ⟨HB4, HS4⟩ := K2.out v3 w3 v4 w4 HO3.out HB3.out ho4 hg4; clear ho4 hg4))
    have hkl : k < l.length := by have := HNL.out; omega
    obtain ⟨fr, fc, fn, fg⟩ := HK.out k hkl
    have a4 := (bc HB4.out _ 0 z1).trans a1
    have b4 := (bc HB4.out _ 1 z1).trans b1
    have z4 := Nat.lt_of_lt_of_le z1 HB4.out.size
    have sl4 := HSL.out.below HB4.out HSL.out.lt
    have hbw4 := hbw1.trans (HB4.out.mono hbw1.size)
    have hlesl : (l.take k ++ l.drop (k + 1)).length ≤ 50000 := by rw [List.length_append]; omega
    have GP := hideP' (gaps26_s v4 _ a b w4 hlesl HS4.out)
    have HF := hideP' (And.intro fr (And.intro fc (And.intro fn fg)))
    have HSL4 := hideP' sl4
    have hll : l.length ≤ 100000 := by have := HNL.out; omega
    clear HO3 HB3 HS3 hz3 K1 K2 HO T1b HPZ hl1 hl2 hlens fr fc fn fg sl4 HB4 HSL hbw1 a1 b1 hwr hsl HK HE
    go_wp2_with fail
    refine GP.out.mono ?_
    rintro e w5 ⟨pg, cg, ng, gs, rfl, hng, HG, hb5⟩
    have eg : gs = [l[k]] := HF.out.2.2.2 gs HG.out.2.1 HG.out.2.2.1
    have ng1 : ng = 1 := by rw [HG.out.1, eg]; rfl
    have sG := HG.out.2.2.2
    rw [eg] at sG
    obtain ⟨pg', cg', hvg, hfg⟩ := sG.form
    simp only [Value.slice.injEq] at hvg
    obtain ⟨hpg, hx9, hx8⟩ := hvg
    clear hx9 hx8
    subst hpg
    obtain ⟨bg, og, hpe, zbg, xa, xb⟩ := hfg 0 (by simp)
    subst hpe
    simp at xa xb
    have sl5 := HSL4.out.below hb5 HSL4.out.lt
    have ss5 := HS4.out.below hb5 HS4.out.lt
    have hcell := (srow_cells sl5).2.2 k hkl
    have hgl5 := ((srow_cells sl5).2.1 (fun e => by rw [e] at hkl; simp at hkl)).2.2
    have a5 := (bc hb5 _ 0 z4).trans a4
    have b5 := (bc hb5 _ 1 z4).trans b4
    have z5 := Nat.lt_of_lt_of_le z4 hb5.size
    have hbw5 := hbw4.trans (hb5.mono hbw4.size)
    obtain ⟨x1, hx1'⟩ : ∃ q, l[k].1 = q := ⟨_, rfl⟩
    obtain ⟨x2, hx2'⟩ : ∃ q, l[k].2 = q := ⟨_, rfl⟩
    rw [hx1'] at xa hcell
    rw [hx2'] at xb hcell
    have hk : S11 w bg og g (off + k * 2) x1 x2 a b (.slice (some ⟨g, off, none⟩) nl cl) v4 l (l.take k ++ l.drop (k + 1)) w5.drew := ⟨⟨xa, xb, hcell.1, hcell.2, a5, b5⟩, zbg, hgl5, z5, sl5.below (Below.refl _ _).drew sl5.lt, ss5.below (Below.refl _ _).drew ss5.lt, hbw5.drew⟩
    have lsl : (l.take k ++ l.drop (k + 1)).length ≤ 100000 := by omega
    have kt7 := fun W h => kT7 (w := w) (bg := bg) (og := og) (g := g) (o1 := off + k * 2) (x := x1) (y := x2) (a := a) (b := b) (vl := .slice (some ⟨g, off, none⟩) nl cl) (vs := v4) (l := l) (ls := l.take k ++ l.drop (k + 1)) W h hll HF.out.1 HF.out.2.1
    have kf7 := fun W h => kF7 (w := w) (bg := bg) (og := og) (g := g) (o1 := off + k * 2) (x := x1) (y := x2) (a := a) (b := b) (vl := .slice (some ⟨g, off, none⟩) nl cl) (vs := v4) (l := l) (ls := l.take k ++ l.drop (k + 1)) W h lsl HF.out.2.2.1
    generalize l.take k ++ l.drop (k + 1) = ls at hk kt7 kf7
    have KT := hideP' kt7
    have KF := hideP' kf7
    clear kt7 kf7 xa xb hcell hgl5 a5 b5 z5 hbw5 sl5 ss5 hx1' hx2' hfg sG eg HG HF HSL4 HS4 GP hb5 a4 b4 z4 hbw4 zbg HNL
    subst ng1
    go_wp2_with fail
    go_region_held3 (fun w' => w'.cell? ⟨bg, og, none⟩ = some (.int .i64 x1) ∧ w'.cell? ⟨bg, og + 1, none⟩ = some (.int .i64 x2) ∧ w'.cell? ⟨g, off + k * 2, none⟩ = some (.int .i64 x1) ∧ w'.cell? ⟨g, off + k * 2 + 1, none⟩ = some (.int .i64 x2) ∧ w'.cell? ⟨w.heap.size, 0, none⟩ = some (.int .i64 a) ∧ w'.cell? ⟨w.heap.size, 1, none⟩ = some (.int .i64 b)) (exact hk.1)
      (first
      | (go_at_call_of 7 (Value.slice (some ⟨g, off, none⟩) nl cl); refine (KT.out _ hk).mono ?_; rintro e wk ⟨rfl, hk⟩)
      | (go_at_call 7; refine (KF.out _ hk).mono ?_; rintro e wk ⟨rfl, hk⟩))
    go_wp2
    go_ret
    exact ⟨rfl, hk.2.2.2.2.2.2⟩

theorem topCovers3 (v : Value) (zs : List Int) (a b x : Int) (w : World) (h : IRow w v zs) (hm : zs.length ≤ maxLen) (hx0 : 0 ≤ x) (hx1 : x ≤ 255) :
    Calls Try.prog 3 #[.agg #[.int .i64 a, .int .i64 b], v, .int .u8 x] w fun e w' => e = .returned (.bool true) ∧ Below w.heap.size w w' := by
  unfold maxLen at hm
  have hW : IRow (w.alloc (.cells #[.int .i64 a, .int .i64 b] 23)) v zs := h.below (below1 w _) h.lt
  by_cases h30 : 20 < zs.length
  · rcases hW with ⟨_, h0⟩ | ⟨bb0, off0, cap, hv, h1, h2, h3, h4⟩
    · rw [h0] at h30; simp at h30
    · have hlt : (zs.take 20).length = 20 := by simp; omega
      rw [hv]
      refine topCovers3_long bb0 off0 cap zs.length (zs.take 20) a b x w (.inr ⟨bb0, off0, cap, by rw [hlt], by omega, h2, h3, fun i hi => ?_⟩) h30 (by omega) (by omega) (by omega) hx0 hx1
      have := h4 i (by omega)
      rw [List.getElem_take]
      exact this
  · obtain ⟨pv, cv, hv, _⟩ := hW.form
    rw [hv] at hW ⊢
    exact topCovers3_short pv cv zs.length zs a b x w hW (by omega) (by omega) hx0 hx1

end Go.Proofs.Ytgkkknjkgpdcjab
