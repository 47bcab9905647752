/- The document's chain of a half. · The document's Open. -/
import Derived.Test.YtnganmekiloigaaZb
/-! ### The document's chain of a half. -/
namespace Go.Proofs.Ytnganmekiloigaa
open Go.RowKit
set_option maxRecDepth 100000
variable {w w' : World}
/-- The records of a half, one behind the other, as the document has them. -/
def chainR (h : List Pc) : Nat → Nat → Nat → List Rc
  | 0, _, _ => []
  | g + 1, p, e => if p < h.length then (match atR h p with | none => [] | some r => if r.e < e then [] else r :: chainR h g (p + r.n) r.e) else []
theorem atR_some {h : List Pc} {p : Nat} {r : Rc} (hr : atR h p = some r) : ∃ f, h[p]? = some f ∧ r.e = f.e ∧ r.n = f.n ∧ 0 < r.e ∧ 1 ≤ r.n ∧ p + r.n ≤ h.length ∧ (r.b).length ≤ 57 * r.n := by
  unfold atR at hr
  cases hf : h[p]? with
  | none => rw [hf] at hr; cases hr
  | some f =>
    rw [hf] at hr
    simp only at hr
    split at hr
    · cases hr
    · rename_i h0
      split at hr
      · rename_i ha
        cases hr
        have hp : p < h.length := (List.getElem?_eq_some_iff.1 hf).1
        refine ⟨f, rfl, rfl, rfl, by simp only; omega, by simp only; omega, by simp only; omega, ?_⟩
        exact flat_len f.n (fun i hi => List.all_eq_true.1 ha i (List.mem_range.2 hi))
      · cases hr
/-- A value reads as records, in blocks from B on. -/
def VR (B : Nat) (w : World) (v : Value) (rs : List Rc) : Prop := ∃ vs : List Sl, RW EV B w v vs ∧ vs.length = rs.length ∧ ∀ (i : Nat) (y : Sl) (r : Rc), vs[i]? = some y → rs[i]? = some r → RW EB B w (slV y) r.b
theorem VR.below {B : Nat} {v : Value} {rs : List Rc} (h : VR B w v rs) (k : Below w.heap.size w w') : VR B w' v rs := by
  obtain ⟨vs, h1, h2, h3⟩ := h
  exact ⟨vs, h1.below k, h2, fun i y r hy hr => (h3 i y r hy hr).below k⟩
theorem VR.rl {B : Nat} {v : Value} {rs : List Rc} (h : VR B w v rs) : RL w v (rs.map Rc.b) := by
  obtain ⟨vs, h1, h2, h3⟩ := h
  refine ⟨vs, h1.read, by rw [List.length_map]; exact h2, fun i y b hy hb => ?_⟩
  rw [List.getElem?_map] at hb
  cases hr : rs[i]? with
  | none => rw [hr] at hb; cases hb
  | some r => rw [hr] at hb; cases hb; exact (h3 i y r hy hr).read
theorem VR.form {B : Nat} {v : Value} {rs : List Rc} (h : VR B w v rs) : ∃ a c, v = .slice a rs.length c := by
  obtain ⟨vs, h1, h2, h3⟩ := h
  obtain ⟨a, c, rfl, _⟩ := h1.form
  exact ⟨a, c, by rw [h2]⟩
theorem VR.nil (B : Nat) (w : World) : VR B w (.slice none 0 0) [] := ⟨[], RW.nil _ _ _, rfl, fun i y r hy => by simp at hy⟩
theorem rw_apart {B B' : Nat} {u v : Value} {l : Bs} {vs : List Sl} (h : RW EB B w v l) (hu : RW EV B' w u vs) {k : Nat} (hk : v.ownBlock = some k) : u.ownBlock ≠ some k := by
  obtain ⟨_, ⟨rfl, _⟩ | ⟨g, cap, cur, rfl, h3, h4, h5⟩⟩ := h
  · cases hk
  · cases hk
    exact RW.ne (b := g) (l := cur.toList) (t := EB.tE) (by unfold Blk; simpa using h4) (by decide) hu
/-- The epoch that chain tells. -/
def firstE (h : List Pc) (rs : List Rc) : Nat := if rs = [] then 0 else match h[0]? with | none => 0 | some f => f.e
/-- What chain answers. -/
def ChPost (h : List Pc) (w0 : World) (e : Ending) (w' : World) : Prop := ∃ v, e = .returned (.tuple #[v, .int .i64 ((((chainR h (h.length + 1) 0 0).map Rc.n).sum : Nat) : Int), .int .i64 (firstE h (chainR h (h.length + 1) 0 0) : Int)]) ∧ VR w0.heap.size w' v (chainR h (h.length + 1) 0 0) ∧ Below w0.heap.size w0 w'
set_option maxHeartbeats 8000000 in
theorem chain85 {a : Option Addr} {hl c : Nat} {hh : List Pc} (hp : PL w (.slice a hl c) hh) (hpl : 0 < hh.length) (hlen : hh.length ≤ 64) : Calls Try.prog 85 #[.slice a hl c] w (ChPost hh w) := by
  obtain ⟨f, hf⟩ : ∃ f, hh[0]? = some f := ⟨_, List.getElem?_eq_getElem hpl⟩
  have hlh : hl = hh.length := by obtain ⟨_, _, h, _⟩ := hp.form; simp only [Value.slice.injEq] at h; exact h.2.1
  obtain ⟨g, o, y0, rfl, hr0, -⟩ := hp.at hf
  have e0 : w.cell? ⟨g, o, none⟩ = some (.int .i64 (f.e : Int)) := by have := hr0 0 _ rfl; simpa using this
  have HPL : Hid (PL w (.slice (some ⟨g, o, none⟩) hl c) hh) := hp
  obtain ⟨fe, hfe⟩ : ∃ fe, f.e = fe := ⟨_, rfl⟩
  rw [hfe] at e0
  have HFF : Hid (hh[0]? = some f ∧ f.e = fe ∧ hh.length = hl ∧ hh.length ≤ 64 ∧ 0 < hl) := ⟨hf, hfe, hlh.symm, hlen, by omega⟩
  have hl0 : (0 : Int) < (hl : Int) := by omega
  have hl0n : 0 < hl := by omega
  clear hp hr0 hf hfe hlh hlen hpl
  go_enter Try.func85, Try.ntmps85
  go_wp2_with fail
  go_loopw [5, 6, 7] (fun u q z wr => ∃ (p e : Nat) (T : List Rc) (vs : List Sl) (k : Nat), q = .int .i64 (p : Int) ∧ z = .int .i64 (e : Int) ∧ Hid (p ≤ hl ∧ True ∧ T.length ≤ p ∧ (p = 0 → T = [] ∧ e = 0) ∧ (0 < p → T ≠ [])) ∧ Hid (chainR hh (hl + 1) 0 0 = T ++ chainR hh (k + 1) p e ∧ T.length + k = hl ∧ (T.map Rc.n).sum = p) ∧ Hid (RW EV w.heap.size wr u vs ∧ vs.length = T.length ∧ ∀ (i : Nat) (y : Sl) (r : Rc), vs[i]? = some y → T[i]? = some r → RW EB w.heap.size wr (slV y) r.b) ∧ Hid (Below w.heap.size w wr)) (fun _ q _ _ => hl - (intOf q).toNat)
  case atStart => exact ⟨0, 0, [], [], hl, rfl, rfl, ⟨Nat.zero_le _, trivial, Nat.zero_le _, fun _ => ⟨rfl, rfl⟩, fun h => absurd h (by omega)⟩, ⟨rfl, by simp, rfl⟩, ⟨RW.nil _ _ _, rfl, fun i y r hy => by simp at hy⟩, Below.refl _ _⟩
  case round =>
    obtain ⟨p, e, T, vs, k, rfl, rfl, hP, hC, hU, hB⟩ := hrel
    obtain ⟨ua, uc, hu, _⟩ := hU.out.1.form
    have hvl := hU.out.2.1
    rw [hvl] at hu
    have hTp := hP.out.2.2.1
    obtain ⟨tn, htn⟩ : ∃ tn, T.length = tn := ⟨_, rfl⟩
    rw [htn] at hu hTp
    subst hu
    have HTN : Hid (T.length = tn) := htn
    clear htn hvl
    have eB : wr.cell? ⟨g, o, none⟩ = some (.int .i64 (fe : Int)) := (hB.out.cell (World.block_lt_of_cell? _ _ e0)).trans e0
    by_cases hlt : p < hl
    · have hlti : (p : Int) < (hl : Int) := by omega
      have hp0 : (0 : Int) ≤ (p : Int) := by omega
      obtain ⟨x, hx⟩ : ∃ x, hh[p]? = some x := ⟨_, List.getElem?_eq_getElem (by rw [HFF.out.2.2.1]; exact hlt)⟩
      obtain ⟨g', o', y, e', hr, -⟩ := (HPL.out.below hB.out).at hx
      cases e'
      have ex : wr.cell? ⟨g, o + p * 6, none⟩ = some (.int .i64 (x.e : Int)) := by have := hr 0 _ rfl; simpa using this
      have k104 := at104 (HPL.out.below hB.out) (p := p) (by rw [HFF.out.2.2.1]; exact hlt) HFF.out.2.2.2.1
      have hstep : chainR hh (k + 1) p e = (match atR hh p with | none => [] | some r => if r.e < e then [] else r :: chainR hh k (p + r.n) r.e) := by
        show (if p < hh.length then _ else _) = _
        rw [if_pos (by rw [HFF.out.2.2.1]; exact hlt)]
      cases hat : atR hh p with
      | none =>
        rw [hat] at hstep
        have k1 : Calls Try.prog 104 #[.slice (some ⟨g, o, none⟩) hl c, .int .i64 (p : Int)] wr fun e w' => e = .returned (.tuple #[.slice none 0 0, .int .i64 0]) ∧ Below wr.heap.size wr w' := k104.mono (by
          rintro e w1 ⟨v, n, rfl, B1, hv⟩
          rw [hat] at hv
          obtain ⟨rfl, rfl⟩ := hv
          exact ⟨rfl, B1⟩)
        have HEND : Hid (chainR hh (hl + 1) 0 0 = T) := by show _ = _; rw [hC.out.1, hstep]; simp
        clear k104 hstep hr hx
        by_cases hpz0 : p = 0
        · subst hpz0
          have HT0 : Hid (T = []) := (hP.out.2.2.2.1 rfl).1
          have HFIN : Hid (∀ W, Below wr.heap.size wr W → ChPost hh w (.returned (.tuple #[.slice none 0 0, .int .i64 0, .int .i64 0])) W) := fun W k => by
            refine ⟨.slice none 0 0, ?_, ?_, hB.out.trans (k.mono hB.out.size)⟩
            · rw [HFF.out.2.2.1, HEND.out, HT0.out]; rfl
            · rw [HFF.out.2.2.1, HEND.out, HT0.out]; exact VR.nil _ _
          go_wp2_with (go_at_call 104; (refine k1.mono ?_; rintro e' w1 ⟨rfl, B1⟩; have HB1 : Hid (Below wr.heap.size wr w1) := B1; clear B1))
          have hq := HFIN.out w1 HB1.out
          refine bodyPost_ret (v := .tuple #[.slice none 0 0, .int .i64 0, .int .i64 0]) (by simp [results, Try.results85]) rfl hq
        · have hp1 : 0 < p := by omega
          have hpz : ((p : Int) == 0) = false := by rw [beq_eq_false_iff_ne]; omega
          have hpz1 : ¬ (p : Int) = 0 := by omega
          have hpz2 : ¬ p = 0 := by omega
          have HT : Hid (T ≠ []) := hP.out.2.2.2.2 (by omega)
          have HFIN : Hid (∀ W, Below wr.heap.size wr W → ChPost hh w (.returned (.tuple #[.slice ua tn uc, .int .i64 (p : Int), .int .i64 (fe : Int)])) W) := fun W k => by
            refine ⟨.slice ua tn uc, ?_, ?_, hB.out.trans (k.mono hB.out.size)⟩
            · rw [HFF.out.2.2.1, HEND.out, hC.out.2.2]
              unfold firstE
              rw [if_neg HT.out, HFF.out.1]
              simp only
              rw [HFF.out.2.1]
            · rw [HFF.out.2.2.1, HEND.out]
              exact ⟨vs, hU.out.1.below k, hU.out.2.1, fun i y r hy hr => (hU.out.2.2 i y r hy hr).below k⟩
          go_wp2_with (go_at_call 104; (refine k1.mono ?_; rintro e' w1 ⟨rfl, B1⟩; have HB1 : Hid (Below wr.heap.size wr w1) := B1; have ez := (B1.cell (World.block_lt_of_cell? _ _ eB)).trans eB; clear B1))
          refine wp_region_held_drew (S := fun W => W.cell? ⟨g, o, none⟩ = some (.int .i64 (fe : Int))) (by kernel_rfl) (ez) (fun hS => ?_)
          refine wpAnyH_take' 0 (some 45) (.slice ua tn uc) rfl rfl (by kernel_rfl) (by kernel_rfl) (by kernel_rfl) (fun _ _ _ h => h) (Or.inl ⟨by rfl, fun w' hS => by go_simp⟩) hS ?_
          simp only [Act.put, List.setIfInBounds_toArray, List.set_cons_zero, List.set_cons_succ]
          refine wpAnyH_take' 1 (some 46) (.int .i64 (p : Int)) rfl rfl (by kernel_rfl) (by kernel_rfl) (by kernel_rfl) (fun _ _ _ h => h) (Or.inl ⟨by rfl, fun w' hS => by go_simp⟩) hS ?_
          simp only [Act.put, List.setIfInBounds_toArray, List.set_cons_zero, List.set_cons_succ]
          refine wpAnyH_take' 2 (some 47) (.slice (some ⟨g, o, none⟩) hl c) rfl rfl (by kernel_rfl) (by kernel_rfl) (by kernel_rfl) (fun _ _ _ h => h) (Or.inl ⟨by rfl, fun w' hS => by go_simp⟩) hS ?_
          simp only [Act.put, List.setIfInBounds_toArray, List.set_cons_zero, List.set_cons_succ]
          refine wpAnyH_take' 3 (some 48) (.pointer (some ⟨g, o, none⟩)) rfl rfl (by kernel_rfl) (by kernel_rfl) (by kernel_rfl) (fun _ _ _ h => h) (Or.inl ⟨by rfl, fun w' hS => by go_simp⟩) hS ?_
          simp only [Act.put, List.setIfInBounds_toArray, List.set_cons_zero, List.set_cons_succ]
          refine wpAnyH_take' 4 (some 49) (.pointer (some ⟨g, o, none⟩)) rfl rfl (by kernel_rfl) (by kernel_rfl) (by kernel_rfl) (fun _ _ _ h => h) (Or.inl ⟨by rfl, fun w' hS => by go_simp⟩) hS ?_
          simp only [Act.put, List.setIfInBounds_toArray, List.set_cons_zero, List.set_cons_succ]
          refine wpAnyH_take' 5 (some 50) (.int .i64 (fe : Int)) rfl rfl (by kernel_rfl) (by kernel_rfl) (by kernel_rfl) (fun _ _ _ h => h) (Or.inl ⟨by rfl, fun w' hS => by go_simp⟩) hS ?_
          simp only [Act.put, List.setIfInBounds_toArray, List.set_cons_zero, List.set_cons_succ]
          refine wpAnyH_take' 6 (some 2) (.slice ua tn uc) rfl rfl (by kernel_rfl) (by kernel_rfl) (by kernel_rfl) (fun _ _ _ h => h) (Or.inl ⟨by rfl, fun w' hS => by go_simp⟩) hS ?_
          simp only [Act.put, List.setIfInBounds_toArray, List.set_cons_zero, List.set_cons_succ]
          refine wpAnyH_take' 7 (some 3) (.int .i64 (p : Int)) rfl rfl (by kernel_rfl) (by kernel_rfl) (by kernel_rfl) (fun _ _ _ h => h) (Or.inl ⟨by rfl, fun w' hS => by go_simp⟩) hS ?_
          simp only [Act.put, List.setIfInBounds_toArray, List.set_cons_zero, List.set_cons_succ]
          refine wpAnyH_take' 8 (some 4) (.int .i64 (fe : Int)) rfl rfl (by kernel_rfl) (by kernel_rfl) (by kernel_rfl) (fun _ _ _ h => h) (Or.inl ⟨by rfl, fun w' hS => by go_simp⟩) hS ?_
          simp only [Act.put, List.setIfInBounds_toArray, List.set_cons_zero, List.set_cons_succ]
          refine wpAnyH_done (by kernel_rfl) ?_ _
          clear hS
          go_wp2
          have hq := HFIN.out w1.drew (HB1.out.trans (Below.refl _ _).drew)
          refine bodyPost_ret (v := .tuple #[.slice ua tn uc, .int .i64 (p : Int), .int .i64 (fe : Int)]) (by simp [results, Try.results85]) rfl hq
      | some r =>
        rw [hat] at hstep
        obtain ⟨f', hf', hre, hrn, hr0, hr1, hrl, -⟩ := atR_some hat
        rw [hx] at hf'
        cases hf'
        have k1 : Calls Try.prog 104 #[.slice (some ⟨g, o, none⟩) hl c, .int .i64 (p : Int)] wr fun e w' => ∃ ra rc, e = .returned (.tuple #[.slice ra r.b.length rc, .int .i64 (r.n : Int)]) ∧ RW EB wr.heap.size w' (.slice ra r.b.length rc) r.b ∧ Below wr.heap.size wr w' := k104.mono (by
          rintro e w1 ⟨v, n, rfl, B1, hv⟩
          rw [hat] at hv
          obtain ⟨hv, rfl⟩ := hv
          obtain ⟨ra, rc, rfl, _⟩ := hv.form
          exact ⟨ra, rc, rfl, hv, B1⟩)
        rw [← hre] at ex
        rw [HFF.out.2.2.1] at hrl
        obtain ⟨re, hree⟩ : ∃ re, r.e = re := ⟨_, rfl⟩
        obtain ⟨rn, hrnn⟩ : ∃ rn, r.n = rn := ⟨_, rfl⟩
        obtain ⟨bl, hbl⟩ : ∃ bl, r.b.length = bl := ⟨_, rfl⟩
        have HR : Hid (r.e = re ∧ r.n = rn ∧ r.b.length = bl) := ⟨hree, hrnn, hbl⟩
        rw [hree] at ex hr0
        rw [hrnn] at hr1 hrl
        rw [hrnn, hbl] at k1
        have hn0 : ((rn : Int) == 0) = false := by rw [beq_eq_false_iff_ne]; omega
        have hn1 : ¬ (rn : Int) = 0 := by omega
        have hn2 : ¬ rn = 0 := by omega
        clear k104 hr hx hre hrn hree hrnn hbl
        by_cases hlte : re < e
        · have hlt2 : (re : Int) < (e : Int) := by omega
          have HEND : Hid (chainR hh (hl + 1) 0 0 = T) := by show _ = _; rw [hC.out.1, hstep]; simp [HR.out.1, hlte]
          have hp1 : 0 < p := by
            rcases Nat.eq_zero_or_pos p with h | h
            · have := (hP.out.2.2.2.1 h).2; omega
            · exact h
          clear hstep
          have hpz : ((p : Int) == 0) = false := by rw [beq_eq_false_iff_ne]; omega
          have hpz1 : ¬ (p : Int) = 0 := by omega
          have hpz2 : ¬ p = 0 := by omega
          have HT : Hid (T ≠ []) := hP.out.2.2.2.2 (by omega)
          have HFIN : Hid (∀ W, Below wr.heap.size wr W → ChPost hh w (.returned (.tuple #[.slice ua tn uc, .int .i64 (p : Int), .int .i64 (fe : Int)])) W) := fun W k => by
            refine ⟨.slice ua tn uc, ?_, ?_, hB.out.trans (k.mono hB.out.size)⟩
            · rw [HFF.out.2.2.1, HEND.out, hC.out.2.2]
              unfold firstE
              rw [if_neg HT.out, HFF.out.1]
              simp only
              rw [HFF.out.2.1]
            · rw [HFF.out.2.2.1, HEND.out]
              exact ⟨vs, hU.out.1.below k, hU.out.2.1, fun i y r hy hr => (hU.out.2.2 i y r hy hr).below k⟩
          go_wp2_with (go_at_call 104; (refine k1.mono ?_; rintro e' w1 ⟨ra, rc, rfl, -, B1⟩; have HB1 : Hid (Below wr.heap.size wr w1) := B1; have ez := (B1.cell (World.block_lt_of_cell? _ _ eB)).trans eB; have ex1 := (B1.cell (World.block_lt_of_cell? _ _ ex)).trans ex; clear B1))
          refine wp_region_held_drew (S := fun W => W.cell? ⟨g, o, none⟩ = some (.int .i64 (fe : Int))) (by kernel_rfl) (ez) (fun hS => ?_)
          refine wpAnyH_take' 0 (some 45) (.slice ua tn uc) rfl rfl (by kernel_rfl) (by kernel_rfl) (by kernel_rfl) (fun _ _ _ h => h) (Or.inl ⟨by rfl, fun w' hS => by go_simp⟩) hS ?_
          simp only [Act.put, List.setIfInBounds_toArray, List.set_cons_zero, List.set_cons_succ]
          refine wpAnyH_take' 1 (some 46) (.int .i64 (p : Int)) rfl rfl (by kernel_rfl) (by kernel_rfl) (by kernel_rfl) (fun _ _ _ h => h) (Or.inl ⟨by rfl, fun w' hS => by go_simp⟩) hS ?_
          simp only [Act.put, List.setIfInBounds_toArray, List.set_cons_zero, List.set_cons_succ]
          refine wpAnyH_take' 2 (some 47) (.slice (some ⟨g, o, none⟩) hl c) rfl rfl (by kernel_rfl) (by kernel_rfl) (by kernel_rfl) (fun _ _ _ h => h) (Or.inl ⟨by rfl, fun w' hS => by go_simp⟩) hS ?_
          simp only [Act.put, List.setIfInBounds_toArray, List.set_cons_zero, List.set_cons_succ]
          refine wpAnyH_take' 3 (some 48) (.pointer (some ⟨g, o, none⟩)) rfl rfl (by kernel_rfl) (by kernel_rfl) (by kernel_rfl) (fun _ _ _ h => h) (Or.inl ⟨by rfl, fun w' hS => by go_simp⟩) hS ?_
          simp only [Act.put, List.setIfInBounds_toArray, List.set_cons_zero, List.set_cons_succ]
          refine wpAnyH_take' 4 (some 49) (.pointer (some ⟨g, o, none⟩)) rfl rfl (by kernel_rfl) (by kernel_rfl) (by kernel_rfl) (fun _ _ _ h => h) (Or.inl ⟨by rfl, fun w' hS => by go_simp⟩) hS ?_
          simp only [Act.put, List.setIfInBounds_toArray, List.set_cons_zero, List.set_cons_succ]
          refine wpAnyH_take' 5 (some 50) (.int .i64 (fe : Int)) rfl rfl (by kernel_rfl) (by kernel_rfl) (by kernel_rfl) (fun _ _ _ h => h) (Or.inl ⟨by rfl, fun w' hS => by go_simp⟩) hS ?_
          simp only [Act.put, List.setIfInBounds_toArray, List.set_cons_zero, List.set_cons_succ]
          refine wpAnyH_take' 6 (some 2) (.slice ua tn uc) rfl rfl (by kernel_rfl) (by kernel_rfl) (by kernel_rfl) (fun _ _ _ h => h) (Or.inl ⟨by rfl, fun w' hS => by go_simp⟩) hS ?_
          simp only [Act.put, List.setIfInBounds_toArray, List.set_cons_zero, List.set_cons_succ]
          refine wpAnyH_take' 7 (some 3) (.int .i64 (p : Int)) rfl rfl (by kernel_rfl) (by kernel_rfl) (by kernel_rfl) (fun _ _ _ h => h) (Or.inl ⟨by rfl, fun w' hS => by go_simp⟩) hS ?_
          simp only [Act.put, List.setIfInBounds_toArray, List.set_cons_zero, List.set_cons_succ]
          refine wpAnyH_take' 8 (some 4) (.int .i64 (fe : Int)) rfl rfl (by kernel_rfl) (by kernel_rfl) (by kernel_rfl) (fun _ _ _ h => h) (Or.inl ⟨by rfl, fun w' hS => by go_simp⟩) hS ?_
          simp only [Act.put, List.setIfInBounds_toArray, List.set_cons_zero, List.set_cons_succ]
          refine wpAnyH_done (by kernel_rfl) ?_ _
          clear hS
          go_wp2
          have hq := HFIN.out w1.drew (HB1.out.trans (Below.refl _ _).drew)
          refine bodyPost_ret (v := .tuple #[.slice ua tn uc, .int .i64 (p : Int), .int .i64 (fe : Int)]) (by simp [results, Try.results85]) rfl hq
        · have hlt2 : ¬ (re : Int) < (e : Int) := by omega
          have hlt2d : decide ((re : Int) < (e : Int)) = false := decide_eq_false hlt2
          have HST : Hid (chainR hh (hl + 1) 0 0 = (T ++ [r]) ++ chainR hh k (p + rn) re) := by show _ = _; rw [hC.out.1, hstep]; simp [HR.out.1, HR.out.2.1, hlte]
          have hpb : (p : Int) ≤ 64 := by have := HFF.out; omega
          have hrb : (rn : Int) ≤ 64 := by have := HFF.out; omega
          have HRL : Hid (p + rn ≤ hl ∧ 1 ≤ rn) := ⟨hrl, hr1⟩
          have HREL : Hid (p + rn ≤ hl ∧ True ∧ (T ++ [r]).length ≤ p + rn ∧ (p + rn = 0 → T ++ [r] = [] ∧ re = 0) ∧ (0 < p + rn → T ++ [r] ≠ [])) := ⟨HRL.out.1, trivial, by have := HTN.out; have := HRL.out; simp; omega, fun h => by have := HRL.out; omega, fun _ => by simp⟩
          have HREL2 : Hid (chainR hh (hl + 1) 0 0 = (T ++ [r]) ++ chainR hh (k - 1 + 1) (p + rn) re ∧ (T ++ [r]).length + (k - 1) = hl ∧ ((T ++ [r]).map Rc.n).sum = p + rn) := by
            have h1 := hC.out.2.1
            have h2 := HTN.out
            have hk1 : k - 1 + 1 = k := by omega
            refine ⟨by rw [hk1]; exact HST.out, by simp; omega, by rw [List.map_append, List.sum_append, hC.out.2.2]; simp [HR.out.2.1]⟩
          have HREL3 : Hid (∀ w1 w5 ra rc u5, RW EB wr.heap.size w1 (.slice ra bl rc) r.b → Below wr.heap.size wr w1 → RW EV w.heap.size w5 u5 (vs ++ [(ra, bl, rc)]) → (Below w.heap.size w1 w5 ∧ ∀ k, k < w1.heap.size → (Value.slice ua tn uc).ownBlock ≠ some k → w5.heap[k]? = w1.heap[k]?) → RW EV w.heap.size w5 u5 (vs ++ [(ra, bl, rc)]) ∧ (vs ++ [(ra, bl, rc)]).length = (T ++ [r]).length ∧ ∀ (i : Nat) (y : Sl) (q : Rc), (vs ++ [(ra, bl, rc)])[i]? = some y → (T ++ [r])[i]? = some q → RW EB w.heap.size w5 (slV y) q.b) := fun w1 w5 ra rc u5 h1 h2 h3 h4 => by
            have hvl := hU.out.2.1
            refine ⟨h3, by simp [hvl], fun i y q hy hq => ?_⟩
            by_cases hi : i < vs.length
            · rw [List.getElem?_append_left hi] at hy
              rw [List.getElem?_append_left (by omega)] at hq
              exact ((hU.out.2.2 i y q hy hq).below h2).keep fun z hz => h4.2 z (((hU.out.2.2 i y q hy hq).below h2).at hz).2 (rw_apart ((hU.out.2.2 i y q hy hq).below h2) (hU.out.1.below h2) hz)
            · rw [List.getElem?_append_right (by omega)] at hy
              rw [List.getElem?_append_right (by omega), ← hvl] at hq
              cases hk : i - vs.length with
              | zero =>
                rw [hk] at hy hq
                simp at hy hq
                subst hy hq
                exact (RW.lower h1 hB.out.size).keep fun z hz => h4.2 z (h1.at hz).2 (rw_apart h1 (hU.out.1.below h2) hz)
              | succ k => rw [hk] at hy; simp at hy
          have HKA : Hid (∀ w1, Below wr.heap.size wr w1 → ∀ (ra : Option Addr) (bl rc : Nat), ∃ u' w', (Builtin.append_ #[62, 62] 62 #[.slice ua tn uc, .slice (some ⟨w1.heap.size, 0, none⟩) 1 1]).run Try.prog (w1.alloc (.cells #[.slice ra bl rc] 33)) = .ok u' w' ∧ RW EV w.heap.size w' u' (vs ++ [(ra, bl, rc)]) ∧ (Below w.heap.size w1 w' ∧ ∀ k, k < w1.heap.size → (Value.slice ua tn uc).ownBlock ≠ some k → w'.heap[k]? = w1.heap[k]?)) := fun w1 k ra bl rc => by
            have hsz := hB.out.size
            have hsk := k.size
            obtain ⟨g', cap, w', h1, h2, h3, h4, h5⟩ := rw_app2 ((hU.out.1.below k).below (al w1 _)) (lv_oneV (ra, bl, rc)) (by simp) (by have := hU.out.2.1; have := HTN.out; have := HFF.out; simp; omega) (by simp; omega)
            refine ⟨_, w', h1, h2, ((al w1 _).mono (by omega)).trans ⟨h3.os, h3.tape, h3.output, h3.size, fun q hq => h3.block q (by simp; omega) fun e => ?_⟩, fun q hq hne => (h3.block q (by simp; omega) (Ne.symm hne)).trans (Below.heap_alloc _ _ _ hq)⟩
            have := ((hU.out.1.below k).at e.symm).1
            omega
          have HBEL : Hid (∀ w1 w5, Below wr.heap.size wr w1 → Below w.heap.size w1 w5 → Below w.heap.size w w5) := fun w1 w5 h1 h2 => (hB.out.trans (h1.mono hB.out.size)).trans h2
          clear hstep hr1 hrl
          go_wp2_with (first
            | (go_at_call 104; (refine k1.mono ?_; rintro e' w1 ⟨ra, rc, rfl, hw1, B1⟩; have HW1 : Hid (RW EB wr.heap.size w1 (.slice ra bl rc) r.b) := hw1; clear hw1; have HB1 : Hid (Below wr.heap.size wr w1) := B1; have ex1 := (B1.cell (World.block_lt_of_cell? _ _ ex)).trans ex; clear B1; have kA := HKA.out w1 HB1.out ra bl rc))
            | (at_builtin; (refine wpList_append_ex (by rfl) (.tmp 36) (.tmp 38) 62 (by rfl) _ _ (by rfl) (by rfl) kA ?_; rintro u5 w5 ⟨hU5, hB5⟩)))
          go_roundw
          case rel => exact ⟨p + rn, re, T ++ [r], vs ++ [(ra, bl, rc)], k - 1, by simp, rfl, HREL.out, HREL2.out, HREL3.out w1 w5 ra rc u5 HW1.out HB1.out hU5 hB5, HBEL.out w1 w5 HB1.out hB5.1⟩
          case measure => simp only [intOf]; have := HRL.out; omega
    · have hlti : ¬ (p : Int) < (hl : Int) := by omega
      have hpe : p = hl := by have := hP.out.1; omega
      have HEND : Hid (chainR hh (hl + 1) 0 0 = T) := by
        show _ = _
        rw [hC.out.1]
        show T ++ (if p < hh.length then _ else _) = _
        rw [if_neg (by rw [HFF.out.2.2.1]; exact hlt)]
        simp
      have hp1 : 0 < p := by omega
      have HPE : Hid (p = hl) := hpe
      clear hpe
      have hpz : ((p : Int) == 0) = false := by rw [beq_eq_false_iff_ne]; omega
      have hpz1 : ¬ (p : Int) = 0 := by omega
      have hpz2 : ¬ p = 0 := by omega
      have HT : Hid (T ≠ []) := hP.out.2.2.2.2 (by omega)
      have HFIN : Hid (∀ W, Below wr.heap.size wr W → ChPost hh w (.returned (.tuple #[.slice ua tn uc, .int .i64 (p : Int), .int .i64 (fe : Int)])) W) := fun W k => by
        refine ⟨.slice ua tn uc, ?_, ?_, hB.out.trans (k.mono hB.out.size)⟩
        · rw [HFF.out.2.2.1, HEND.out, hC.out.2.2]
          unfold firstE
          rw [if_neg HT.out, HFF.out.1]
          simp only
          rw [HFF.out.2.1]
        · rw [HFF.out.2.2.1, HEND.out]
          exact ⟨vs, hU.out.1.below k, hU.out.2.1, fun i y r hy hr => (hU.out.2.2 i y r hy hr).below k⟩
      go_wp2_with fail
      refine wp_region_held_drew (S := fun W => W.cell? ⟨g, o, none⟩ = some (.int .i64 (fe : Int))) (by kernel_rfl) (eB) (fun hS => ?_)
      refine wpAnyH_take' 0 (some 45) (.slice ua tn uc) rfl rfl (by kernel_rfl) (by kernel_rfl) (by kernel_rfl) (fun _ _ _ h => h) (Or.inl ⟨by rfl, fun w' hS => by go_simp⟩) hS ?_
      simp only [Act.put, List.setIfInBounds_toArray, List.set_cons_zero, List.set_cons_succ]
      refine wpAnyH_take' 1 (some 46) (.int .i64 (p : Int)) rfl rfl (by kernel_rfl) (by kernel_rfl) (by kernel_rfl) (fun _ _ _ h => h) (Or.inl ⟨by rfl, fun w' hS => by go_simp⟩) hS ?_
      simp only [Act.put, List.setIfInBounds_toArray, List.set_cons_zero, List.set_cons_succ]
      refine wpAnyH_take' 2 (some 47) (.slice (some ⟨g, o, none⟩) hl c) rfl rfl (by kernel_rfl) (by kernel_rfl) (by kernel_rfl) (fun _ _ _ h => h) (Or.inl ⟨by rfl, fun w' hS => by go_simp⟩) hS ?_
      simp only [Act.put, List.setIfInBounds_toArray, List.set_cons_zero, List.set_cons_succ]
      refine wpAnyH_take' 3 (some 48) (.pointer (some ⟨g, o, none⟩)) rfl rfl (by kernel_rfl) (by kernel_rfl) (by kernel_rfl) (fun _ _ _ h => h) (Or.inl ⟨by rfl, fun w' hS => by go_simp⟩) hS ?_
      simp only [Act.put, List.setIfInBounds_toArray, List.set_cons_zero, List.set_cons_succ]
      refine wpAnyH_take' 4 (some 49) (.pointer (some ⟨g, o, none⟩)) rfl rfl (by kernel_rfl) (by kernel_rfl) (by kernel_rfl) (fun _ _ _ h => h) (Or.inl ⟨by rfl, fun w' hS => by go_simp⟩) hS ?_
      simp only [Act.put, List.setIfInBounds_toArray, List.set_cons_zero, List.set_cons_succ]
      refine wpAnyH_take' 5 (some 50) (.int .i64 (fe : Int)) rfl rfl (by kernel_rfl) (by kernel_rfl) (by kernel_rfl) (fun _ _ _ h => h) (Or.inl ⟨by rfl, fun w' hS => by go_simp⟩) hS ?_
      simp only [Act.put, List.setIfInBounds_toArray, List.set_cons_zero, List.set_cons_succ]
      refine wpAnyH_take' 6 (some 2) (.slice ua tn uc) rfl rfl (by kernel_rfl) (by kernel_rfl) (by kernel_rfl) (fun _ _ _ h => h) (Or.inl ⟨by rfl, fun w' hS => by go_simp⟩) hS ?_
      simp only [Act.put, List.setIfInBounds_toArray, List.set_cons_zero, List.set_cons_succ]
      refine wpAnyH_take' 7 (some 3) (.int .i64 (p : Int)) rfl rfl (by kernel_rfl) (by kernel_rfl) (by kernel_rfl) (fun _ _ _ h => h) (Or.inl ⟨by rfl, fun w' hS => by go_simp⟩) hS ?_
      simp only [Act.put, List.setIfInBounds_toArray, List.set_cons_zero, List.set_cons_succ]
      refine wpAnyH_take' 8 (some 4) (.int .i64 (fe : Int)) rfl rfl (by kernel_rfl) (by kernel_rfl) (by kernel_rfl) (fun _ _ _ h => h) (Or.inl ⟨by rfl, fun w' hS => by go_simp⟩) hS ?_
      simp only [Act.put, List.setIfInBounds_toArray, List.set_cons_zero, List.set_cons_succ]
      refine wpAnyH_done (by kernel_rfl) ?_ _
      clear hS
      go_wp2
      have hq := HFIN.out wr.drew (Below.refl _ _).drew
      refine bodyPost_ret (v := .tuple #[.slice ua tn uc, .int .i64 (p : Int), .int .i64 (fe : Int)]) (by simp [results, Try.results85]) rfl hq
end Go.Proofs.Ytnganmekiloigaa
/-! ### The document's Open. -/
namespace Go.Proofs.Ytnganmekiloigaa
open Go.RowKit
set_option maxRecDepth 100000
variable {w w' : World} {r : Nat} {lv xv : Value} {D : Dk}
/-- A block of 64 bytes of one's own. -/
theorem row_bytes {v : Value} {B : Nat} {l : Bs} (h : w.ownsRow B 5 1 v 64 (cellsB l)) (hl : l.length = 64) : ∃ (g c : Nat) (cs : Array Value) (fr : Nat × Nat), v = .slice (some ⟨g, 0, none⟩) 64 c ∧ 64 ≤ c ∧ w.heap[g]? = some (.cells cs 5 fr) ∧ ∀ (j : Nat) (u : Value), (cellsB l)[j]? = some u → cs.toList[j]? = some u := by
  obtain ⟨_, h | h⟩ := h
  · obtain ⟨_, h⟩ := h; omega
  · obtain ⟨g, cap, cur, rfl, _, h1, h2, _, h4, h5⟩ := h
    refine ⟨g, cap, cur, _, rfl, h2, h1, fun j u hu => ?_⟩
    have hj := (List.getElem?_eq_some_iff.1 hu).1
    rw [cellsB_length] at hj
    have e : cur.toList[j]? = (cur.toList.take (64 * 1))[j]? := by rw [List.getElem?_take_of_lt (by omega)]
    rw [e, h5]
    exact hu
theorem cell_of_heap {g j : Nat} {cs : Array Value} {t : TypeId} {fr : Nat × Nat} (h : w.heap[g]? = some (.cells cs t fr)) : w.cell? ⟨g, j, none⟩ = cs.toList[j]? := by
  unfold World.cell?
  rw [h]
  simp
/-- A piece of the document's, and where its bytes lie. -/
structure QV (w : World) (x : QP) : Prop where
  blk : ∀ g o, x.2.1 = some ⟨g, o, none⟩ → ∃ (cs : Array Value) (fr : Nat × Nat), w.heap[g]? = some (.cells cs 5 fr)
  lv : x.1.z ≤ 57 → LV EB w (slV x.2) (x.1.b.take x.1.z)
theorem QV.keep {x : QP} (h : QV w x) (hk : ∀ (g : Nat) (cs : Array Value) (fr : Nat × Nat), w.heap[g]? = some (.cells cs 5 fr) → w'.heap[g]? = w.heap[g]?) : QV w' x := by
  refine ⟨fun g o e => ?_, fun hz => ?_⟩
  · obtain ⟨cs, fr, h1⟩ := h.blk g o e
    exact ⟨cs, fr, (hk g cs fr h1).trans h1⟩
  · exact lv_keepAt (h.lv hz) fun g o e => by
      obtain ⟨cs, fr, h1⟩ := h.blk g o e
      exact hk g cs fr h1
theorem QV.below {x : QP} (h : QV w x) (k : Below w.heap.size w w') : QV w' x := h.keep fun g _ _ hg => k.block g (Array.getElem?_eq_some_iff.1 hg).1
theorem sec84 {g c : Nat} {cs : Array Value} {fr : Nat × Nat} {s : Bs} (hs : s.length = 64) (hc : 64 ≤ c) (hg : w.heap[g]? = some (.cells cs 5 fr)) (hcs : ∀ (j : Nat) (u : Value), (cellsB s)[j]? = some u → cs.toList[j]? = some u) :
    Calls Try.prog 84 #[.slice (some ⟨g, 0, none⟩) 64 c] w fun e w' => ∃ y : Sl, e = .returned (.agg (EQ.enc (pcOf s, y)).toArray) ∧ QV w' (pcOf s, y) ∧ Below w.heap.size w w' := by
  have hcell : ∀ j, j < 64 → w.cell? ⟨g, j, none⟩ = some (.int .u8 ((u8 s j : Nat) : Int)) := fun j hj => by
    rw [cell_of_heap hg]
    exact hcs j _ (cellsB_get s j (by omega))
  have hb := fun j => u8_lt s j
  have e1 : 256 * ((u8 s 0 : Nat) : Int) + ((u8 s 1 : Nat) : Int) = (((pcOf s).e : Nat) : Int) := by simp [pcOf]
  have e2 : 256 * ((u8 s 2 : Nat) : Int) + ((u8 s 3 : Nat) : Int) = (((pcOf s).p : Nat) : Int) := by simp [pcOf]
  have hall := (⟨hcell 0 (by omega), hcell 1 (by omega), hcell 2 (by omega), hcell 3 (by omega), hcell 4 (by omega), hcell 5 (by omega), hcell 6 (by omega)⟩ : _ ∧ _ ∧ _ ∧ _ ∧ _ ∧ _ ∧ _)
  by_cases hz : u8 s 6 ≤ 57
  · refine (sector84y hc ⟨hb 0, hb 1, hb 2, hb 3, hb 4, hb 5, hb 6⟩ hz hall).mono ?_
    rintro e w1 ⟨rfl, B1⟩
    have hg1 : w1.heap[g]? = some (.cells cs 5 fr) := (B1.block g (Array.getElem?_eq_some_iff.1 hg).1).trans hg
    refine ⟨(some ⟨g, 7, none⟩, u8 s 6, c - 7), ?_, ⟨fun g' o e => ?_, fun _ => ?_⟩, B1⟩
    · rw [e1, e2]; rfl
    · cases e; exact ⟨cs, fr, hg1⟩
    · have hl : ((s.drop 7).take (u8 s 6)).length = u8 s 6 := by rw [List.length_take, List.length_drop]; omega
      show LV EB w1 (.slice (some ⟨g, 7, none⟩) (u8 s 6) (c - 7)) ((s.drop 7).take (u8 s 6))
      refine ⟨_, c - 7, by rw [hl], by rw [hl]; omega, fun _ => ⟨g, 7, cs.toList, 5, rfl, ⟨fr, by simpa using hg1⟩, fun j u hu => ?_⟩⟩
      rw [EB_cells] at hu
      have hj := (List.getElem?_eq_some_iff.1 hu).1
      rw [cellsB_length, hl] at hj
      rw [cellsB_get _ _ (by rw [hl]; exact hj)] at hu
      refine hcs (7 + j) u ?_
      rw [cellsB_get s _ (by omega), ← hu]
      simp [List.getD_eq_getElem?_getD, hj]
  · refine (sector84n ⟨hb 0, hb 1, hb 2, hb 3, hb 4, hb 5, hb 6⟩ (by omega) hall).mono ?_
    rintro e w1 ⟨rfl, B1⟩
    refine ⟨(none, 0, 0), ?_, ⟨fun g' o e => (by cases e), fun h => absurd h hz⟩, B1⟩
    rw [e1, e2]; rfl
/-- The document's log: its six cells. -/
def rwC (r : Nat) (W : Wl) : List Value := [.pointer (some ⟨r, 0, none⟩), .int .i64 (W.half : Int), .int .i64 (W.en : Int), .int .i64 (W.cnt : Int), .int .i64 (W.e : Int), .bool W.br]
theorem built126g (r : Nat) (e : Int) : Try.prog.built 126 [(0, .pointer (some ⟨r, 0, none⟩)), (4, .int .i64 e)] = some #[.pointer (some ⟨r, 0, none⟩), .int .i64 0, .int .i64 0, .int .i64 0, .int .i64 e, .bool false] := by kernel_rfl
/-- What is told of a half, as the document has it. -/
def halfR (S : List Bs) (k : Nat) : List Rc := chainR (halfP S k) (S.length / 2 + 1) 0 0
def forceR (S : List Bs) : Nat := if firstE (halfP S 0) (halfR S 0) < firstE (halfP S 1) (halfR S 1) then 1 else 0
theorem great_take {l : List Pc} {m : Nat} {x : Pc} (hx : l[m]? = some x) : great (l.take (m + 1)) = max (great (l.take m)) x.e := by
  unfold great
  rw [List.take_add_one, hx]
  simp
theorem VR.lower {B B' : Nat} {v : Value} {rs : List Rc} (h : VR B w v rs) (hB : B' ≤ B) : VR B' w v rs := by
  obtain ⟨vs, h1, h2, h3⟩ := h
  exact ⟨vs, h1.lower hB, h2, fun i y r hy hr => (h3 i y r hy hr).lower hB⟩
theorem VR.keepFrom {B X : Nat} {v : Value} {rs : List Rc} (h : VR B w v rs) (hX : X < B) (hk : Keep (fun k => k = X) w w') : VR B w' v rs := by
  obtain ⟨vs, h1, h2, h3⟩ := h
  refine ⟨vs, h1.keep fun k hk' => hk.block k (h1.at hk').2 (fun e => ?_), h2, fun i y r hy hr => (h3 i y r hy hr).keep fun k hk' => hk.block k ((h3 i y r hy hr).at hk').2 (fun e => ?_)⟩
  · have := (h1.at hk').1; omega
  · have := ((h3 i y r hy hr).at hk').1; omega
/-- What Open answers, on the document's side. -/
def RoPost (r : Nat) (S : List Bs) (w0 : World) (e : Ending) (w' : World) : Prop := ∃ x v, e = .returned (.tuple #[.pointer (some ⟨x, 0, none⟩), v, .int .i64 0]) ∧ Blk w' x (rwC r ⟨forceR S, great (pcs S) + 1, (halfR S (forceR S)).length, ((halfR S (forceR S)).map Rc.n).sum, false⟩) 126 ∧ VR w0.heap.size w' v (halfR S (forceR S)) ∧ Below w0.heap.size w0 w' ∧ w0.heap.size ≤ x
theorem ne_own {B : Nat} {u : Value} {L : List QP} {g : Nat} {cs : Array Value} {fr : Nat × Nat} (h : RW EQ B w u L) (hg : w.heap[g]? = some (.cells cs 5 fr)) : u.ownBlock ≠ some g := fun e => by
  obtain ⟨_, ⟨rfl, _⟩ | ⟨g', cap, cur, rfl, h3, h4, h5⟩⟩ := h
  · cases e
  · cases e
    rw [h4] at hg
    simp only [Option.some.injEq, Obj.cells.injEq] at hg
    exact absurd hg.2.1 (by decide)
set_option maxHeartbeats 4000000 in
theorem open44 {R : Nat} (h : RD w r lv xv D) (hoff : D.off = false) (hwl : D.wait.length ≤ 1000) (hS : D.secs.length = 2 * R) (h2 : 2 ≤ R) (h3 : R ≤ 64) (hgr : great (pcs (rdS D)) < 65535) : Calls Try.prog 44 #[.pointer (some ⟨r, 0, none⟩)] w (RoPost r (rdS D) w) := by
  have H50 : Hid (∀ W, Below w.heap.size w W → Calls Try.prog 50 #[.pointer (some ⟨r, 0, none⟩)] W fun e w' => e = .returned (.int .i64 ((2 * R : Nat) : Int)) ∧ w' = W) := fun W k => by have := rsize50 (h.below k); rw [hS] at this; exact this
  obtain ⟨S, hSd⟩ : ∃ S, rdS D = S := ⟨_, rfl⟩
  have hSl : S.length = 2 * R := by rw [← hSd, rdS_length, hS]
  have h64 : ∀ (m : Nat) (s : Bs), S[m]? = some s → s.length = 64 := fun m s hm => by
    rw [← hSd] at hm
    have hml := (List.getElem?_eq_some_iff.1 hm).1
    rw [rdS_length] at hml
    rw [rdS_get hml] at hm
    cases hm
    exact latest_length h.ok m hml
  have H32 : Hid (∀ (W : World) (m : Nat) (s : Bs), S[m]? = some s → Below w.heap.size w W → Calls Try.prog 32 #[.pointer (some ⟨r, 0, none⟩), .int .i64 (m : Int)] W fun e w' => ∃ (g c : Nat) (cs : Array Value) (fr : Nat × Nat), e = .returned (.tuple #[.slice (some ⟨g, 0, none⟩) 64 c, .int .i64 0]) ∧ 64 ≤ c ∧ w'.heap[g]? = some (.cells cs 5 fr) ∧ (∀ (j : Nat) (u : Value), (cellsB s)[j]? = some u → cs.toList[j]? = some u) ∧ Below W.heap.size W w') := fun W m s hm k => by
    have hml := (List.getElem?_eq_some_iff.1 hm).1
    have hm2 := hm
    rw [← hSd] at hm2
    have hml2 : m < D.secs.length := by rw [hS]; omega
    rw [rdS_get hml2] at hm2
    refine (rread32_yes (h.below k) m hml2 hwl hoff).mono ?_
    rintro e w' ⟨v, rfl, h1, hB⟩
    rw [Option.some.inj hm2] at h1
    obtain ⟨g, c, cs, fr, rfl, q1, q2, q3⟩ := row_bytes h1 (h64 m s hm)
    exact ⟨g, c, cs, fr, rfl, q1, q2, q3, hB⟩
  rw [hSd] at hgr ⊢
  have H64 : Hid (∀ (m : Nat) (s : Bs), S[m]? = some s → s.length = 64) := h64
  clear h h64
  have hn2 : ((2 * R : Nat) : Int).tmod 2 = 0 := by rw [Int.tmod_eq_emod_of_nonneg (by omega)]; omega
  have hn4 : ¬ ((2 * R : Nat) : Int) < 4 := by omega
  have k50 := H50.out w (Below.refl _ _)
  generalize hN : 2 * R = N at *
  have HR : Hid (2 ≤ R ∧ R ≤ 64 ∧ 2 * R = N ∧ S.length = N ∧ great (pcs S) < 65535) := ⟨h2, h3, hN, hSl, hgr⟩
  have hN128 : N ≤ 128 := by omega
  clear hN h2 h3 hS hSl hgr hSd hoff hwl
  go_enter Try.func44, Try.ntmps44
  go_wp2_with (go_at_call 50; (refine k50.mono ?_; rintro e w0 ⟨rfl, rfl⟩))
  go_loopw [5, 6, 7] (fun u q p wr => ∃ (m mx : Nat) (L : List QP), m ≤ N ∧ q = .int .i64 (mx : Int) ∧ p = .int .i64 (m : Int) ∧ Hid (L.length = m ∧ L.map Prod.fst = (pcs S).take m ∧ mx = great ((pcs S).take m)) ∧ Hid (RW EQ w0.heap.size wr u L) ∧ Hid (∀ x ∈ L, QV wr x) ∧ Hid (Below w0.heap.size w0 wr)) (fun _ _ p _ => N - (intOf p).toNat)
  case atStart => exact ⟨0, 0, [], by omega, rfl, rfl, ⟨rfl, rfl, rfl⟩, RW.nil _ _ _, fun x hx => by simp at hx, Below.refl _ _⟩
  case round =>
    obtain ⟨m, mx, L, hm, rfl, rfl, hlm, hU, hQ, hB⟩ := hrel
    have k50 := H50.out _ hB.out
    by_cases hlt : m < N
    · have hlt1 : (m : Int) < (N : Int) := by omega
      obtain ⟨s, hs⟩ : ∃ s, S[m]? = some s := ⟨_, List.getElem?_eq_getElem (by rw [HR.out.2.2.2.1]; exact hlt)⟩
      have k32 := H32.out _ m s hs hB.out
      have hs64 := H64.out m s hs
      have hpx : (pcs S)[m]? = some (pcOf s) := by unfold pcs; rw [List.getElem?_map, hs]; rfl
      obtain ⟨ua, uc, hu, _⟩ := hU.out.form
      rw [hlm.out.1] at hu
      subst hu
      have hm1 : (0 : Int) ≤ (m : Int) := by omega
      have hm2 : (m : Int) < ((m + 1 : Nat) : Int) := by omega
      have hm3 : m < m + 1 := by omega
      have HA : Hid (∀ W y, Below wr.heap.size wr W → QV W (pcOf s, y) → ∃ u' w', (Builtin.append_ #[121, 121] 121 #[.slice ua m uc, .slice (some ⟨W.heap.size, 0, none⟩) 1 1]).run Try.prog (W.alloc (.cells (EQ.enc (pcOf s, y)).toArray 123)) = .ok u' w' ∧ ∃ g cap, u' = .slice (some ⟨g, 0, none⟩) (m + 1) cap ∧ RW EQ w0.heap.size w' u' (L ++ [(pcOf s, y)]) ∧ w'.cell? ⟨g, m * 6, none⟩ = some (.int .i64 ((pcOf s).e : Int)) ∧ Below w0.heap.size w0 w' ∧ ∀ x ∈ L ++ [(pcOf s, y)], QV w' x) := fun W y k hqy => by
        have hsz := hB.out.size
        have hsk := k.size
        have hU1 := (hU.out.below k).below (al W (.cells (EQ.enc (pcOf s, y)).toArray 123))
        obtain ⟨g', cap, w', h1, h2, h3, h4, h5⟩ := rw_app2 hU1 (lv_blk EQ (L := [(pcOf s, y)]) (by rw [show EQ.cells [(pcOf s, y)] = EQ.enc (pcOf s, y) by simp [Ety.cells]]; exact blk_new W (EQ.enc (pcOf s, y)) 123) 1 (by simp)) (by simp) (by have := hlm.out.1; simp; omega) (by simp; omega)
        have hlx : L.length + [(pcOf s, y)].length = m + 1 := by simp [hlm.out.1]
        rw [hlx] at h1 h2
        obtain ⟨g2, o2, e1, e2⟩ := h2.read.at (i := m) (x := (pcOf s, y)) (by simp [← hlm.out.1])
        simp only [Option.some.injEq, Addr.mk.injEq] at e1
        obtain ⟨rfl, rfl, -⟩ := e1
        have e3 := e2 0 (by decide)
        have hkeep : ∀ (g : Nat) (cs : Array Value) (fr : Nat × Nat), (W.alloc (.cells (EQ.enc (pcOf s, y)).toArray 123)).heap[g]? = some (.cells cs 5 fr) → w'.heap[g]? = (W.alloc (.cells (EQ.enc (pcOf s, y)).toArray 123)).heap[g]? := fun g cs fr hg => h3.block g (Array.getElem?_eq_some_iff.1 hg).1 (Ne.symm (ne_own hU1 hg))
        refine ⟨_, w', h1, g', cap, rfl, h2, ?_, ((hB.out.trans (k.mono hsz)).trans ((al W _).mono (by omega))).trans ⟨h3.os, h3.tape, h3.output, h3.size, fun q hq => h3.block q (by simp; omega) fun e => ?_⟩, fun x hx => ?_⟩
        · rw [show 0 + m * EQ.m + 0 = m * 6 by show 0 + m * 6 + 0 = m * 6; omega] at e3
          exact e3
        · have := (hU1.at e.symm).1
          omega
        · rcases List.mem_append.1 hx with hx | hx
          · exact (((hQ.out x hx).below k).below (al W _)).keep hkeep
          · simp at hx
            subst hx
            exact (hqy.below (al W _)).keep hkeep
      have hmx : max (mx : Int) (((pcOf s).e : Nat) : Int) = ((max mx (pcOf s).e : Nat) : Int) := by omega
      obtain ⟨pe, hpe⟩ : ∃ pe, (pcOf s).e = pe := ⟨_, rfl⟩
      have HPE : Hid ((pcOf s).e = pe) := hpe
      have HPX : Hid ((pcs S)[m]? = some (pcOf s)) := hpx
      rw [hpe] at hmx
      obtain ⟨MX, hMX⟩ : ∃ MX, max mx pe = MX := ⟨_, rfl⟩
      have HMX : Hid (max mx pe = MX) := hMX
      rw [hMX] at hmx
      clear hpe hpx hs hMX
      go_wp2_with (first
        | (go_at_call 50; (refine k50.mono ?_; rintro e wz ⟨rfl, hz9⟩; replace hz9 := hz9.symm; subst hz9))
        | (go_at_call 32; (refine k32.mono ?_; rintro e w1 ⟨g, c, cs, fr, rfl, hc, hg, hz, B1⟩; have k84 := sec84 hs64 hc hg hz; have HB1 : Hid (Below wr.heap.size wr w1) := B1; clear B1 hg hz))
        | (go_at_call 84; (refine k84.mono ?_; rintro e w2 ⟨y, rfl, hqy, B2⟩; have kA := HA.out _ y (bmore HB1.out B2) hqy; clear hqy))
        | (refine wpList_buildSlice1 rfl 121 123 (.tmp 45) rfl (EQ.enc (pcOf s, y)) rfl (.agg #[.int .i64 0, .int .i64 0, .int .i64 0, .int .i64 0, .int .i64 0, .slice none 0 0]) und121 (by exact info123y) rfl (by show 6 ≤ 1000; omega) (by show 0 < 6; omega) ?_; rintro _ rfl)
        | (at_builtin; (refine wpList_append_ex rfl (.tmp 43) (.tmp 46) 121 rfl _ _ rfl rfl kA ?_; rintro u5 w5 ⟨g5, c5, rfl, hU5, hc5, hB5, hQ5⟩; rw [HPE.out] at hc5)))
      go_roundw
      case rel => exact ⟨m + 1, MX, L ++ [(pcOf s, y)], by omega, (by rw [← HMX.out]; congr 1; split <;> omega), by simp, ⟨by simp [hlm.out.1], by rw [List.map_append, hlm.out.2.1, List.take_add_one, HPX.out]; rfl, by rw [great_take HPX.out, ← hlm.out.2.2, HPE.out]; exact HMX.out.symm⟩, (by show RW _ _ _ _ _; exact hU5), hQ5, hB5⟩
      case measure => simp only [intOf]; omega
    · have hlt1 : ¬ (m : Int) < (N : Int) := by omega
      obtain rfl : m = N := by omega
      obtain ⟨ua, cap, hu, hcap⟩ := hU.out.form
      rw [hlm.out.1] at hu hcap
      subst hu
      have hpl : (pcs S).take m = pcs S := List.take_of_length_le (by simp [pcs, HR.out.2.2.2.1])
      have hmx : mx = great (pcs S) := by rw [hlm.out.2.2, hpl]
      have hRN := HR.out
      have h0 : halfP S 0 = (pcs S).take R := by simp [halfP, HR.out.2.2.2.1, ← HR.out.2.2.1]
      have h1 : halfP S 1 = (pcs S).drop R := by
        unfold halfP
        rw [HR.out.2.2.2.1, ← HR.out.2.2.1, show 2 * R / 2 = R by omega, Nat.one_mul, List.take_of_length_le (by simp [pcs]; omega)]
      have hfst : L.map Prod.fst = pcs S := by rw [hlm.out.2.1, hpl]
      have hLl : L.length = m := hlm.out.1
      obtain ⟨g, o, rfl, hdr⟩ := hU.out.read.drop (k := R) (by omega) (cap - R) (by omega)
      have hog : o = 0 := by
        obtain ⟨_, ⟨_, hh⟩ | ⟨g', cap', cur, hh, _⟩⟩ := hU.out
        · omega
        · simp only [Value.slice.injEq, Option.some.injEq, Addr.mk.injEq] at hh; exact hh.1.2.1
      subst hog
      have hP0 : PL wr (.slice (some ⟨g, 0, none⟩) R cap) (halfP S 0) := by
        have ht := hU.out.read.take (k := R) (by omega) cap (by omega)
        refine ⟨L.take R, ht, by rw [List.map_take, hfst, h0], fun x hx => (hQ.out x (List.mem_of_mem_take hx)).lv⟩
      have hP1 : PL wr (.slice (some ⟨g, R * 6, none⟩) R (cap - R)) (halfP S 1) := by
        refine ⟨L.drop R, ?_, by rw [List.map_drop, hfst, h1], fun x hx => (hQ.out x (List.mem_of_mem_drop hx)).lv⟩
        have : m - R = R := by omega
        rw [hLl, this, Nat.zero_add] at hdr
        exact hdr
      have hl0 : (halfP S 0).length = R := by rw [halfP_length (by omega), HR.out.2.2.2.1]; omega
      have hl1 : (halfP S 1).length = R := by rw [halfP_length (by omega), HR.out.2.2.2.1]; omega
      have hSR : S.length / 2 = R := by rw [HR.out.2.2.2.1]; omega
      have K85 : Hid (∀ W, Below wr.heap.size wr W → Calls Try.prog 85 #[.slice (some ⟨g, 0, none⟩) R cap] W fun e w' => ∃ a c, e = .returned (.tuple #[.slice a (halfR S 0).length c, .int .i64 ((((halfR S 0).map Rc.n).sum : Nat) : Int), .int .i64 (firstE (halfP S 0) (halfR S 0) : Int)]) ∧ VR W.heap.size w' (.slice a (halfR S 0).length c) (halfR S 0) ∧ Below W.heap.size W w') := fun W k => (chain85 (hP0.below k) (by omega) (by omega)).mono (by
        rintro e w' ⟨v, he, hv, hb⟩
        rw [hl0] at he hv
        unfold halfR
        rw [hSR]
        obtain ⟨a, c, rfl⟩ := hv.form
        exact ⟨a, c, he, hv, hb⟩)
      have K85b : Hid (∀ W, Below wr.heap.size wr W → Calls Try.prog 85 #[.slice (some ⟨g, R * 6, none⟩) R (cap - R)] W fun e w' => ∃ a c, e = .returned (.tuple #[.slice a (halfR S 1).length c, .int .i64 ((((halfR S 1).map Rc.n).sum : Nat) : Int), .int .i64 (firstE (halfP S 1) (halfR S 1) : Int)]) ∧ VR W.heap.size w' (.slice a (halfR S 1).length c) (halfR S 1) ∧ Below W.heap.size W w') := fun W k => (chain85 (hP1.below k) (by omega) (by omega)).mono (by
        rintro e w' ⟨v, he, hv, hb⟩
        rw [hl1] at he hv
        unfold halfR
        rw [hSR]
        obtain ⟨a, c, rfl⟩ := hv.form
        exact ⟨a, c, he, hv, hb⟩)
      have hq : (m : Int).tdiv 2 = (R : Int) := half_int HR.out.2.2.1.symm
      have hR0 : (0 : Int) ≤ (R : Int) := by omega
      have hRb : (R : Int) ≤ 64 := by omega
      have hRm : (R : Int) ≤ (m : Int) := by omega
      have hRc : (R : Int) ≤ (cap : Int) := by omega
      have hRc2 : R ≤ cap := by omega
      have hRm2 : R ≤ m := by omega
      have hmc : (m : Int) ≤ (cap : Int) := by omega
      have hmR : m - R = R := by omega
      have hcR : ¬ cap = R := by omega
      have hcR2 : ¬ cap - R = 0 := by omega
      have hmx5 : ¬ (mx : Int) = 65535 := by omega
      have hmx6 : ((mx : Int) == 65535) = false := by rw [beq_eq_false_iff_ne]; exact hmx5
      have hmxb : (mx : Int) ≤ 65535 := by omega
      have HMX : Hid (mx = great (pcs S)) := hmx
      have hbt := built126g r ((mx : Int) + 1)
      obtain ⟨T0, hT0⟩ : ∃ T0, halfR S 0 = T0 := ⟨_, rfl⟩
      obtain ⟨T1, hT1⟩ : ∃ T1, halfR S 1 = T1 := ⟨_, rfl⟩
      have HT : Hid (halfR S 0 = T0 ∧ halfR S 1 = T1) := ⟨hT0, hT1⟩
      rw [hT0] at K85
      rw [hT1] at K85b
      obtain ⟨f0, hf0⟩ : ∃ f0, firstE (halfP S 0) T0 = f0 := ⟨_, rfl⟩
      obtain ⟨f1, hf1⟩ : ∃ f1, firstE (halfP S 1) T1 = f1 := ⟨_, rfl⟩
      rw [hf0] at K85
      rw [hf1] at K85b
      have HFR : Hid (forceR S = if f0 < f1 then 1 else 0) := by
        show _ = _
        unfold forceR
        rw [hT0, hT1, hf0, hf1]
      obtain ⟨s0, hs0⟩ : ∃ s0, (T0.map Rc.n).sum = s0 := ⟨_, rfl⟩
      obtain ⟨s1, hs1⟩ : ∃ s1, (T1.map Rc.n).sum = s1 := ⟨_, rfl⟩
      have HSS : Hid ((T0.map Rc.n).sum = s0 ∧ (T1.map Rc.n).sum = s1) := ⟨hs0, hs1⟩
      rw [hs0] at K85
      rw [hs1] at K85b
      obtain ⟨n0, hn0⟩ : ∃ n0, T0.length = n0 := ⟨_, rfl⟩
      obtain ⟨n1, hn1⟩ : ∃ n1, T1.length = n1 := ⟨_, rfl⟩
      have HNN : Hid (T0.length = n0 ∧ T1.length = n1) := ⟨hn0, hn1⟩
      rw [hn0] at K85
      rw [hn1] at K85b
      have HBr : Hid (Below w0.heap.size w0 wr) := hB.out
      clear hU hQ hB hlm hP0 hP1 hl0 hl1 hSR hfst hLl hdr h0 h1 hpl hmx hRN hT0 hT1 hf0 hf1 hs0 hs1 hn0 hn1 hcap
      by_cases hff : f0 < f1
      · have hffi : (f0 : Int) < (f1 : Int) := by omega
        go_wp2_with (first
          | (go_at_call 50; (refine k50.mono ?_; rintro e wz ⟨rfl, hz9⟩; replace hz9 := hz9.symm; subst hz9))
          | (go_at_call 85; (refine (K85b.out _ HBQ.out).mono ?_); rintro e wq2 ⟨a1, c1, rfl, hv1, B2⟩; have hb2 := hbq.below B2; have HB2 : Hid (Below wr.heap.size wr wq2) := bmore HBQ.out B2; have HV2 : Hid (VR wq.heap.size wq2 (.slice a1 n1 c1) T1) := hv1; have HV0 : Hid (VR (wr.heap.size + 1) wq2 (.slice a2 n0 c2) T0) := HV1.out.below B2; clear hv1 B2; have y2 := hb2.cell 2; have f2 := hb2.frozen 2; have y3 := hb2.cell 3; have f3 := hb2.frozen 3; have y1 := hb2.cell 1; have f1' := hb2.frozen 1)
          | (go_at_call 85; (refine (K85.out _ (al _ _)).mono ?_); rintro e wq ⟨a2, c2, rfl, hv1, B1⟩; have hbq : Blk wq wr.heap.size [.pointer (some ⟨r, 0, none⟩), .int .i64 0, .int .i64 0, .int .i64 0, .int .i64 ((mx : Int) + 1), .bool false] 126 := (blk_new _ _ _).below B1; have HBQ : Hid (Below wr.heap.size wr wq) := bmore (al _ _) B1; have HQX : Hid (wr.heap.size + 1 ≤ wq.heap.size) := (by show _ ≤ _; have hb1 := B1.size; rw [World.size_alloc] at hb1; exact hb1); have HV1 : Hid (VR (wr.heap.size + 1) wq (.slice a2 n0 c2) T0) := (by obtain ⟨vs, q1, q2, q3⟩ := hv1; exact ⟨vs, q1.lower (by simp), q2, fun i y rr hy hr => (q3 i y rr hy hr).lower (by simp)⟩); clear hv1 B1))
        have HE1 : ∀ W', W' = ((((wq2.setCell ⟨wr.heap.size, 2, none⟩ (.int .i64 (s0 : Int))).setCell ⟨wr.heap.size, 2, none⟩ (.int .i64 (s1 : Int))).setCell ⟨wr.heap.size, 1, none⟩ (.int .i64 1)).setCell ⟨wr.heap.size, 3, none⟩ (.int .i64 (n1 : Int))) → RoPost r S w0 (.returned (.tuple #[.pointer (some ⟨wr.heap.size, 0, none⟩), .slice a1 n1 c1, .int .i64 0])) W' := by
          rintro W' rfl
          have kk : Keep (fun b => b = wr.heap.size) wq2 ((((wq2.setCell ⟨wr.heap.size, 2, none⟩ (.int .i64 (s0 : Int))).setCell ⟨wr.heap.size, 2, none⟩ (.int .i64 (s1 : Int))).setCell ⟨wr.heap.size, 1, none⟩ (.int .i64 1)).setCell ⟨wr.heap.size, 3, none⟩ (.int .i64 (n1 : Int))) := (((((Keep.refl (fun b => b = wr.heap.size) wq2).set (.inr rfl) _).set (.inr rfl) _).set (.inr rfl) _).set (.inr rfl) _)
          refine ⟨wr.heap.size, .slice a1 n1 c1, rfl, ?_, ?_, ?_, HBr.out.size⟩
          · rw [HFR.out, if_pos hff, HT.out.2, HNN.out.2, HSS.out.2, ← HMX.out]
            have hb9 := ((((hb2.set (o := 2) (.int .i64 (s0 : Int))).set (o := 2) (.int .i64 (s1 : Int))).set (o := 1) (.int .i64 1)).set (o := 3) (.int .i64 (n1 : Int)))
            simpa [rwC] using hb9
          · rw [HFR.out, if_pos hff, HT.out.2]
            exact (HV2.out.keepFrom (X := wr.heap.size) (by have := HBQ.out.size; have := HQX.out; omega) kk).lower (by have := HBQ.out.size; have := HBr.out.size; omega)
          · exact (HBr.out.trans (HB2.out.mono HBr.out.size)).trans (kk.below (Nat.le_trans HBr.out.size HB2.out.size) (fun i e => by subst e; exact HBr.out.size))
        refine bodyPost_ret (v := .tuple #[.pointer (some ⟨wr.heap.size, 0, none⟩), .slice a1 n1 c1, .int .i64 0]) (by simp [results, Try.results44]) rfl (HE1 _ rfl)
      · have hffi : ¬ (f0 : Int) < (f1 : Int) := by omega
        go_wp2_with (first
          | (go_at_call 50; (refine k50.mono ?_; rintro e wz ⟨rfl, hz9⟩; replace hz9 := hz9.symm; subst hz9))
          | (go_at_call 85; (refine (K85b.out _ HBQ.out).mono ?_); rintro e wq2 ⟨a1, c1, rfl, hv1, B2⟩; have hb2 := hbq.below B2; have HB2 : Hid (Below wr.heap.size wr wq2) := bmore HBQ.out B2; have HV2 : Hid (VR wq.heap.size wq2 (.slice a1 n1 c1) T1) := hv1; have HV0 : Hid (VR (wr.heap.size + 1) wq2 (.slice a2 n0 c2) T0) := HV1.out.below B2; clear hv1 B2; have y2 := hb2.cell 2; have f2 := hb2.frozen 2; have y3 := hb2.cell 3; have f3 := hb2.frozen 3; have y1 := hb2.cell 1; have f1' := hb2.frozen 1)
          | (go_at_call 85; (refine (K85.out _ (al _ _)).mono ?_); rintro e wq ⟨a2, c2, rfl, hv1, B1⟩; have hbq : Blk wq wr.heap.size [.pointer (some ⟨r, 0, none⟩), .int .i64 0, .int .i64 0, .int .i64 0, .int .i64 ((mx : Int) + 1), .bool false] 126 := (blk_new _ _ _).below B1; have HBQ : Hid (Below wr.heap.size wr wq) := bmore (al _ _) B1; have HQX : Hid (wr.heap.size + 1 ≤ wq.heap.size) := (by show _ ≤ _; have hb1 := B1.size; rw [World.size_alloc] at hb1; exact hb1); have HV1 : Hid (VR (wr.heap.size + 1) wq (.slice a2 n0 c2) T0) := (by obtain ⟨vs, q1, q2, q3⟩ := hv1; exact ⟨vs, q1.lower (by simp), q2, fun i y rr hy hr => (q3 i y rr hy hr).lower (by simp)⟩); clear hv1 B1))
        have HE1 : ∀ W', W' = ((wq2.setCell ⟨wr.heap.size, 2, none⟩ (.int .i64 (s0 : Int))).setCell ⟨wr.heap.size, 3, none⟩ (.int .i64 (n0 : Int))) → RoPost r S w0 (.returned (.tuple #[.pointer (some ⟨wr.heap.size, 0, none⟩), .slice a2 n0 c2, .int .i64 0])) W' := by
          rintro W' rfl
          have kk : Keep (fun b => b = wr.heap.size) wq2 ((wq2.setCell ⟨wr.heap.size, 2, none⟩ (.int .i64 (s0 : Int))).setCell ⟨wr.heap.size, 3, none⟩ (.int .i64 (n0 : Int))) := (((Keep.refl (fun b => b = wr.heap.size) wq2).set (.inr rfl) _).set (.inr rfl) _)
          refine ⟨wr.heap.size, .slice a2 n0 c2, rfl, ?_, ?_, ?_, HBr.out.size⟩
          · rw [HFR.out, if_neg hff, HT.out.1, HNN.out.1, HSS.out.1, ← HMX.out]
            have hb9 := ((hb2.set (o := 2) (.int .i64 (s0 : Int))).set (o := 3) (.int .i64 (n0 : Int)))
            simpa [rwC] using hb9
          · rw [HFR.out, if_neg hff, HT.out.1]
            exact (HV0.out.keepFrom (X := wr.heap.size) (by omega) kk).lower (by have := HBr.out.size; omega)
          · exact (HBr.out.trans (HB2.out.mono HBr.out.size)).trans (kk.below (Nat.le_trans HBr.out.size HB2.out.size) (fun i e => by subst e; exact HBr.out.size))
        refine bodyPost_ret (v := .tuple #[.pointer (some ⟨wr.heap.size, 0, none⟩), .slice a2 n0 c2, .int .i64 0]) (by simp [results, Try.results44]) rfl (HE1 _ rfl)
end Go.Proofs.Ytnganmekiloigaa
