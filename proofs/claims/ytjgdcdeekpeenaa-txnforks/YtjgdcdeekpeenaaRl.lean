/- Both managers: what they share. -/
import Derived.Test.YtjgdcdeekpeenaaRk
import Derived.Test.YtjgdcdeekpeenaaMu
namespace Go.Proofs.Ytjgdcdeekpeenaa
open Go.RowKit Go.Shelf
set_option maxRecDepth 100000
structure OnS (o : On) (s : Sn) (k : Nat) : Prop where
  op : o.op = true
  since : o.since = s.since
  keys : ∃ l, SK l s.keys ∧ o.keys = l.map ofL ∧ l.length ≤ k
structure Rel (M : Mg) (R : Rf) (k : Nat) : Prop where
  clock : R.clock = M.clock
  high : R.high = M.high
  no : ∀ i, i < 4 → M.op i = none → (R.l i).op = false
  cl : ∀ i, i < 4 → M.op i = none → (R.l i).keys = []
  yes : ∀ i s, i < 4 → M.op i = some s → OnS (R.l i) s k
  last : ∀ x, lastD R.done (ofL x) = wrAt M.wr x ∨ (lastD R.done (ofL x) = -1 ∧ wrAt M.wr x = 0)
  len : R.done.length ≤ k * 100
theorem OnS.mono {o : On} {s : Sn} {k k' : Nat} (h : OnS o s k) (hk : k ≤ k') : OnS o s k' := ⟨h.op, h.since, by obtain ⟨l, a, b, c⟩ := h.keys; exact ⟨l, a, b, Nat.le_trans c hk⟩⟩
theorem Rel.mono {M : Mg} {R : Rf} {k k' : Nat} (h : Rel M R k) (hk : k ≤ k') : Rel M R k' := ⟨h.clock, h.high, h.no, h.cl, fun i s hi hs => (h.yes i s hi hs).mono hk, h.last, Nat.le_trans h.len (Nat.mul_le_mul_right _ hk)⟩
theorem Rel.new (n : Int) : Rel (Mg.new n) (Rf.new n) 0 := ⟨rfl, rfl, fun _ _ _ => rfl, fun _ _ _ => rfl, fun _ _ _ q => (by cases q), fun x => .inr ⟨rfl, rfl⟩, Nat.le_refl _⟩
theorem Rel.err {M : Mg} {R : Rf} {k : Nat} (h : Rel M R k) (id : Int) : errR R id = errM M id := by
  rcases id_cases M id with c | ⟨i, hi, rfl, hs⟩ | ⟨i, s, hi, rfl, hs⟩
  · rw [err_no c]; simp [errR, c]
  · rw [err_none hi hs, errR_at hi, h.no i hi hs]; rfl
  · rw [err_yes hi hs, errR_at hi, (h.yes i s hi hs).op]; rfl
theorem Rel.errB {M : Mg} {R : Rf} {k : Nat} (h : Rel M R k) (id : Int) : errRB R id = errB M id := by
  rcases id_cases M id with c | ⟨i, hi, rfl, hs⟩ | ⟨i, s, hi, rfl, hs⟩
  · rw [errB_no c]; simp [errRB, c]
  · rw [errB_none hi hs]
    have : ¬ ((i : Int) < 0 ∨ (4 : Int) ≤ (i : Int)) := by omega
    simp [errRB, this, h.no i hi hs]
  · rw [errB_yes hi hs]
    have : ¬ ((i : Int) < 0 ∨ (4 : Int) ≤ (i : Int)) := by omega
    simp [errRB, this, (h.yes i s hi hs).op]
theorem Rel.hiB {M : Mg} {R : Rf} {k : Nat} (h : Rel M R k) : hiR R = hiB M := by
  have h1 := h.clock
  have h2 := h.high
  unfold hiR Ytjgdcdeekpeenaa.hiB
  rw [h1, h2]
theorem Rel.hiC {M : Mg} {R : Rf} {k : Nat} (h : Rel M R k) : hiRC R = hiC M := by
  have h1 := h.clock
  have h2 := h.high
  unfold hiRC Ytjgdcdeekpeenaa.hiC
  rw [h1, h2]
theorem Rel.bgnR {M : Mg} {R : Rf} {k : Nat} (h : Rel M R k) (id : Int) : bgnRR R id = bgnR M id := by
  unfold bgnRR Ytjgdcdeekpeenaa.bgnR
  rw [h.errB, h.hiB]
theorem errB_zero {M : Mg} {id : Int} (h : errB M id = 0) : ∃ i : Nat, i < 4 ∧ id = (i : Int) ∧ M.op i = none := by
  rcases id_cases M id with c | ⟨i, hi, rfl, hs⟩ | ⟨i, s, hi, rfl, hs⟩
  · rw [errB_no c] at h; cases h
  · exact ⟨i, hi, rfl, hs⟩
  · rw [errB_yes hi hs] at h; cases h
theorem errM_zero {M : Mg} {id : Int} (h : errM M id = 0) : ∃ (i : Nat) (s : Sn), i < 4 ∧ id = (i : Int) ∧ M.op i = some s := by
  rcases id_cases M id with c | ⟨i, hi, rfl, hs⟩ | ⟨i, s, hi, rfl, hs⟩
  · rw [err_no c] at h; cases h
  · rw [err_none hi hs] at h; cases h
  · exact ⟨i, s, hi, rfl, hs⟩
theorem Rel.bgn {M : Mg} {R : Rf} {k : Nat} (h : Rel M R k) (id : Int) : Rel (M.bgn id) (R.bgn id) (k + 1) := by
  unfold Mg.bgn Rf.bgn
  rw [h.errB]
  by_cases c : Ytjgdcdeekpeenaa.errB M id = 0
  · rw [if_pos c, if_pos c]
    obtain ⟨i, hi, rfl, hs⟩ := errB_zero c
    simp only [Int.toNat_natCast]
    refine ⟨h.clock, h.hiB, fun j hj q => ?_, fun j hj q => ?_, fun j s hj q => ?_, h.last, Nat.le_trans h.len (Nat.mul_le_mul_right _ (by omega))⟩
    · simp only [Mg.opn, Mg.rise] at q
      split at q
      · cases q
      · rename_i hne
        simp only [upd, if_neg hne]
        exact h.no j hj q
    · simp only [Mg.opn, Mg.rise] at q
      split at q
      · cases q
      · rename_i hne
        simp only [upd, if_neg hne]
        exact h.cl j hj q
    · simp only [Mg.opn, Mg.rise] at q
      split at q
      · rename_i he
        cases q
        simp only [upd, if_pos he]
        exact ⟨rfl, h.hiB, [], ⟨List.Pairwise.nil, fun x => Iff.rfl⟩, rfl, Nat.zero_le _⟩
      · rename_i hne
        simp only [upd, if_neg hne]
        exact (h.yes j s hj q).mono (by omega)
  · rw [if_neg c, if_neg c]
    exact h.mono (by omega)
theorem Rel.off {M : Mg} {R : Rf} {k : Nat} (h : Rel M R k) {i : Nat} : Rel (M.close i) (R.put i none0) k := by
  refine ⟨h.clock, h.high, fun j hj q => ?_, fun j hj q => ?_, fun j s hj q => ?_, h.last, h.len⟩
  · simp only [Mg.close] at q
    by_cases he : j = i
    · simp [Rf.put, upd, he, none0]
    · rw [if_neg he] at q
      simp only [Rf.put, upd, if_neg he]
      exact h.no j hj q
  · simp only [Mg.close] at q
    by_cases he : j = i
    · simp [Rf.put, upd, he, none0]
    · rw [if_neg he] at q
      simp only [Rf.put, upd, if_neg he]
      exact h.cl j hj q
  · simp only [Mg.close] at q
    by_cases he : j = i
    · rw [if_pos he] at q; cases q
    · rw [if_neg he] at q
      simp only [Rf.put, upd, if_neg he]
      exact h.yes j s hj q
theorem Rel.fin {M : Mg} {R : Rf} {k : Nat} (h : Rel M R k) (id : Int) : Rel (M.fin id) (R.fin id) (k + 1) := by
  unfold Mg.fin Rf.fin
  rw [h.err]
  split
  · exact h.off.mono (by omega)
  · exact h.mono (by omega)
theorem Rel.tick {M : Mg} {R : Rf} {k : Nat} (h : Rel M R k) (n : Int) : Rel (M.tick n) (R.tick n) (k + 1) := by
  refine ⟨?_, h.high, h.no, h.cl, fun i s hi hs => (h.yes i s hi hs).mono (by omega), h.last, Nat.le_trans h.len (Nat.mul_le_mul_right _ (by omega))⟩
  show tickC R.clock n = tickC M.clock n
  rw [h.clock]
theorem Rel.write {M : Mg} {R : Rf} {k : Nat} (h : Rel M R k) {i : Nat} {s : Sn} (hi : i < 4) (hs : M.op i = some s) {x : Ky} {l' : List Ky} (hk : SK l' (x :: s.keys)) (hl : l'.length ≤ k + 1) : Rel (M.write i s x) (R.put i { R.l i with keys := l'.map ofL }) (k + 1) := by
  refine ⟨h.clock, h.high, fun j hj q => ?_, fun j hj q => ?_, fun j s' hj q => ?_, h.last, Nat.le_trans h.len (Nat.mul_le_mul_right _ (by omega))⟩
  · simp only [Mg.write, Mg.opn] at q
    split at q
    · cases q
    · rename_i hne
      simp only [Rf.put, upd, if_neg hne]
      exact h.no j hj q
  · simp only [Mg.write, Mg.opn] at q
    split at q
    · cases q
    · rename_i hne
      simp only [Rf.put, upd, if_neg hne]
      exact h.cl j hj q
  · simp only [Mg.write, Mg.opn] at q
    split at q
    · rename_i he
      cases q
      simp only [Rf.put, upd, if_pos he]
      have := h.yes i s hi hs
      exact ⟨this.op, this.since, l', hk, rfl, hl⟩
    · rename_i hne
      simp only [Rf.put, upd, if_neg hne]
      exact (h.yes j s' hj q).mono (by omega)
theorem Rel.clash {M : Mg} {R : Rf} {k : Nat} (h : Rel M R k) {i : Nat} {s : Sn} (hi : i < 4) (hs : M.op i = some s) (h0 : 0 ≤ s.since) : clashR R (R.l i) = clash M s := by
  obtain ⟨h1, h2, l, h3, h4, h5⟩ := h.yes i s hi hs
  unfold clashR Ytjgdcdeekpeenaa.clash
  rw [h2, h4, Bool.eq_iff_iff]
  simp only [List.any_eq_true, List.mem_map, decide_eq_true_eq]
  constructor
  · rintro ⟨_, ⟨x, hx, rfl⟩, q⟩
    refine ⟨x, (h3.mem x).1 hx, ?_⟩
    rcases h.last x with e | ⟨e1, e2⟩
    · rw [← e]; exact q
    · omega
  · rintro ⟨x, hx, q⟩
    refine ⟨ofL x, ⟨x, (h3.mem x).2 hx, rfl⟩, ?_⟩
    rcases h.last x with e | ⟨e1, e2⟩
    · rw [e]; exact q
    · omega
theorem Rel.errT {M : Mg} {R : Rf} {k : Nat} (h : Rel M R k) (hI : Inv M k) {i : Nat} {s : Sn} (hi : i < 4) (hs : M.op i = some s) : errTR R (R.l i) = errT M s := by
  unfold errTR Ytjgdcdeekpeenaa.errT
  rw [h.clash hi hs (hI.keys i s hs).2.1, h.high]
  have := hI.fit.h1
  split
  · rfl
  · by_cases c : M.high = 1073741824
    · rw [if_pos c, if_pos (by omega)]
    · rw [if_neg c, if_neg (by omega)]
theorem lastD_map (d : List (ByteArray × Int)) (n : Int) (x : Ky) : ∀ l : List Ky, lastD (d ++ (l.map ofL).map fun y => (y, n)) (ofL x) = if x ∈ l then n else lastD d (ofL x) := by
  intro l
  unfold lastD
  rw [List.foldl_append]
  generalize List.foldl (fun a (e : ByteArray × Int) => if e.1 = ofL x then e.2 else a) (-1) d = z
  induction l generalizing z with
  | nil => simp
  | cons y t ih =>
    simp only [List.map_cons, List.foldl_cons, List.mem_cons]
    rw [ih]
    by_cases c : x ∈ t
    · simp [c]
    · simp only [c, if_false, or_false]
      by_cases e : x = y
      · rw [if_pos e, if_pos (by rw [e])]
      · rw [if_neg e, if_neg (fun q => e (by have := congrArg bs q; simpa [bs_ofL] using this.symm))]
theorem Rel.cmt {M : Mg} {R : Rf} {k : Nat} (h : Rel M R k) (hk : k ≤ 100) {i : Nat} {s : Sn} (hi : i < 4) (hs : M.op i = some s) (l : List (Ky × Int)) (hN : Noted M.wr l s.keys (Ytjgdcdeekpeenaa.hiC M)) : Rel (((M.rise (Ytjgdcdeekpeenaa.hiC M)).with l).close i) ((dn R (R.l i).keys (hiRC R)).put i none0) (k + 1) := by
  refine Rel.off ?_
  obtain ⟨h1, h2, l', h3, h4, h5⟩ := h.yes i s hi hs
  refine ⟨h.clock, h.hiC, h.no, h.cl, fun j s' hj q => (h.yes j s' hj q).mono (by omega), fun x => ?_, ?_⟩
  · show lastD (R.done ++ (R.l i).keys.map fun x => (x, hiRC R)) (ofL x) = wrAt l x ∨ _ ∧ wrAt l x = 0
    rw [h4, lastD_map, hN.at' x, h.hiC]
    by_cases c : x ∈ s.keys
    · rw [if_pos c, if_pos ((h3.mem x).2 c)]; exact .inl rfl
    · rw [if_neg c, if_neg (fun q => c ((h3.mem x).1 q))]
      rcases h.last x with e | ⟨e1, e2⟩
      · exact .inl e
      · refine .inr ⟨?_, e2⟩
        show lastD (R.done ++ (l'.map ofL).map fun x => (x, Ytjgdcdeekpeenaa.hiC M)) (ofL x) = -1
        rw [lastD_map, if_neg (fun q => c ((h3.mem x).1 q))]
        exact e1
  · show (R.done ++ (R.l i).keys.map fun x => (x, hiRC R)).length ≤ _
    have := h.len
    rw [h4]
    simp only [List.length_append, List.length_map]
    omega
theorem Rel.old {M : Mg} {R : Rf} {k : Nat} (h : Rel M R k) : ∀ n, n ≤ 4 → oldR R n = oldN M n
  | 0, _ => rfl
  | n + 1, hn => by
    have ih := h.old n (by omega)
    unfold oldR oldN
    rw [ih]
    cases hs : M.op n with
    | none =>
      rw [h.no n (by omega) hs]
      rfl
    | some s =>
      obtain ⟨h1, h2, _⟩ := h.yes n s (by omega) hs
      rw [h1, h2]
      rfl
end Go.Proofs.Ytjgdcdeekpeenaa
