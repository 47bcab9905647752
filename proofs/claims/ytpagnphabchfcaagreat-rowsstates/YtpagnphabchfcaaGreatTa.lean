/- States by plain data; lists of tables with their rows. -/
import Derived.Test.YtpagnphabchfcaaGreatQi
namespace Go.Proofs.YtpagnphabchfcaaGreat
open Go.RowKit Go.Shelf
set_option maxRecDepth 100000
abbrev Tab := ByteArray × List Rw
def putG (n : ByteArray) (l : List Rw) : List Tab → Bool → List Tab
  | [], b => if b = true then [] else [(n, l)]
  | t :: σ, b => (if cmpS n t.1 ≤ 0 ∧ b = false then [(n, l)] else []) ++ (if cmpS n t.1 ≠ 0 then [t] else []) ++ putG n l σ (b || decide (cmpS n t.1 ≤ 0))
def putS (n : ByteArray) (l : List Rw) : List Tab → List Tab
  | [] => [(n, l)]
  | t :: σ => if cmpS n t.1 = -1 then (n, l) :: t :: σ else if cmpS n t.1 = 0 then (n, l) :: σ else t :: putS n l σ
def SortedS (σ : List Tab) : Prop := σ.Pairwise fun a b => cmpS a.1 b.1 = -1
def getS (σ : List Tab) (n : ByteArray) : Option (List Rw) := (σ.find? fun t => decide (t.1 = n)).map (·.2)
theorem putG_true {n : ByteArray} {l : List Rw} : ∀ {σ : List Tab}, (∀ t ∈ σ, cmpS n t.1 = -1) → putG n l σ true = σ
  | [], _ => rfl
  | t :: σ, h => by
    have h1 := h t (by simp)
    unfold putG
    rw [if_neg (by simp), if_pos (by omega), Bool.true_or, putG_true (fun x hx => h x (by simp [hx]))]
    rfl
theorem putG_eq {n : ByteArray} {l : List Rw} : ∀ {σ : List Tab}, SortedS σ → putG n l σ false = putS n l σ
  | [], _ => rfl
  | t :: σ, h => by
    obtain ⟨h1, h2⟩ := List.pairwise_cons.1 h
    have ih := putG_eq (n := n) (l := l) h2
    unfold putG putS
    rcases ordS.three n t.1 with c | c | c
    · rw [if_pos ⟨by omega, rfl⟩, if_pos (by omega), if_pos c, Bool.false_or, decide_eq_true (by omega), putG_true (fun x hx => ordS.trans _ _ _ c (h1 x hx))]
      rfl
    · rw [if_pos ⟨by omega, rfl⟩, if_neg (by omega), if_neg (by omega), if_pos c, Bool.false_or, decide_eq_true (by omega), putG_true (fun x hx => by rw [(ordS.eq _ _).1 c]; exact h1 x hx)]
      rfl
    · rw [if_neg (fun h => by have := h.1; omega), if_pos (by omega), if_neg (by omega), if_neg (by omega), Bool.false_or, decide_eq_false (by omega), ih]
      rfl
theorem putS_mem {n : ByteArray} {l : List Rw} : ∀ {σ : List Tab} {x : ByteArray}, x ∈ (putS n l σ).map (·.1) → x = n ∨ x ∈ σ.map (·.1)
  | [], x, h => by simpa [putS] using h
  | t :: σ, x, h => by
    unfold putS at h
    split at h
    · simpa using h
    · split at h
      · rw [List.map_cons, List.mem_cons] at h
        rcases h with h | h
        · exact .inl h
        · exact .inr (by simp only [List.map_cons, List.mem_cons]; exact .inr h)
      · rw [List.map_cons, List.mem_cons] at h
        rcases h with h | h
        · exact .inr (by simp [h])
        · exact (putS_mem h).imp id (fun q => by simp only [List.map_cons, List.mem_cons]; exact .inr q)
theorem putS_sorted {n : ByteArray} {l : List Rw} : ∀ {σ : List Tab}, SortedS σ → SortedS (putS n l σ)
  | [], _ => List.pairwise_singleton _ _
  | t :: σ, h => by
    obtain ⟨h1, h2⟩ := List.pairwise_cons.1 h
    unfold putS
    split
    · rename_i c
      refine List.pairwise_cons.2 ⟨fun x hx => ?_, h⟩
      rcases List.mem_cons.1 hx with rfl | hx
      · exact c
      · exact ordS.trans _ _ _ c (h1 x hx)
    · split
      · rename_i c
        refine List.pairwise_cons.2 ⟨fun x hx => ?_, h2⟩
        show cmpS n x.1 = -1
        rw [(ordS.eq _ _).1 c]
        exact h1 x hx
      · rename_i c1 c2
        have c3 : cmpS t.1 n = -1 := by have t3 := ordS.three n t.1; have n3 := ordS.neg n t.1; omega
        refine List.pairwise_cons.2 ⟨fun x hx => ?_, putS_sorted h2⟩
        rcases putS_mem (List.mem_map.2 ⟨x, hx, rfl⟩) with e | e
        · rw [e]; exact c3
        · obtain ⟨q, hq, e⟩ := List.mem_map.1 e
          rw [← e]
          exact h1 q hq
theorem getS_cons (t : Tab) (σ : List Tab) (x : ByteArray) : getS (t :: σ) x = if t.1 = x then some t.2 else getS σ x := by
  unfold getS
  rw [List.find?_cons]
  by_cases e : t.1 = x <;> simp [e]
theorem getS_put {n : ByteArray} {l : List Rw} (x : ByteArray) : ∀ {σ : List Tab}, SortedS σ → getS (putS n l σ) x = if x = n then some l else getS σ x
  | [], _ => by
    unfold putS
    rw [getS_cons]
    by_cases e : n = x
    · subst e; simp
    · rw [if_neg e, if_neg (fun h => e h.symm)]
  | t :: σ, h => by
    obtain ⟨h1, h2⟩ := List.pairwise_cons.1 h
    unfold putS
    split
    · rw [getS_cons]
      by_cases e : n = x
      · subst e; simp
      · rw [if_neg e, if_neg (fun h => e h.symm)]
    · split
      · rename_i c
        have e0 := (ordS.eq _ _).1 c
        rw [getS_cons, getS_cons]
        by_cases e : n = x
        · subst e; simp
        · rw [if_neg e, if_neg (fun h => e h.symm), if_neg (by rw [← e0]; exact e)]
      · rename_i c1 c2
        rw [getS_cons, getS_cons, getS_put x h2]
        by_cases e : t.1 = x
        · have : ¬ x = n := fun q => c2 ((ordS.eq _ _).2 (by rw [e, q]))
          rw [if_pos e, if_neg this, if_pos e]
        · rw [if_neg e, if_neg e]
theorem getS_some {σ : List Tab} {x : ByteArray} : x ∈ σ.map (·.1) ↔ ∃ l, getS σ x = some l := by
  induction σ with
  | nil => simp [getS]
  | cons t σ ih =>
    rw [getS_cons, List.map_cons, List.mem_cons]
    by_cases e : t.1 = x
    · subst e; simp
    · rw [if_neg e, ← ih]
      exact ⟨fun h => h.resolve_left (fun q => e q.symm), .inr⟩
theorem getS_at {σ : List Tab} (h : SortedS σ) {i : Nat} {t : Tab} (ht : σ[i]? = some t) : getS σ t.1 = some t.2 ∧ ∀ j u, j < i → σ[j]? = some u → u.1 ≠ t.1 := by
  obtain ⟨h1, h2⟩ := List.getElem?_eq_some_iff.1 ht
  have hne : ∀ j u, j < i → σ[j]? = some u → u.1 ≠ t.1 := fun j u hj hu e => by
    obtain ⟨h3, h4⟩ := List.getElem?_eq_some_iff.1 hu
    have hp := List.pairwise_iff_getElem.1 h j i h3 h1 hj
    rw [h2, h4, e, (ordS.eq _ _).2 rfl] at hp
    omega
  refine ⟨?_, hne⟩
  unfold getS
  have : σ.find? (fun u => decide (u.1 = t.1)) = some t := by
    rw [List.find?_eq_some_iff_getElem]
    refine ⟨by simp, i, h1, h2, fun j hj => ?_⟩
    have := hne j σ[j] hj (List.getElem?_eq_getElem (by omega))
    simpa using this
  rw [this]
  rfl
/-- Rows behind a slice, few, with few values. -/
def RRow (w : World) (X : Nat → Prop) (v : Value) (l : List Rw) : Prop := ∃ es, RL w X v es ∧ rws es = l ∧ es.length ≤ 1000 ∧ ∀ e ∈ es, e.2.1.length ≤ 1000
theorem RRow.keep {w w' : World} {X Y : Nat → Prop} {v : Value} {l : List Rw} (h : RRow w X v l) (k : Keep X w w') (hY : ∀ b, b < w.heap.size → Y b → X b) : RRow w' Y v l := by
  obtain ⟨es, h1, h2⟩ := h
  exact ⟨es, h1.keep k hY, h2⟩
theorem RRow.below {w w' : World} {X : Nat → Prop} {v : Value} {l : List Rw} (h : RRow w X v l) (k : Below w.heap.size w w') : RRow w' X v l := h.keep (Keep.of k) (fun _ _ h => h)
theorem RRow.mono {w : World} {X Y : Nat → Prop} {v : Value} {l : List Rw} (h : RRow w X v l) (hY : ∀ b, b < w.heap.size → Y b → X b) : RRow w Y v l := h.keep (Keep.refl _ _) hY
theorem RRow.form {w : World} {X : Nat → Prop} {v : Value} {l : List Rw} (h : RRow w X v l) : ∃ a n c, v = .slice a n c := by
  obtain ⟨es, h1, _⟩ := h
  obtain ⟨a, c, h⟩ := h1.form
  exact ⟨a, _, c, h⟩
/-- A table as it stands in a list: its name, the slice of its rows, and these. -/
abbrev NEl := ByteArray × Value × List Rw
def cellsN (ns : List NEl) : List Value := ns.flatMap fun e => [.string e.1, e.2.1]
theorem cellsN_length : ∀ l : List NEl, (cellsN l).length = l.length * 2
  | [] => rfl
  | x :: l => by
    have := cellsN_length l
    rw [show cellsN (x :: l) = .string x.1 :: x.2.1 :: cellsN l by simp [cellsN]]
    simp only [List.length_cons, this]
    omega
theorem cellsN_app (l m : List NEl) : cellsN (l ++ m) = cellsN l ++ cellsN m := by simp [cellsN]
theorem cellsN_get : ∀ (l : List NEl) (i : Nat) (x : NEl), l[i]? = some x → (cellsN l)[i * 2]? = some (.string x.1) ∧ (cellsN l)[i * 2 + 1]? = some x.2.1
  | [], i, x, h => by simp at h
  | y :: l, 0, x, h => by
    simp at h
    subst h
    simp [cellsN]
  | y :: l, i + 1, x, h => by
    have := cellsN_get l i x (by simpa using h)
    rw [show cellsN (y :: l) = .string y.1 :: y.2.1 :: cellsN l by simp [cellsN], show (i + 1) * 2 = i * 2 + 1 + 1 by omega]
    exact this
def tabs (ns : List NEl) : List Tab := ns.map fun e => (e.1, e.2.2)
/-- Tables behind a slice. -/
structure NL (w : World) (X : Nat → Prop) (v : Value) (ns : List NEl) : Prop where
  at' : ∃ a c, v = .slice a ns.length c ∧ (0 < ns.length → ∃ g o, a = some ⟨g, o, none⟩ ∧ g < w.heap.size ∧ ¬ X g ∧ ∀ (i : Nat) (e : NEl), ns[i]? = some e → w.cell? ⟨g, o + i * 2, none⟩ = some (.string e.1) ∧ w.cell? ⟨g, o + i * 2 + 1, none⟩ = some e.2.1)
  rows : ∀ e ∈ ns, RRow w X e.2.1 e.2.2
  small : ∀ e ∈ ns, e.1.size ≤ maxLen
theorem NL.keep {w w' : World} {X Y : Nat → Prop} {v : Value} {ns : List NEl} (h : NL w X v ns) (k : Keep X w w') (hY : ∀ b, b < w.heap.size → Y b → X b) : NL w' Y v ns := by
  refine ⟨?_, fun e he => (h.rows e he).keep k hY, h.small⟩
  obtain ⟨a, c, rfl, hh⟩ := h.at'
  refine ⟨a, c, rfl, fun h0 => ?_⟩
  obtain ⟨g, o, rfl, hg, hx, hc⟩ := hh h0
  exact ⟨g, o, rfl, Nat.lt_of_lt_of_le hg k.size, fun y => hx (hY g hg y), fun i s hs => ⟨(k.cell hg hx).trans (hc i s hs).1, (k.cell hg hx).trans (hc i s hs).2⟩⟩
theorem NL.below {w w' : World} {X : Nat → Prop} {v : Value} {ns : List NEl} (h : NL w X v ns) (k : Below w.heap.size w w') : NL w' X v ns := h.keep (Keep.of k) (fun _ _ h => h)
theorem NL.mono {w : World} {X Y : Nat → Prop} {v : Value} {ns : List NEl} (h : NL w X v ns) (hY : ∀ b, b < w.heap.size → Y b → X b) : NL w Y v ns := h.keep (Keep.refl _ _) hY
theorem NL.form {w : World} {X : Nat → Prop} {v : Value} {ns : List NEl} (h : NL w X v ns) : ∃ a c, v = .slice a ns.length c := by
  obtain ⟨a, c, h, _⟩ := h.at'
  exact ⟨a, c, h⟩
theorem NL.get {w : World} {X : Nat → Prop} {a : Option Addr} {n c : Nat} {ns : List NEl} (h : NL w X (.slice a n c) ns) {k : Nat} {e : NEl} (hy : ns[k]? = some e) : ∃ g o, a = some ⟨g, o, none⟩ ∧ g < w.heap.size ∧ ¬ X g ∧ w.cell? ⟨g, o + k * 2, none⟩ = some (.string e.1) ∧ w.cell? ⟨g, o + k * 2 + 1, none⟩ = some e.2.1 := by
  obtain ⟨a', c', hv, hh⟩ := h.at'
  simp only [Value.slice.injEq] at hv
  obtain ⟨rfl, -, -⟩ := hv
  obtain ⟨g, o, rfl, hg, hx, hc⟩ := hh (by have := (List.getElem?_eq_some_iff.1 hy).1; omega)
  exact ⟨g, o, rfl, hg, hx, hc k e hy⟩
theorem NL.at2 {w : World} {X : Nat → Prop} {g o n c : Nat} {ns : List NEl} (h : NL w X (.slice (some ⟨g, o, none⟩) n c) ns) {k : Nat} {e : NEl} (hy : ns[k]? = some e) : w.cell? ⟨g, o + k * 2, none⟩ = some (.string e.1) ∧ w.cell? ⟨g, o + k * 2 + 1, none⟩ = some e.2.1 := by
  obtain ⟨g', o', e', _, _, h1⟩ := h.get hy
  cases e'
  exact h1
/-- Tables in a block of one's own. -/
structure ON (w : World) (B : Nat) (v : Value) (ns : List NEl) : Prop where
  row : w.ownsRow B 94 2 v ns.length (cellsN ns)
  rows : ∀ e ∈ ns, RRow w (fun b => v.ownBlock = some b) e.2.1 e.2.2
  small : ∀ e ∈ ns, e.1.size ≤ maxLen
theorem ON.nil (w : World) (B : Nat) : ON w B (.slice none 0 0) [] := ⟨World.ownsRow_nil _ _ _ _, fun e he => (by cases he), fun e he => (by cases he)⟩
theorem ON.below {w w' : World} {B : Nat} {v : Value} {ns : List NEl} (h : ON w B v ns) (k : Below w.heap.size w w') : ON w' B v ns :=
  ⟨owns_keep h.row (fun j hj => k.block j (h.row.lt j hj).2), fun e he => (h.rows e he).below k, h.small⟩
theorem ON.nl {w : World} {B : Nat} {v : Value} {ns : List NEl} (h : ON w B v ns) : NL w (fun _ => False) v ns := by
  refine ⟨?_, fun e he => (h.rows e he).mono (fun _ _ h => h.elim), h.small⟩
  have hc := fun g hg => World.ownsRow.cells h.row (g := g) hg
  have hlt := World.ownsRow.lt h.row
  obtain ⟨_, ⟨rfl, h0⟩ | ⟨g, c, cur, rfl, _⟩⟩ := h.row
  · exact ⟨none, 0, by rw [h0], fun h => by omega⟩
  · refine ⟨_, c, rfl, fun _ => ⟨g, 0, rfl, (hlt g rfl).2, id, fun i e he => ?_⟩⟩
    obtain ⟨e1, e2⟩ := cellsN_get ns i e he
    have q1 := hc g rfl _ _ e1
    have q2 := hc g rfl _ _ e2
    rw [Addr.add_mid] at q1 q2
    exact ⟨q1, by rw [Nat.add_assoc]; exact q2⟩
theorem info94 : (Tryz.prog.info? 94).map (fun i => (i.zero, i.size, i.bytes)) = some (some (.agg #[.string ByteArray.empty, .slice none 0 0]), 2, 40) := by kernel_rfl
/-- Tables that were put together so far. -/
structure NI (w wr : World) (fo : Value) (os : List NEl) (L : List Tab) : Prop where
  own : ON wr w.heap.size fo os
  tabs : tabs os = L
  b : Below w.heap.size w wr
theorem NI.nil (w : World) : NI w w (.slice none 0 0) [] [] := ⟨ON.nil _ _, rfl, Below.refl _ _⟩
theorem NI.below {w wr wr' : World} {fo : Value} {os : List NEl} {L : List Tab} (h : NI w wr fo os L) (k : Below wr.heap.size wr wr') : NI w wr' fo os L := ⟨h.own.below k, h.tabs, bmore h.b k⟩
theorem NI.app {w w6 : World} {fo sv : Value} {os : List NEl} {L : List Tab} {n : ByteArray} {l : List Rw} (h : NI w w6 fo os L) (hn : L.length ≤ 1000) (hs : n.size ≤ maxLen) (hsv : RRow w6 (fun b => fo.ownBlock = some b) sv l) (g : Nat) (hg : w6.heap.size = g) :
    ∃ v7 w7, (Builtin.append_ #[91, 91] 91 #[fo, .slice (some ⟨g, 0, none⟩) 1 1]).run Tryz.prog (w6.alloc (.cells #[.string n, sv] 94)) = .ok v7 w7 ∧ Hid (∃ os', NI w w7 v7 os' (L ++ [(n, l)])) := by
  subst hg
  obtain ⟨i0, hi, hz0, hz1, hz2⟩ := info_parts' info94
  have hal := al w6 (.cells #[.string n, sv] 94)
  have nb := blk_new w6 [.string n, sv] 94
  change Blk (w6.alloc (.cells #[.string n, sv] 94)) _ _ _ at nb
  have hlen : os.length = L.length := by have := congrArg List.length h.tabs; simpa [Go.Proofs.YtpagnphabchfcaaGreat.tabs] using this
  have hB := (bmore h.b hal).size
  have h6 := h.below hal
  obtain ⟨pa, na, ca, hf⟩ := hsv.form
  obtain ⟨v7, w7, hr, r1, r2, r3, r4⟩ := run_append_own_at (P := Tryz.prog) _ w.heap.size 91 91 94 i0 (.agg #[.string ByteArray.empty, .slice none 0 0]) 2 40 Tryz.underlying91 hi hz0 hz1 hz2 rfl (by decide) fo os.length (cellsN os) h6.own.row ⟨w6.heap.size, 0, none⟩ 1 1 [.string n, sv] rfl (fun j x hx => by rw [Addr.add_mid, Nat.zero_add]; exact (nb.cell j).trans hx) (by intro u hu; simp at hu; rcases hu with rfl | rfl; rfl; rw [hf]; rfl) (by unfold maxLen; omega) (by omega) hB
  have hnew : ∀ k, v7.ownBlock = some k → fo.ownBlock = some k ∨ (w6.alloc (.cells #[.string n, sv] 94)).heap.size ≤ k := fun k hk => r4.elim (fun q => .inl (q ▸ hk)) (fun q => .inr (by rw [q] at hk; cases hk; exact Nat.le_refl _))
  refine ⟨v7, w7, hr, os ++ [(n, sv, l)], ⟨?_, fun x hx => ?_, fun x hx => ?_⟩, ?_, ?_⟩
  · rw [List.length_append, cellsN_app]; exact r1
  · have hs2 : RRow (w6.alloc (.cells #[.string n, sv] 94)) (fun b => fo.ownBlock = some b) x.2.1 x.2.2 := by
      rcases List.mem_append.1 hx with hx | hx
      · exact h6.own.rows x hx
      · rw [List.mem_singleton.1 hx]; exact hsv.below hal
    exact hs2.keep (keep_of_grown r2) (fun b hb hy => (hnew b hy).elim id (fun h => by omega))
  · rcases List.mem_append.1 hx with hx | hx
    · exact h.own.small x hx
    · rw [List.mem_singleton.1 hx]; exact hs
  · rw [← h.tabs]; simp [Go.Proofs.YtpagnphabchfcaaGreat.tabs]
  · exact (bmore h.b hal).trans ⟨r2.os, r2.tape, r2.output, r2.size, fun k hk => r2.block k (by omega) (fun e => by have := (World.ownsRow.lt h6.own.row k e.symm).1; omega)⟩
/-- The document's state at r. -/
structure RSt (w : World) (r : Nat) (σ : List Tab) : Prop where
  ex : ∃ v ns, Blk w r [v] 93 ∧ NL w (fun b => b = r) v ns ∧ tabs ns = σ
theorem RSt.keep {w w' : World} {r : Nat} {σ : List Tab} {F : Nat → Prop} (h : RSt w r σ) (k : Keep F w w') (hr : ¬ F r) (hF : ∀ b, b < w.heap.size → ¬ F b) : RSt w' r σ := by
  obtain ⟨v, ns, h1, h2, h3⟩ := h.ex
  exact ⟨v, ns, h1.keep k hr, (h2.keep (k.mono (G := fun b => b = r) (fun i hi q => absurd q (hF i hi))) (fun _ _ h => h)), h3⟩
theorem RSt.below {w w' : World} {r : Nat} {σ : List Tab} (h : RSt w r σ) (k : Below w.heap.size w w') : RSt w' r σ := h.keep (F := fun _ => False) (Keep.of k) id (fun _ _ => id)
theorem RSt.lt {w : World} {r : Nat} {σ : List Tab} (h : RSt w r σ) : r < w.heap.size := by
  obtain ⟨v, ns, h1, _⟩ := h.ex
  exact h1.lt
theorem rnew69 (w : World) : Calls Tryz.prog 69 #[] w fun e w' => ∃ r, e = .returned (.pointer (some ⟨r, 0, none⟩)) ∧ RSt w' r [] ∧ w.heap.size ≤ r ∧ Below w.heap.size w w' := by
  go_enter Tryz.func69, Tryz.ntmps69
  go_wp2
  go_ret
  exact ⟨w.heap.size, rfl, ⟨.slice none 0 0, [], blk_new w [.slice none 0 0] 93, ⟨⟨none, 0, rfl, fun h => by simp at h⟩, fun e he => (by cases he), fun e he => (by cases he)⟩, rfl⟩, Nat.le_refl _, al _ _⟩
end Go.Proofs.YtpagnphabchfcaaGreat
