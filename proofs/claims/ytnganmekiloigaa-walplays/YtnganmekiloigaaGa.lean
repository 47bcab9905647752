/- A log by plain data: pieces, records, chains. -/
import Derived.Test.YtnganmekiloigaaPl
namespace Go.Proofs.Ytnganmekiloigaa
/-- A piece, as a sector says it: its epoch, its place, which it is, of how many, its size, and bytes. -/
structure Pc where
  e : Nat
  p : Nat
  k : Nat
  n : Nat
  z : Nat
  b : Bs

def u8 (s : Bs) (i : Nat) : Nat := (s.getD i 0).toNat
theorem u8_lt (s : Bs) (i : Nat) : u8 s i < 256 := UInt8.toNat_lt _
def pcOf (s : Bs) : Pc := ⟨256 * u8 s 0 + u8 s 1, 256 * u8 s 2 + u8 s 3, u8 s 4, u8 s 5, u8 s 6, s.drop 7⟩

/-- Is the piece that stands i behind p the one that is due? -/
def due (h : List Pc) (p : Nat) (f : Pc) (i : Nat) : Bool :=
  match h[p + i]? with
  | none => false
  | some x => x.e == f.e && x.p == p + i && x.k == i && x.n == f.n && (if i + 1 < f.n then x.z == 57 else decide (x.z ≤ 57))
def bytesAt (h : List Pc) (i : Nat) : Bs := match h[i]? with | none => [] | some x => x.b.take x.z
/-- A record: its epoch, how many pieces it has, its bytes. -/
structure Rc where
  e : Nat
  n : Nat
  b : Bs
/-- The record that stands at a place. -/
def standP (h : List Pc) (p : Nat) : Option Rc :=
  match h[p]? with
  | none => none
  | some f => if f.e = 0 ∨ f.n < 1 ∨ min 64 (h.length - p) < f.n then none else if (List.range f.n).all (due h p f) then some ⟨f.e, f.n, (List.range f.n).flatMap fun i => bytesAt h (p + i)⟩ else none
/-- The records of a half, one behind the other. -/
def chainP (h : List Pc) : Nat → Nat → Nat → List Rc
  | 0, _, _ => []
  | g + 1, p, e => match standP h p with | none => [] | some r => if r.e < e then [] else r :: chainP h g (p + r.n) r.e
def epoch0 (h : List Pc) : Nat := match standP h 0 with | none => 0 | some r => r.e
def pcs (S : List Bs) : List Pc := S.map pcOf
def halfP (S : List Bs) (k : Nat) : List Pc := ((pcs S).drop (k * (S.length / 2))).take (S.length / 2)
def great (l : List Pc) : Nat := l.foldl (fun m x => max m x.e) 0
def forceP (S : List Bs) : Nat := if epoch0 (halfP S 0) < epoch0 (halfP S 1) then 1 else 0
def toldP (S : List Bs) : List Rc := chainP (halfP S (forceP S)) (S.length / 2 + 1) 0 0

theorem halfP_length {S : List Bs} {k : Nat} (hk : k < 2) : (halfP S k).length = S.length / 2 := by
  simp only [halfP, pcs, List.length_take, List.length_drop, List.length_map]
  rcases (by omega : k = 0 ∨ k = 1) with rfl | rfl <;> omega
theorem halfP_get {S : List Bs} {k i : Nat} (hi : i < S.length / 2) : (halfP S k)[i]? = (S[k * (S.length / 2) + i]?).map pcOf := by
  simp only [halfP, pcs, List.getElem?_take, if_pos hi, List.getElem?_drop, List.getElem?_map]
theorem great_le : ∀ (l : List Pc) (m : Nat), m ≤ l.foldl (fun m x => max m x.e) m ∧ ∀ x ∈ l, x.e ≤ l.foldl (fun m x => max m x.e) m
  | [], m => ⟨Nat.le_refl _, by simp⟩
  | y :: l, m => by
    have := great_le l (max m y.e)
    refine ⟨Nat.le_trans (Nat.le_max_left _ _) this.1, fun x hx => ?_⟩
    rcases List.mem_cons.1 hx with rfl | hx
    · exact Nat.le_trans (Nat.le_max_right _ _) this.1
    · exact this.2 x hx
theorem great_bound : ∀ (l : List Pc) (m E : Nat), m ≤ E → (∀ x ∈ l, x.e ≤ E) → l.foldl (fun m x => max m x.e) m ≤ E
  | [], m, E, hm, _ => hm
  | y :: l, m, E, hm, h => great_bound l _ E (Nat.max_le.2 ⟨hm, h y (by simp)⟩) fun x hx => h x (by simp [hx])

/-! ### what stands where -/
theorem stand_some {h : List Pc} {p : Nat} {r : Rc} (hs : standP h p = some r) :
    ∃ f, h[p]? = some f ∧ f.e = r.e ∧ f.n = r.n ∧ 0 < r.e ∧ 1 ≤ r.n ∧ r.n ≤ 64 ∧ p + r.n ≤ h.length ∧ (∀ i, i < r.n → due h p f i = true) ∧ r.b = (List.range r.n).flatMap fun i => bytesAt h (p + i) := by
  unfold standP at hs
  split at hs
  · cases hs
  · rename_i f hf
    split at hs
    · cases hs
    · rename_i h0
      split at hs
      · rename_i ha
        cases hs
        have hp : p < h.length := (List.getElem?_eq_some_iff.1 hf).1
        refine ⟨f, hf, rfl, rfl, by simp only; omega, by simp only; omega, by simp only; omega, by simp only; omega, fun i hi => List.all_eq_true.1 ha i (List.mem_range.2 hi), rfl⟩
      · cases hs
theorem stand_of {h : List Pc} {p : Nat} {f : Pc} (hf : h[p]? = some f) (h0 : 0 < f.e) (h1 : 1 ≤ f.n) (h2 : f.n ≤ 64) (h3 : p + f.n ≤ h.length) (hd : ∀ i, i < f.n → due h p f i = true) : standP h p = some ⟨f.e, f.n, (List.range f.n).flatMap fun i => bytesAt h (p + i)⟩ := by
  unfold standP
  rw [hf]
  simp only
  rw [if_neg (by omega), if_pos (List.all_eq_true.2 fun i hi => hd i (List.mem_range.1 hi))]
theorem due_get {h : List Pc} {p i : Nat} {f : Pc} (hd : due h p f i = true) : ∃ x, h[p + i]? = some x ∧ x.e = f.e ∧ x.p = p + i ∧ x.k = i ∧ x.n = f.n ∧ x.z ≤ 57 ∧ (i + 1 < f.n → x.z = 57) := by
  unfold due at hd
  split at hd
  · cases hd
  · rename_i x hx
    simp only [Bool.and_eq_true, beq_iff_eq] at hd
    obtain ⟨⟨⟨⟨h1, h2⟩, h3⟩, h4⟩, h5⟩ := hd
    refine ⟨x, hx, h1, h2, h3, h4, ?_, ?_⟩
    · split at h5
      · rw [beq_iff_eq.1 h5]; omega
      · exact of_decide_eq_true h5
    · intro hi
      rw [if_pos hi] at h5
      exact beq_iff_eq.1 h5
theorem flatMap_congr' {α β : Type} {f g : α → List β} : ∀ {l : List α}, (∀ x ∈ l, f x = g x) → l.flatMap f = l.flatMap g
  | [], _ => rfl
  | x :: l, h => by
    rw [List.flatMap_cons, List.flatMap_cons, h x (by simp), flatMap_congr' fun y hy => h y (by simp [hy])]
theorem stand_congr {h h' : List Pc} {p : Nat} {r : Rc} (hs : standP h p = some r) (hl : h'.length = h.length) (he : ∀ i, i < r.n → h'[p + i]? = h[p + i]?) : standP h' p = some r := by
  obtain ⟨f, h1, h2, h3, h4, h5, h6, h7, h8, h9⟩ := stand_some hs
  have e0 : h'[p]? = some f := by have := he 0 (by omega); rw [Nat.add_zero] at this; exact this.trans h1
  have := stand_of e0 (by omega) (by omega) (by omega) (by omega) (fun i hi => by
    have := h8 i (by omega)
    unfold due at this ⊢
    rw [he i (by omega)]
    exact this)
  rw [this]
  cases r
  simp only at h2 h3 h9 ⊢
  subst h2 h3
  rw [h9]
  congr 2
  refine flatMap_congr' fun i hi => ?_
  unfold bytesAt
  rw [he i (List.mem_range.1 hi)]

/-- Records stand one behind the other, from p to u; the epochs from e0 to e1. -/
inductive Chain (h : List Pc) : Nat → Nat → List Bs → Nat → Nat → Prop
  | nil (p e : Nat) : Chain h p e [] p e
  | cons {p e u e1 : Nat} {r : Rc} {l : List Bs} (hs : standP h p = some r) (he : e ≤ r.e) (hr : Chain h (p + r.n) r.e l u e1) : Chain h p e (r.b :: l) u e1
/-- No more record stands at u. -/
def Ends (h : List Pc) (u e : Nat) : Prop := ∀ r, standP h u = some r → r.e < e
theorem Chain.append {h : List Pc} {p e u e1 v e2 : Nat} {l m : List Bs} (a : Chain h p e l u e1) (b : Chain h u e1 m v e2) : Chain h p e (l ++ m) v e2 := by
  induction a with
  | nil => exact b
  | cons hs he _ ih => exact .cons hs he (ih b)
theorem Chain.le {h : List Pc} {p e u e1 : Nat} {l : List Bs} (a : Chain h p e l u e1) : p ≤ u ∧ e ≤ e1 ∧ l.length ≤ u - p := by
  induction a with
  | nil => simp
  | cons hs he _ ih =>
    obtain ⟨f, h1, h2, h3, h4, h5, _⟩ := stand_some hs
    simp only [List.length_cons]
    omega
theorem Chain.room {h : List Pc} {p e u e1 : Nat} {l : List Bs} (a : Chain h p e l u e1) (hp : p ≤ h.length) : u ≤ h.length := by
  induction a with
  | nil => exact hp
  | cons hs he _ ih =>
    obtain ⟨f, h1, h2, h3, h4, h5, h6, h7, _⟩ := stand_some hs
    exact ih h7
theorem Chain.congr {h h' : List Pc} {p e u e1 : Nat} {l : List Bs} (a : Chain h p e l u e1) (hl : h'.length = h.length) (he : ∀ i, i < u → h'[i]? = h[i]?) : Chain h' p e l u e1 := by
  induction a with
  | nil => exact .nil _ _
  | cons hs he' hr ih =>
    have hle := hr.le
    exact .cons (stand_congr hs hl fun i hi => he _ (by omega)) he' (ih he)
theorem chain_told {h : List Pc} {p e u e1 : Nat} {l : List Bs} (a : Chain h p e l u e1) (hE : Ends h u e1) : ∀ g, u - p < g → ((chainP h g p e).map Rc.b = l ∧ p + ((chainP h g p e).map Rc.n).sum = u) := by
  induction a with
  | nil p e =>
    intro g hg
    obtain ⟨g, rfl⟩ : ∃ k, g = k + 1 := ⟨g - 1, by omega⟩
    unfold chainP
    split
    · simp
    · rename_i r hr
      rw [if_pos (hE r hr)]
      simp
  | @cons p e u e1 r l hs he hr ih =>
    intro g hg
    obtain ⟨g, rfl⟩ : ∃ k, g = k + 1 := ⟨g - 1, by omega⟩
    obtain ⟨f, h1, h2, h3, h4, h5, _⟩ := stand_some hs
    have hle := hr.le
    have := ih hE g (by omega)
    unfold chainP
    rw [hs]
    simp only
    rw [if_neg (by omega), List.map_cons, List.map_cons, this.1, List.sum_cons]
    exact ⟨rfl, by omega⟩
/-- Whatever is there, what is told is a chain that ends. -/
theorem told_chain (h : List Pc) : ∀ g p e, p ≤ h.length → h.length - p < g → ∃ u e1, Chain h p e ((chainP h g p e).map Rc.b) u e1 ∧ Ends h u e1
  | 0, p, e, _, hg => by omega
  | g + 1, p, e, hp, hg => by
    unfold chainP
    split
    · rename_i hn
      exact ⟨p, e, .nil _ _, fun r hr => by rw [hn] at hr; cases hr⟩
    · rename_i r hs
      obtain ⟨f, h1, h2, h3, h4, h5, h6, h7, _⟩ := stand_some hs
      split
      · rename_i hlt
        exact ⟨p, e, .nil _ _, fun r' hr => by rw [hs] at hr; cases hr; exact hlt⟩
      · rename_i hge
        obtain ⟨u, e1, c, E⟩ := told_chain h g (p + r.n) r.e h7 (by omega)
        exact ⟨u, e1, .cons hs (by omega) c, E⟩
end Go.Proofs.Ytnganmekiloigaa
