/- Lists behind slices, whatever the elements; appends. -/
import Derived.Test.YtnganmekiloigaaLaw
import Derived.ArgAppend
import Derived.Deep.AppendLies
import Derived.Deep.Upon
import Derived.Deep.AppendSrc
import Derived.BigRegionIn
import Derived.OwnWalkIn
import Derived.Deep.RegionLaw
namespace Go.Proofs.Ytnganmekiloigaa
open Go.RowKit
set_option maxRecDepth 100000
/-- A kind of elements. -/
structure Ety (α : Type) where
  m : Nat
  enc : α → List Value
  tE : TypeId
  tS : TypeId
  z : Value
  bytes : Nat
  len : ∀ x, (enc x).length = m
  one : ∀ x u, u ∈ enc x → u.oneCell' = true
  und : Try.prog.underlying tS = some (.slice tE)
  info : (Try.prog.info? tE).map (fun i => (i.zero, i.size, i.bytes)) = some (some z, m, bytes)
  zs : z.cells.size = m
  pos : 0 < m
  by32 : bytes ≤ 128
variable {α : Type} {E : Ety α} {w w' : World} {L L' : List α}
def Ety.cells (E : Ety α) (L : List α) : List Value := L.flatMap E.enc
theorem cells_len (E : Ety α) : ∀ L : List α, (E.cells L).length = L.length * E.m
  | [] => by simp [Ety.cells]
  | x :: L => by
    have := cells_len E L
    rw [show E.cells (x :: L) = E.enc x ++ E.cells L by simp [Ety.cells]]
    simp [this, E.len, Nat.add_mul]; omega
theorem cells_app (E : Ety α) (L M : List α) : E.cells (L ++ M) = E.cells L ++ E.cells M := by simp [Ety.cells]
theorem cells_one (E : Ety α) (L : List α) : ∀ u ∈ E.cells L, u.oneCell' = true := by
  intro u hu
  obtain ⟨x, _, h⟩ := List.mem_flatMap.1 hu
  exact E.one x u h
theorem cells_get (E : Ety α) {L : List α} {i : Nat} {x : α} (h : L[i]? = some x) {j : Nat} (hj : j < E.m) : (E.cells L)[i * E.m + j]? = (E.enc x)[j]? := by
  obtain ⟨hi, hx⟩ := List.getElem?_eq_some_iff.1 h
  have e : L = L.take i ++ (x :: L.drop (i + 1)) := by rw [← hx]; simp
  have hl : (E.cells (L.take i)).length = i * E.m := by rw [cells_len, List.length_take, Nat.min_eq_left (by omega)]
  rw [e, cells_app, List.getElem?_append_right (by omega), hl, show E.cells (x :: L.drop (i + 1)) = E.enc x ++ E.cells (L.drop (i + 1)) by simp [Ety.cells], List.getElem?_append_left (by rw [E.len]; omega)]
  simp
/-- A block with these cells, whatever of it may not be turned. -/
def Blw (W : World) (b : Nat) (l : List Value) (t : TypeId) : Prop := ∃ fr, W.heap[b]? = some (.cells l.toArray t fr)
theorem Blk.blw {W : World} {b : Nat} {l : List Value} {t : TypeId} (h : Blk W b l t) : Blw W b l t := ⟨_, h⟩
theorem Blw.lt {W : World} {b : Nat} {l : List Value} {t : TypeId} (h : Blw W b l t) : b < W.heap.size := by obtain ⟨fr, h⟩ := h; exact (Array.getElem?_eq_some_iff.1 h).1
theorem Blw.block {W W' : World} {b : Nat} {l : List Value} {t : TypeId} (h : Blw W b l t) (e : W'.heap[b]? = W.heap[b]?) : Blw W' b l t := by obtain ⟨fr, h⟩ := h; exact ⟨fr, e.trans h⟩
theorem Blw.below {W W' : World} {b : Nat} {l : List Value} {t : TypeId} (h : Blw W b l t) (e : Below W.heap.size W W') : Blw W' b l t := h.block (e.block b h.lt)
theorem Blw.cell {W : World} {b : Nat} {l : List Value} {t : TypeId} (h : Blw W b l t) (j : Nat) : W.cell? ⟨b, j, none⟩ = l[j]? := by
  obtain ⟨fr, h⟩ := h
  simp [World.cell?, h]
/-- A slice reads as a list, in a block that is known whole. -/
def LV (E : Ety α) (w : World) (v : Value) (L : List α) : Prop := ∃ a c, v = .slice a L.length c ∧ L.length ≤ c ∧ (0 < L.length → ∃ g o cs t, a = some ⟨g, o, none⟩ ∧ Blw w g cs t ∧ ∀ (j : Nat) (u : Value), (E.cells L)[j]? = some u → cs[o + j]? = some u)
theorem LV.form {v : Value} (h : LV E w v L) : ∃ a c, v = .slice a L.length c := by obtain ⟨a, c, h, _⟩ := h; exact ⟨a, c, h⟩
theorem LV.keep {v : Value} (h : LV E w v L) (hk : ∀ g l t, Blw w g l t → Blw w' g l t) : LV E w' v L := by
  obtain ⟨a, c, h1, hcap, h2⟩ := h
  refine ⟨a, c, h1, hcap, fun h0 => ?_⟩
  obtain ⟨g, o, cs, t, h3, h4, h5⟩ := h2 h0
  exact ⟨g, o, cs, t, h3, hk _ _ _ h4, h5⟩
theorem LV.below {v : Value} (h : LV E w v L) (k : Below w.heap.size w w') : LV E w' v L := h.keep fun _ _ _ q => q.below k
theorem LV.at {a : Option Addr} {n c : Nat} (h : LV E w (.slice a n c) L) {i : Nat} {x : α} (hx : L[i]? = some x) : ∃ g o, a = some ⟨g, o, none⟩ ∧ ∀ j, j < E.m → w.cell? ⟨g, o + i * E.m + j, none⟩ = (E.enc x)[j]? := by
  obtain ⟨a', c', h1, _, h2⟩ := h
  simp only [Value.slice.injEq] at h1
  obtain ⟨rfl, -, -⟩ := h1
  obtain ⟨g, o, cs, t, rfl, h4, h5⟩ := h2 (by have := (List.getElem?_eq_some_iff.1 hx).1; omega)
  refine ⟨g, o, rfl, fun j hj => ?_⟩
  rw [h4.cell]
  have e := cells_get E hx hj
  obtain ⟨u, hu⟩ : ∃ u, (E.enc x)[j]? = some u := ⟨_, List.getElem?_eq_getElem (by rw [E.len]; exact hj)⟩
  rw [hu] at e ⊢
  rw [Nat.add_assoc]
  exact h5 _ u e
theorem LV.nil (E : Ety α) (w : World) (a : Option Addr) (c : Nat) : LV E w (.slice a 0 c) [] := ⟨a, c, rfl, Nat.zero_le _, fun h => by simp at h⟩
/-- What an append onto an empty literal leaves: nothing, or a row of its own from the block B on. -/
def RU (E : Ety α) (B : Nat) (w : World) (u : Value) (L : List α) : Prop := (L = [] ∧ ∃ b : Addr, u = .slice (some b) 0 0 ∧ B ≤ b.block ∧ b.block < w.heap.size) ∨ (L ≠ [] ∧ w.ownsRow B E.tE E.m u L.length (E.cells L))
theorem RU.keep {B : Nat} {u : Value} (h : RU E B w u L) (hs : w.heap.size ≤ w'.heap.size) (hk : ∀ k, B ≤ k → k < w.heap.size → w'.heap[k]? = w.heap[k]?) : RU E B w' u L := by
  rcases h with ⟨h0, b, h1, h2, h3⟩ | ⟨h0, h1, h2⟩
  · exact .inl ⟨h0, b, h1, h2, Nat.lt_of_lt_of_le h3 hs⟩
  · refine .inr ⟨h0, h1, ?_⟩
    rcases h2 with h2 | ⟨g, cap, cur, rfl, h3, h4, h5⟩
    · exact .inl h2
    · exact .inr ⟨g, cap, cur, rfl, h3, (hk g h3 (Array.getElem?_eq_some_iff.1 h4).1).trans h4, h5⟩
theorem RU.below {B : Nat} {u : Value} (h : RU E B w u L) (k : Below w.heap.size w w') : RU E B w' u L := h.keep k.size fun b _ hb => k.block b hb
theorem RU.at {B k : Nat} {u : Value} (h : RU E B w u L) (hk : u.ownBlock = some k) : B ≤ k ∧ k < w.heap.size := by
  rcases h with ⟨_, b, rfl, h2, h3⟩ | ⟨_, _, h2⟩
  · cases hk; exact ⟨h2, h3⟩
  · rcases h2 with ⟨rfl, _⟩ | ⟨g, cap, cur, rfl, h3, h4, _⟩
    · cases hk
    · cases hk; exact ⟨h3, (Array.getElem?_eq_some_iff.1 h4).1⟩
theorem RU.read {B : Nat} {u : Value} (h : RU E B w u L) : LV E w u L := by
  rcases h with ⟨rfl, b, rfl, h2, h3⟩ | ⟨h0, h1, h2⟩
  · exact ⟨some b, 0, rfl, Nat.le_refl _, fun h => absurd h (by simp)⟩
  · rcases h2 with ⟨rfl, hn⟩ | ⟨g, cap, cur, rfl, _, h3, h4, h5, h6, h7⟩
    · exact absurd (List.length_pos_iff.2 h0) (by omega)
    · refine ⟨_, cap, rfl, h4, fun _ => ⟨g, 0, cur.toList, _, rfl, ⟨_, h3⟩, fun j u hu => ?_⟩⟩
      have hj := (List.getElem?_eq_some_iff.1 hu).1
      rw [cells_len] at hj
      rw [← h7, List.getElem?_take, if_pos (by omega)] at hu
      rw [Nat.zero_add]
      exact hu
theorem news_of {g o : Nat} {t : TypeId} {cs : List Value} (hb : Blw w g cs t) (h : ∀ (j : Nat) (u : Value), (E.cells L)[j]? = some u → cs[o + j]? = some u) : ∀ j u, (E.cells L)[j]? = some u → w.cell? ((⟨g, o, none⟩ : Addr).add j) = some u := fun j u hu => by
  rw [show (⟨g, o, none⟩ : Addr).add j = ⟨g, o + j, none⟩ by unfold Addr.add; split <;> simp_all, hb.cell]
  exact h j u hu
theorem run_app {B : Nat} {u lv : Value} (hU : RU E B w u L) (hV : LV E w lv L') (hfew : L.length + L'.length ≤ 100000) (hB : B ≤ w.heap.size) : ∃ u' w', (Builtin.append_ #[E.tS, E.tS] E.tS #[u, lv]).run Try.prog w = .ok u' w' ∧ RU E B w' u' (L ++ L') ∧ w.grownBy w' u.ownBlock := by
  obtain ⟨a, c, rfl, _, hat⟩ := hV
  obtain ⟨i, hi, hzz⟩ := Option.map_eq_some_iff.1 E.info
  simp only [Prod.mk.injEq] at hzz
  obtain ⟨hz, hs, hb⟩ := hzz
  have h32 := E.by32
  have hby : (L.length + L'.length) * E.bytes ≤ 140737488355328 := Nat.le_trans (Nat.mul_le_mul hfew h32) (by decide)
  by_cases h0 : L' = []
  · subst h0
    rw [List.append_nil]
    have hsrc : Src Try.prog i.size E.tS (.slice a 0 c) 0 [] w := by
      cases a with
      | none => exact Src.ofNil w E.und c
      | some a => exact Src.ofSlice w E.und a 0 c [] (by simp) (by simp) (by simp)
    have hform : ∃ b n k, u = .slice b n k ∧ n ≤ k := by
      rcases hU with ⟨_, b, rfl, _, _⟩ | ⟨_, _, h2⟩
      · exact ⟨_, _, _, rfl, Nat.le_refl _⟩
      · rcases h2 with ⟨rfl, hn⟩ | ⟨g, cap, cur, rfl, _, _, h4, _⟩
        · exact ⟨_, _, _, rfl, Nat.le_refl _⟩
        · exact ⟨_, _, _, rfl, h4⟩
    obtain ⟨b, n, k, rfl, hnk⟩ := hform
    exact ⟨_, w, run_append_nothing w E.tS E.tS E.tS E.tE i E.und hi b n k hnk _ hsrc, hU, ⟨rfl, rfl, rfl, Nat.le_refl _, fun _ _ _ => rfl⟩⟩
  · have hpos : 0 < L'.length := List.length_pos_iff.2 h0
    obtain ⟨g, o, cs, t, rfl, hbk, hta⟩ := hat hpos
    have hne : L ++ L' ≠ [] := by simp [h0]
    rcases hU with ⟨rfl, b, rfl, _, _⟩ | ⟨h1, hown⟩
    · obtain ⟨v', w', h1, h2, h3⟩ := run_append_arg_grows (P := Try.prog) w E.tS E.tS E.tE i E.z E.m E.bytes E.und hi hz hs hb E.zs E.pos b 0 0 [] (by simp) (by simp) ⟨g, o, none⟩ L'.length c (E.cells L') (cells_len E L') (news_of hbk hta) (by omega) (by unfold maxLen; omega) (by simpa using hby)
      refine ⟨v', w', h1, .inr ⟨hne, ?_⟩, ⟨h3.os, h3.tape, h3.output, h3.size, fun k hk _ => h3.block k hk (by simp)⟩⟩
      rw [Nat.zero_add, List.nil_append] at h2
      exact ⟨h2.1, h2.2.imp id fun ⟨g', cap, cur, q1, q2, q3⟩ => ⟨g', cap, cur, q1, Nat.le_trans hB q2, q3⟩⟩
    · obtain ⟨g', cap, w', q1, q2, q3, q4, q5⟩ := run_append_lies (P := Try.prog) w E.tS E.tS B E.tE i E.z E.m E.bytes E.und hi hz hs hb E.zs E.pos u L.length (E.cells L) hown ⟨g, o, none⟩ L'.length c (E.cells L') (cells_len E L') (news_of hbk hta) (cells_one E L') hpos (by unfold maxLen; omega) hby hB _ rfl
      refine ⟨_, w', q1, .inr ⟨hne, ?_⟩, q3⟩
      rw [List.length_append, cells_app]
      exact q2
theorem grown_below {B : Nat} {u : Value} (hU : RU E B w u L) (h : w.grownBy w' u.ownBlock) (hB : B ≤ w.heap.size) : Below B w w' :=
  ⟨h.os, h.tape, h.output, h.size, fun k hk => h.block k (by omega) fun e => by have := (hU.at e.symm).1; omega⟩
theorem LV.take {a : Option Addr} {n c : Nat} (h : LV E w (.slice a n c) L) {k : Nat} (hk : k ≤ L.length) (c' : Nat) (hc' : k ≤ c') : LV E w (.slice a k c') (L.take k) := by
  obtain ⟨a', c0, hv, _, hc⟩ := h
  simp only [Value.slice.injEq] at hv
  obtain ⟨rfl, -, rfl⟩ := hv
  have hl : (L.take k).length = k := by simp; omega
  refine ⟨a, c', by rw [hl], by rw [hl]; exact hc', fun h0 => ?_⟩
  obtain ⟨g, o, cs, t, rfl, hg, hcc⟩ := hc (by omega)
  refine ⟨g, o, cs, t, rfl, hg, fun j u hu => hcc j u ?_⟩
  have hj := (List.getElem?_eq_some_iff.1 hu).1
  rw [← List.take_append_drop k L, cells_app, List.getElem?_append_left hj]
  exact hu
theorem LV.drop {a : Option Addr} {n c : Nat} (h : LV E w (.slice a n c) L) {k : Nat} (hk : k < L.length) (c' : Nat) (hc' : L.length - k ≤ c') : ∃ g o, a = some ⟨g, o, none⟩ ∧ LV E w (.slice (some ⟨g, o + k * E.m, none⟩) (L.length - k) c') (L.drop k) := by
  obtain ⟨a', c0, hv, _, hc⟩ := h
  simp only [Value.slice.injEq] at hv
  obtain ⟨rfl, -, rfl⟩ := hv
  obtain ⟨g, o, cs, t, rfl, hg, hcc⟩ := hc (by omega)
  refine ⟨g, o, rfl, _, c', by rw [List.length_drop], by rw [List.length_drop]; exact hc', fun _ => ⟨g, o + k * E.m, cs, t, rfl, hg, fun j u hu => ?_⟩⟩
  rw [Nat.add_assoc]
  refine hcc _ u ?_
  have hl : (E.cells (L.take k)).length = k * E.m := by rw [cells_len, List.length_take, Nat.min_eq_left (by omega)]
  rw [← List.take_append_drop k L, cells_app, List.getElem?_append_right (by omega), hl]
  simpa using hu
theorem LV.cap {a : Option Addr} {n c : Nat} (h : LV E w (.slice a n c) L) : n = L.length ∧ L.length ≤ c := by
  obtain ⟨a', c0, hv, h1, _⟩ := h
  simp only [Value.slice.injEq] at hv
  obtain ⟨-, rfl, rfl⟩ := hv
  exact ⟨rfl, h1⟩
theorem LV.sliced {a : Option Addr} {n c : Nat} (h : LV E w (.slice a n c) L) {k : Nat} (hk : k ≤ n) : LV E w (.slice (if c = k then a else Option.map (fun x => x.add (k * E.m)) a) (n - k) (c - k)) (L.drop k) := by
  obtain ⟨rfl, hcap⟩ := h.cap
  by_cases hkn : k < L.length
  · obtain ⟨g, o, rfl, h2⟩ := h.drop hkn (c - k) (by omega)
    rw [if_neg (by omega), Option.map_some, Addr.add_mid]
    exact h2
  · refine ⟨_, _, by rw [List.length_drop], by rw [List.length_drop]; omega, fun h0 => ?_⟩
    rw [List.length_drop] at h0
    omega
theorem lv_blk (E : Ety α) {g : Nat} {t : TypeId} {L : List α} (h : Blk w g (E.cells L) t) (c : Nat) (hc : L.length ≤ c) : LV E w (.slice (some ⟨g, 0, none⟩) L.length c) L := ⟨_, c, rfl, hc, fun _ => ⟨g, 0, _, _, rfl, h.blw, fun j u hu => by rw [Nat.zero_add]; exact hu⟩⟩
theorem wpList_append_ex {P : Program} {ops : Array Oper} {rest : List Oper} {o : Oper} {a : Act} {w : World} {Q : Exit → Act → World → Prop} (hgd : o.guard = none) (s x : Operand) (t : TypeId)
    (ho : o.op = .call { callee := .builtin .append, args := #[s, x], argTypes := #[t, t] }) (v y : Value) (hs : a.eval s = v) (hx : a.eval x = y) {R : Value → World → Prop} (hrun : ∃ u w', (Builtin.append_ #[t, t] o.type #[v, y]).run P w = .ok u w' ∧ R u w')
    (h : ∀ u w', R u w' → wpList P ops Q rest (a.put o.dst u) w') : wpList P ops Q (o :: rest) a w := by
  refine wpList_plain hgd fun K hK => ?_
  obtain ⟨u, w', h1, h2⟩ := hrun
  unfold Oper.wp execOp
  simp only [ho, resolve, invoke, builtin, Sem.run_bind, Sem.run_pure, Result.andThen_ok, List.map_toArray, List.map_cons, List.map_nil, hs, hx, h1]
  exact hK _ _ (h u w' h2)
/-- A row of one's own, from the block B on. -/
def RW (E : Ety α) (B : Nat) (w : World) (u : Value) (L : List α) : Prop := w.ownsRow B E.tE E.m u L.length (E.cells L)
theorem RW.nil (E : Ety α) (B : Nat) (w : World) : RW E B w (.slice none 0 0) [] := ⟨by simp [Ety.cells], .inl ⟨rfl, rfl⟩⟩
theorem RW.form {B : Nat} {u : Value} (h : RW E B w u L) : ∃ a c, u = .slice a L.length c ∧ L.length ≤ c := by
  rcases h.2 with ⟨rfl, hn⟩ | ⟨g, cap, cur, rfl, _, _, h4, _⟩
  · exact ⟨none, 0, by rw [hn], by omega⟩
  · exact ⟨_, _, rfl, h4⟩
theorem RW.read {B : Nat} {u : Value} (h : RW E B w u L) : LV E w u L := by
  rcases h.2 with ⟨rfl, hn⟩ | ⟨g, cap, cur, rfl, _, h3, h4, h5, h6, h7⟩
  · exact ⟨none, 0, by rw [hn], by omega, fun h => by omega⟩
  · refine ⟨_, cap, rfl, h4, fun _ => ⟨g, 0, cur.toList, _, rfl, ⟨_, h3⟩, fun j u hu => ?_⟩⟩
    have hj := (List.getElem?_eq_some_iff.1 hu).1
    rw [cells_len] at hj
    rw [← h7, List.getElem?_take, if_pos (by omega)] at hu
    rw [Nat.zero_add]
    exact hu
theorem RW.at {B k : Nat} {u : Value} (h : RW E B w u L) (hk : u.ownBlock = some k) : B ≤ k ∧ k < w.heap.size := by
  rcases h.2 with ⟨rfl, _⟩ | ⟨g, cap, cur, rfl, h3, h4, _⟩
  · cases hk
  · cases hk; exact ⟨h3, (Array.getElem?_eq_some_iff.1 h4).1⟩
theorem rw_app {B : Nat} {u lv : Value} (hU : RW E B w u L) (hV : LV E w lv L') (hfew : L.length + L'.length ≤ 100000) (hB : B ≤ w.heap.size) : ∃ u' w', (Builtin.append_ #[E.tS, E.tS] E.tS #[u, lv]).run Try.prog w = .ok u' w' ∧ RW E B w' u' (L ++ L') ∧ Below B w w' := by
  obtain ⟨a, c, rfl, _, hat⟩ := hV
  obtain ⟨i, hi, hzz⟩ := Option.map_eq_some_iff.1 E.info
  simp only [Prod.mk.injEq] at hzz
  obtain ⟨hz, hs, hb⟩ := hzz
  have h32 := E.by32
  have hby : (L.length + L'.length) * E.bytes ≤ 140737488355328 := Nat.le_trans (Nat.mul_le_mul hfew h32) (by decide)
  by_cases h0 : L' = []
  · subst h0
    rw [List.append_nil]
    have hsrc : Src Try.prog i.size E.tS (.slice a 0 c) 0 [] w := by
      cases a with
      | none => exact Src.ofNil w E.und c
      | some a => exact Src.ofSlice w E.und a 0 c [] (by simp) (by simp) (by simp)
    obtain ⟨b, k, rfl, hnk⟩ := hU.form
    exact ⟨_, w, run_append_nothing w E.tS E.tS E.tS E.tE i E.und hi b _ k hnk _ hsrc, hU, Below.refl _ _⟩
  · have hpos : 0 < L'.length := List.length_pos_iff.2 h0
    obtain ⟨g, o, cs, t, rfl, hbk, hta⟩ := hat hpos
    obtain ⟨g', cap, w', q1, q2, q3, q4, q5⟩ := run_append_lies (P := Try.prog) w E.tS E.tS B E.tE i E.z E.m E.bytes E.und hi hz hs hb E.zs E.pos u L.length (E.cells L) hU ⟨g, o, none⟩ L'.length c (E.cells L') (cells_len E L') (news_of hbk hta) (cells_one E L') hpos (by unfold maxLen; omega) hby hB _ rfl
    refine ⟨_, w', q1, ?_, ⟨q3.os, q3.tape, q3.output, q3.size, fun k hk => q3.block k (by omega) fun e => by have := (hU.at e.symm).1; omega⟩⟩
    unfold RW
    rw [List.length_append, cells_app]
    exact q2
attribute [local go_sem] Oper.semAt_some
theorem wpListIn_append_ex {F : Fence} {n : Nat} {P : Program} {ops : Array Oper} {rest : List Oper} {o : Oper} {a : Act} {w : World} {Q : Exit → Act → World → Prop} (hgd : o.guard = none) (s x : Operand) (t : TypeId)
    (ho : o.op = .call { callee := .builtin .append, args := #[s, x], argTypes := #[t, t] }) (v y : Value) (hs : a.eval s = v) (hx : a.eval x = y) {R : Value → World → Prop} (hrun : ∃ u w', (Builtin.append_ #[t, t] o.type #[v, y]).run P w = .ok u w' ∧ R u w')
    (h : ∀ u w', R u w' → wpListIn F n P ops Q rest (a.put o.dst u) w') : wpListIn F n P ops Q (o :: rest) a w := by
  refine wpListIn_plain hgd fun K hK' => ?_
  obtain ⟨u, w', h1, h2⟩ := hrun
  unfold Oper.wpIn
  refine ⟨?_, ?_⟩
  · simp [Oper.about, ho, resolve, Target.leads, Sem.run_pure]
  · rw [Oper.semAt_plain F _ _ (by rw [ho]; intro c hc'; cases hc')]
    simp only [execOp, ho, resolve, invoke, builtin, Sem.run_bind, Sem.run_pure, Result.andThen_ok, List.map_toArray, List.map_cons, List.map_nil, hs, hx, h1]
    exact hK' _ _ (h u w' h2)
theorem step_append_run {P : Program} {ops : Array Oper} {o : Oper} {a : Act} {w : World} {K : Act → World → Prop} {Q : Exit → Act → World → Prop} {E : Prop} (hgd : o.guard = none) (s x : Operand) (t : TypeId)
    (ho : o.op = .call { callee := .builtin .append, args := #[s, x], argTypes := #[t, t] }) (v y : Value) (hs : a.eval s = v) (hx : a.eval x = y) (u : Value) (w' : World) (hrun : (Builtin.append_ #[t, t] o.type #[v, y]).run P w = .ok u w')
    (h : K (a.put o.dst u) w') : if Region.wanted o (yielded ops a.tmps) = true then Oper.wp P o a w K Q else E := by
  have hw : Region.wanted o (yielded ops a.tmps) = true := by simp [Region.wanted, hgd]
  rw [if_pos hw]
  unfold Oper.wp execOp
  simp only [ho, resolve, invoke, builtin, Sem.run_bind, Sem.run_pure, Result.andThen_ok, List.map_toArray, List.map_cons, List.map_nil, hs, hx, hrun]
  exact h
theorem wpList_buildSlice1 {P : Program} {ops : Array Oper} {rest : List Oper} {o : Oper} {a : Act} {w : World} {Q : Exit → Act → World → Prop} (hgd : o.guard = none) (t e : TypeId) (x : Operand) (ho : o.op = .buildSlice t 1 #[(0, x)])
    (cs : List Value) (hx : a.eval x = .agg cs.toArray) (z : Value) (hu : P.underlying t = some (.slice e)) (hi : (P.info? e).map (fun i => (i.zero, i.size)) = some (some z, cs.length)) (hz : z.cells.size = cs.length) (h24 : cs.length ≤ 1000) (hpos : 0 < cs.length)
    (h : ∀ w', w' = w.alloc (.cells cs.toArray e) → wpList P ops Q rest (a.put o.dst (.slice (some ⟨w.heap.size, 0, none⟩) 1 1)) w') : wpList P ops Q (o :: rest) a w := by
  refine wpList_plain hgd fun K hK => ?_
  have := step_buildSlice1 (P := P) (ops := ops) (K := K) (Q := Q) (E := True) (w := w) (a := a) hgd o.dst rfl t e x ho cs hx z hu hi hz h24 hpos (hK _ _ (h _ rfl))
  rw [if_pos (by simp [Region.wanted, hgd])] at this
  exact this
theorem RW.keep {B : Nat} {u : Value} (h : RW E B w u L) (hk : ∀ k, u.ownBlock = some k → w'.heap[k]? = w.heap[k]?) : RW E B w' u L := by
  obtain ⟨h1, h2 | ⟨g, cap, cur, rfl, h3, h4, h5⟩⟩ := h
  · exact ⟨h1, .inl h2⟩
  · exact ⟨h1, .inr ⟨g, cap, cur, rfl, h3, (hk g rfl).trans h4, h5⟩⟩
theorem RW.below {B : Nat} {u : Value} (h : RW E B w u L) (k : Below w.heap.size w w') : RW E B w' u L := h.keep fun g hg => k.block g (h.at hg).2
end Go.Proofs.Ytnganmekiloigaa
