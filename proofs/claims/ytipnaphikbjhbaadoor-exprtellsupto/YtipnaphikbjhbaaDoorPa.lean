/- The document's parser, by plain data. · The document's parser: look, bad, wrong, is, must. · The document's parser: bad, wrong, is, must. · The document's parser: name, literal, end. · The document's parser: literal, end, of. · The parts of a condition: add. · The document's parser beside its parts; end. · A condition, read: what is wrong, too deep, not. · A condition, read: not. -/
import Derived.Test.YtipnaphikbjhbaaDoorLr4
import Derived.Test.YtipnaphikbjhbaaDoorLc
import Derived.Test.YtipnaphikbjhbaaDoorName2
import Derived.Test.YtipnaphikbjhbaaDoorXa
/-! ### The document's parser, by plain data. -/
namespace Go.Proofs.YtipnaphikbjhbaaDoor
open Go.RowKit
set_option maxRecDepth 100000
/-- How far a parser is: tokens read, the error, and its place. -/
structure Ps where
  n : Nat
  e : Nat
  pl : Nat
def Ps.up (s : Ps) : Ps := ⟨s.n + 1, s.e, s.pl⟩
def Ps.bad (s : Ps) (e a : Nat) : Ps := if s.e = 0 then ⟨s.n, e, a⟩ else s
/-- A part of a condition: kind, column, comparison, value, kids. -/
structure Cd where
  k : Nat
  col : Bs
  op : Nat
  vk : Nat
  vn : Int
  vt : Bs
  kids : List Int
section
variable (L : List Tk) (g : Nat)
/-- The next token. -/
def lkP (s : Ps) : Tk := (L[s.n]?).getD ⟨0, [], 0, g⟩
def wrP (s : Ps) : Ps := s.bad 8 (lkP L g s).a
def hitP (k : Nat) (t : Bs) (s : Ps) : Bool := decide (s.e = 0) && (decide ((lkP L g s).k = k) && decide ((lkP L g s).t = t))
def isP (k : Nat) (t : Bs) (s : Ps) : Ps := if hitP L g k t s then s.up else s
def musP (k : Nat) (t : Bs) (s : Ps) : Ps := if s.e = 0 then (if hitP L g k t s then s.up else wrP L g s) else s
def nmOk (s : Ps) : Bool := decide (s.e = 0) && (decide ((lkP L g s).k = 1) && nameR (lkP L g s).t)
def nmV (s : Ps) : Bs := if nmOk L g s then (lkP L g s).t else []
def nmP (s : Ps) : Ps := if nmOk L g s then s.up else wrP L g s
/-- A literal: kind, number, text; and behind it. -/
def litV (s : Ps) : Nat × Int × Bs := if s.e = 0 ∧ (lkP L g s).k = 2 then (1, (lkP L g s).n, []) else if s.e = 0 ∧ (lkP L g s).k = 3 then (2, 0, (lkP L g s).t) else (0, 0, [])
def litP (s : Ps) : Ps := if s.e = 0 ∧ ((lkP L g s).k = 2 ∨ (lkP L g s).k = 3) then s.up else wrP L g s
/-- Comparisons, as they are written. -/
def opsL : List Bs := [[61], [60, 62], [60], [60, 61], [62], [62, 61]]
def opF : List Bs → Nat → Nat × Ps → Nat × Ps
  | [], _, x => x
  | t :: ts, i, x => opF ts (i + 1) (if x.1 = 0 ∧ hitP L g 4 t x.2 = true then (i, x.2.up) else x)
def opP (s : Ps) : Nat × Ps := opF L g opsL 1 (0, s)
/-- A comparison. -/
def cmpC (s : Ps) (c : List Cd) : Nat × Ps × List Cd :=
  let o := opP L g (nmP L g s)
  let s2 := if o.1 = 0 then wrP L g o.2 else o.2
  let v := litV L g s2
  (c.length, litP L g s2, c ++ [⟨1, nmV L g s, o.1, v.1, v.2.1, v.2.2, []⟩])
/-- A condition, as deep as it may yet be: the place of its part, behind it, all parts. -/
def condP : Nat → Ps → List Cd → Nat × Ps × List Cd
  | 0, s, c => if s.e ≠ 0 ∨ (lkP L g s).k = 0 then (0, wrP L g s, c) else (0, s.bad 16 (lkP L g s).a, c)
  | f + 1, s, c =>
    if s.e ≠ 0 ∨ (lkP L g s).k = 0 then (0, wrP L g s, c)
    else if hitP L g 1 [110, 111, 116] s then
      let r := condP f s.up c
      (r.2.2.length, r.2.1, r.2.2 ++ [⟨4, [], 0, 0, 0, [], [(r.1 : Int)]⟩])
    else if hitP L g 4 [40] s then
      let r := condP f s.up c
      let an := hitP L g 1 [97, 110, 100] r.2.1
      let q := condP f (if an then r.2.1.up else musP L g 1 [111, 114] r.2.1) r.2.2
      (q.2.2.length, musP L g 4 [41] q.2.1, q.2.2 ++ [⟨if an then 2 else 3, [], 0, 0, 0, [], [(r.1 : Int), (q.1 : Int)]⟩])
    else cmpC L g s c
end
/-- What the parser at p has: its cells, and the tokens. -/
structure PT (w : World) (p : Nat) (a : Option Addr) (c : Nat) (L : List Tk) (g : Nat) (s : Ps) : Prop where
  blk : T.Blk w p [.slice a L.length c, .int .i64 (s.n : Int), .int .i64 (g : Int), .int .i64 (s.e : Int), .int .i64 (s.pl : Int)] 83
  tok : ∀ (i : Nat) (x : Tk), L[i]? = some x → ∃ b, a = some ⟨b, 0, none⟩ ∧ b ≠ p ∧ b < w.heap.size ∧ TkAt w b i x
  n : s.n ≤ L.length
  few : L.length ≤ 100
  g : g ≤ 400
variable {w w' : World} {p c g : Nat} {a : Option Addr} {L : List Tk} {s s' : Ps}
theorem PT.keep {F : Nat → Prop} (h : PT w p a c L g s) (k : T.Keep F w w') (hp : ¬ F p) (hb : 0 < L.length → ∀ b, a = some ⟨b, 0, none⟩ → ¬ F b) : PT w' p a c L g s := by
  refine ⟨h.blk.block (k.block p h.blk.lt hp), fun i x hx => ?_, h.n, h.few, h.g⟩
  obtain ⟨b, e, h1, h2, h3, h4, h5, h6⟩ := h.tok i x hx
  have e0 := k.block b h2 (hb (by have := (List.getElem?_eq_some_iff.1 hx).1; omega) b e)
  have q : ∀ j, w'.cell? ⟨b, j, none⟩ = w.cell? ⟨b, j, none⟩ := fun j => World.cell?_of_block (a := ⟨b, j, none⟩) e0
  exact ⟨b, e, h1, Nat.lt_of_lt_of_le h2 k.size, (q _).trans h3, (q _).trans h4, (q _).trans h5, (q _).trans h6⟩
theorem PT.below (h : PT w p a c L g s) (k : Below w.heap.size w w') : PT w' p a c L g s := h.keep (F := fun _ => False) (T.Keep.of k) (fun h => h) (fun _ _ _ h => h)
/-- A cell of the parser is turned. -/
theorem PT.turn {o : Nat} {v : Value} (h : PT w p a c L g s) (hn : s'.n ≤ L.length) (e : [Value.slice a L.length c, .int .i64 (s.n : Int), .int .i64 (g : Int), .int .i64 (s.e : Int), .int .i64 (s.pl : Int)].set o v = [Value.slice a L.length c, .int .i64 (s'.n : Int), .int .i64 (g : Int), .int .i64 (s'.e : Int), .int .i64 (s'.pl : Int)]) :
    PT (w.setCell ⟨p, o, none⟩ v) p a c L g s' := by
  have hb := h.blk.set (o := o) v
  rw [e] at hb
  refine ⟨hb, fun i x hx => ?_, hn, h.few, h.g⟩
  obtain ⟨b, e, h1, h2, h3, h4, h5, h6⟩ := h.tok i x hx
  have q : ∀ j, (w.setCell ⟨p, o, none⟩ v).cell? ⟨b, j, none⟩ = w.cell? ⟨b, j, none⟩ := fun j => World.cell?_of_block (a := ⟨b, j, none⟩) (Below.heap_setCell _ _ _ _ h1)
  exact ⟨b, e, h1, by simpa [World.setCell] using h2, (q _).trans h3, (q _).trans h4, (q _).trans h5, (q _).trans h6⟩
end Go.Proofs.YtipnaphikbjhbaaDoor
/-! ### The document's parser: look, bad, wrong, is, must. -/
namespace Go.Proofs.YtipnaphikbjhbaaDoor
open Go.RowKit
set_option maxRecDepth 100000
variable {w w' : World} {p c g : Nat} {a : Option Addr} {L : List Tk} {s s' : Ps}
theorem belN {B : Nat} {a w : World} (h : Below B a w) (n : Nat) : Below B a (w.drewN n) := h.trans ⟨rfl, rfl, rfl, Nat.le_refl _, fun _ _ => rfl⟩
/-- A token as a value. -/
abbrev tkV (x : Tk) : Value := .agg #[.int .u8 (x.k : Int), .string (str x.t), .int .i64 x.n, .int .i64 (x.a : Int)]
set_option maxHeartbeats 1000000 in
theorem look44 (h : PT w p a c L g s) : Calls Tryd.prog 44 #[.pointer (some ⟨p, 0, none⟩)] w fun e w' => e = .returned (tkV (lkP L g s)) ∧ Below w.heap.size w w' := by
  have c0 := h.blk.cell 0
  have c1 := h.blk.cell 1
  have c2 := h.blk.cell 2
  simp only [List.getElem?_cons_zero, List.getElem?_cons_succ] at c0 c1 c2
  have hpl := h.blk.lt
  have hfew := h.few
  have hn := h.n
  by_cases hlt : s.n < L.length
  · obtain ⟨x, hx⟩ : ∃ x, L[s.n]? = some x := ⟨_, List.getElem?_eq_getElem hlt⟩
    have hlk : lkP L g s = x := by unfold lkP; rw [hx]; rfl
    obtain ⟨b, rfl, hb1, hb2, t0, t1, t2, t3⟩ := h.tok _ _ hx
    rw [hlk]
    have h1 : ¬ (L.length : Int) ≤ (s.n : Int) := by omega
    have h2 : (s.n : Int) < (L.length : Int) := by omega
    have h3 : (0 : Int) ≤ (s.n : Int) := by omega
    clear h hx hlk hn
    generalize L.length = ln at *
    generalize s.n = sn at *
    generalize s.e = se at *
    go_enter Tryd.func44, Tryd.ntmps44
    go_wp2_with fail
    go_quiet (fail)
    go_wp2_with fail
    go_region
    all_goals go_wp2_with fail
    exact bodyPost_ret (v := tkV x) (by simp [results, Tryd.results44, go_sem]) rfl ⟨rfl, by (repeat (first | exact Below.refl _ _ | refine Below.drew ?_ | refine belN ?_ _ | refine T.bset ?_ (by simp) _ | refine T.bal ?_ _))⟩
  · have hlk : lkP L g s = ⟨0, [], 0, g⟩ := by unfold lkP; rw [List.getElem?_eq_none (by omega)]; rfl
    rw [hlk]
    have h1 : (L.length : Int) ≤ (s.n : Int) := by omega
    clear h hlk hn
    generalize L.length = ln at *
    generalize s.n = sn at *
    generalize s.e = se at *
    go_enter Tryd.func44, Tryd.ntmps44
    go_wp2_with fail
    go_quiet (fail)
    go_wp2_with fail
    exact bodyPost_ret (v := .agg #[.int .u8 0, .string ⟨#[]⟩, .int .i64 0, .int .i64 (g : Int)]) (by simp [results, Tryd.results44, go_sem]) rfl ⟨rfl, by (repeat (first | exact Below.refl _ _ | refine Below.drew ?_ | refine belN ?_ _ | refine T.bset ?_ (by simp) _ | refine T.bal ?_ _))⟩
end Go.Proofs.YtipnaphikbjhbaaDoor
/-! ### The document's parser: bad, wrong, is, must. -/
namespace Go.Proofs.YtipnaphikbjhbaaDoor
open Go.RowKit
set_option maxRecDepth 100000
variable {w w' w1 : World} {p c g : Nat} {a : Option Addr} {L : List Tk} {s s' : Ps}
/-- What a deed of the parser leaves. -/
structure PD (w : World) (p : Nat) (a : Option Addr) (c : Nat) (L : List Tk) (g : Nat) (s : Ps) (w' : World) : Prop where
  pt : PT w' p a c L g s
  kp : T.Keep (fun b => b = p) w w'
theorem PD.same (h : PT w p a c L g s) (k : Below w.heap.size w w') : PD w p a c L g s w' := ⟨h.below k, T.Keep.of k⟩
theorem PD.pre (k : Below w.heap.size w w1) (h : PD w1 p a c L g s w') : PD w p a c L g s w' := ⟨h.pt, (T.Keep.of (F := fun b => b = p) k).trans h.kp (fun _ _ e => e)⟩
theorem PD.more (h : PD w p a c L g s w1) (k : Below w1.heap.size w1 w') : PD w p a c L g s w' := ⟨h.pt.below k, h.kp.trans (T.Keep.of (F := fun b => b = p) k) (fun _ _ e => e)⟩
theorem PD.and (h : PD w p a c L g s w1) (k : PD w1 p a c L g s' w') : PD w p a c L g s' w' := ⟨k.pt, h.kp.trans k.kp (fun _ _ e => e)⟩
theorem PD.put {o : Nat} {v : Value} (h : PD w p a c L g s w1) (hn : s'.n ≤ L.length) (e : [Value.slice a L.length c, .int .i64 (s.n : Int), .int .i64 (g : Int), .int .i64 (s.e : Int), .int .i64 (s.pl : Int)].set o v = [Value.slice a L.length c, .int .i64 (s'.n : Int), .int .i64 (g : Int), .int .i64 (s'.e : Int), .int .i64 (s'.pl : Int)]) :
    PD w p a c L g s' (w1.setCell ⟨p, o, none⟩ v) := ⟨h.pt.turn hn e, h.kp.set (.inr rfl) v⟩
theorem PT.cells (h : PT w p a c L g s) : w.cell? ⟨p, 1, none⟩ = some (.int .i64 (s.n : Int)) ∧ w.cell? ⟨p, 3, none⟩ = some (.int .i64 (s.e : Int)) ∧ w.cell? ⟨p, 4, none⟩ = some (.int .i64 (s.pl : Int)) ∧ w.frozen? ⟨p, 1, none⟩ = false ∧ w.frozen? ⟨p, 3, none⟩ = false ∧ w.frozen? ⟨p, 4, none⟩ = false := by
  have c1 := h.blk.cell 1
  have c3 := h.blk.cell 3
  have c4 := h.blk.cell 4
  exact ⟨c1, c3, c4, h.blk.frozen 1, h.blk.frozen 3, h.blk.frozen 4⟩
theorem bad46 (h : PT w p a c L g s) (er at' : Nat) : Calls Tryd.prog 46 #[.pointer (some ⟨p, 0, none⟩), .int .i64 (er : Int), .int .i64 (at' : Int)] w fun e w' => e = .returned (.tuple #[]) ∧ PD w p a c L g (s.bad er at') w' := by
  obtain ⟨c1, c3, c4, f1, f3, f4⟩ := h.cells
  have h4 : (w.setCell ⟨p, 3, none⟩ (.int .i64 (er : Int))).cell? ⟨p, 4, none⟩ = some (.int .i64 (s.pl : Int)) := (h.blk.set (o := 3) _).cell 4
  have g4 : (w.setCell ⟨p, 3, none⟩ (.int .i64 (er : Int))).frozen? ⟨p, 4, none⟩ = false := (h.blk.set (o := 3) (.int .i64 (er : Int))).frozen 4
  have hn := h.n
  by_cases he : s.e = 0
  · have H : Hid (PD w p a c L g (s.bad er at') ((w.setCell ⟨p, 3, none⟩ (.int .i64 (er : Int))).setCell ⟨p, 4, none⟩ (.int .i64 (at' : Int)))) := by
      have h0 : PD w p a c L g s w := ⟨h, T.Keep.refl _ _⟩
      have h1 : PD w p a c L g ⟨s.n, er, s.pl⟩ (w.setCell ⟨p, 3, none⟩ (.int .i64 (er : Int))) := h0.put hn rfl
      have h2 : PD w p a c L g ⟨s.n, er, at'⟩ ((w.setCell ⟨p, 3, none⟩ (.int .i64 (er : Int))).setCell ⟨p, 4, none⟩ (.int .i64 (at' : Int))) := h1.put hn rfl
      unfold Ps.bad
      rw [if_pos he]
      exact h2
    have e3 : w.cell? ⟨p, 3, none⟩ = some (.int .i64 0) := by rw [c3, he]; rfl
    clear c3 h c1 f1 hn he
    go_enter Tryd.func46, Tryd.ntmps46
    go_wp2
    go_end0
    exact ⟨rfl, H.out⟩
  · have H : Hid (PD w p a c L g (s.bad er at') w) := by
      unfold Ps.bad
      rw [if_neg he]
      exact ⟨h, T.Keep.refl _ _⟩
    have hb : ((s.e : Int) == 0) = false := by rw [beq_eq_false_iff_ne]; omega
    generalize s.e = se at *
    clear h c1 f1 hn
    go_enter Tryd.func46, Tryd.ntmps46
    go_wp2
    go_end0
    exact ⟨rfl, H.out⟩
theorem fld97 (x : Tk) (w : World) : (Instr.field 97 (tkV x) 3).run Tryd.prog w = .ok (.int .i64 (x.a : Int)) w := by kernel_rfl
theorem wrong45 (h : PT w p a c L g s) : Calls Tryd.prog 45 #[.pointer (some ⟨p, 0, none⟩)] w fun e w' => e = .returned (.tuple #[]) ∧ PD w p a c L g (wrP L g s) w' := by
  have k44 := look44 h
  have hfld := fld97 (lkP L g s)
  have H : Hid (PT w p a c L g s) := h
  have HW : Hid (wrP L g s = s.bad 8 (lkP L g s).a) := rfl
  clear h
  generalize lkP L g s = x at *
  go_enter Tryd.func45, Tryd.ntmps45
  go_wp2_with (first
    | (go_at_call 44; (refine k44.mono ?_; rintro e w1 ⟨rfl, B1⟩; have k46 : Calls Tryd.prog 46 #[.pointer (some ⟨p, 0, none⟩), .int .i64 8, .int .i64 (x.a : Int)] w1 _ := bad46 (H.out.below B1) 8 x.a))
    | (go_at_call 46; (refine k46.mono ?_; rintro e w2 ⟨rfl, h2⟩; have H2 : Hid (PD w p a c L g (wrP L g s) w2) := (by rw [HW.out]; exact PD.pre B1 h2); clear h2)))
  go_end0
  exact ⟨rfl, H2.out⟩
theorem str_ne {x : Bs} {q : ByteArray} (h : ¬ str x = q) : ((str x).toList != q.toList) = true := by
  rw [bne, ne_list h]; rfl
/-- A hit. -/
theorem hit_yes {k : Nat} {t : Bs} (h : hitP L g k t s = true) : s.e = 0 ∧ (lkP L g s).k = k ∧ (lkP L g s).t = t := by
  simpa [hitP] using h
theorem lk_lt (hk : (lkP L g s).k ≠ 0) : s.n + 1 ≤ L.length := by
  rcases Nat.lt_or_ge s.n L.length with h1 | h1
  · exact h1
  · exact absurd (by unfold lkP; rw [List.getElem?_eq_none h1]; rfl) hk
theorem is47_yes (h : PT w p a c L g s) {k : Nat} {t : Bs} {q : ByteArray} (hq : str t = q) (hk : k ≠ 0) (hh : hitP L g k t s = true) : Calls Tryd.prog 47 #[.pointer (some ⟨p, 0, none⟩), .int .u8 (k : Int), .string q] w fun e w' => e = .returned (.bool true) ∧ PD w p a c L g s.up w' := by
  obtain ⟨h1, h2, h3⟩ := hit_yes hh
  have hn1 := lk_lt (L := L) (g := g) (s := s) (by omega)
  have k44 := look44 h
  have HP : Hid (PT w p a c L g s) := h
  have hfew := h.few
  obtain ⟨x, hx⟩ : ∃ x, lkP L g s = x := ⟨_, rfl⟩
  rw [hx] at k44 h2 h3
  have HT : Hid (∀ W, Below w.heap.size w W → PD w p a c L g s.up (W.setCell ⟨p, 1, none⟩ (.int .i64 ((s.n : Int) + 1)))) := fun W k => PD.put (PD.same HP.out k) (s' := s.up) hn1 (by simp [Ps.up])
  have HC : Hid (∀ W, Below w.heap.size w W → W.cell? ⟨p, 1, none⟩ = some (.int .i64 (s.n : Int)) ∧ W.cell? ⟨p, 3, none⟩ = some (.int .i64 0) ∧ W.frozen? ⟨p, 1, none⟩ = false) := fun W k => by
    obtain ⟨c1, c3, c4, f1, f3, f4⟩ := (HP.out.below k).cells
    rw [h1] at c3
    exact ⟨c1, c3, f1⟩
  have hn100 : s.n ≤ 100 := by omega
  generalize s.n = sn at *
  have hstr : str x.t = q := by rw [h3, hq]
  obtain ⟨xk, xt, xn, xa⟩ := x
  simp only at h2 hstr k44
  subst h2
  subst hstr
  clear h hh hx h1 h3 hq hn1 hfew hk
  go_enter Tryd.func47, Tryd.ntmps47
  go_wp2_with (go_at_call 44; (refine k44.mono ?_; rintro e w1 ⟨rfl, B1⟩; obtain ⟨c1, c3, f1⟩ := HC.out _ (T.bal B1 (.cells #[.int .u8 (xk : Int), .string (str xt), .int .i64 xn, .int .i64 (xa : Int)] 97)); have HF : Hid (PD w p a c L g s.up ((w1.alloc (.cells #[.int .u8 (xk : Int), .string (str xt), .int .i64 xn, .int .i64 (xa : Int)] 97)).setCell ⟨p, 1, none⟩ (.int .i64 ((sn : Int) + 1)))) := HT.out _ (T.bal B1 _)))
  go_ret
  exact ⟨rfl, HF.out⟩
/-- The next token has no kind where there is none. -/
theorem is47_no (h : PT w p a c L g s) {k : Nat} {t : Bs} {q : ByteArray} (hq : str t = q) (hh : hitP L g k t s = false) : Calls Tryd.prog 47 #[.pointer (some ⟨p, 0, none⟩), .int .u8 (k : Int), .string q] w fun e w' => e = .returned (.bool false) ∧ Below w.heap.size w w' := by
  have k44 := look44 h
  have HC : Hid (∀ W, Below w.heap.size w W → W.cell? ⟨p, 3, none⟩ = some (.int .i64 (s.e : Int))) := fun W k => (h.below k).cells.2.1
  obtain ⟨x, hx⟩ : ∃ x, lkP L g s = x := ⟨_, rfl⟩
  unfold hitP at hh
  rw [hx] at k44 hh
  obtain ⟨xk, xt, xn, xa⟩ := x
  simp only at k44 hh
  clear hx h
  by_cases he : s.e = 0
  · rw [he] at HC
    by_cases hk : xk = k
    · have ht : ¬ xt = t := fun e => by simp [he, hk, e] at hh
      have hne : ¬ str xt = q := fun e => ht (by rw [← bs_str xt, e, ← hq, bs_str])
      have hs := str_ne hne
      have hs2 := ne_list hne
      have hs3 : ¬ xt = q.toList := by simpa using hs2
      have hs4 : (xt == q.toList) = false := beq_eq_false_iff_ne.2 hs3
      have hs5 : (!xt == q.toList) = true := by rw [hs4]; rfl
      subst hk
      clear hh hq ht hne he
      go_enter Tryd.func47, Tryd.ntmps47
      go_wp2_with (go_at_call 44; (refine k44.mono ?_; rintro e w1 ⟨rfl, B1⟩; have c3 := HC.out _ (T.bal B1 (.cells #[.int .u8 (xk : Int), .string (str xt), .int .i64 xn, .int .i64 (xa : Int)] 97)); have BF : Hid (Below w.heap.size w (w1.alloc (.cells #[.int .u8 (xk : Int), .string (str xt), .int .i64 xn, .int .i64 (xa : Int)] 97))) := T.bal B1 _))
      go_ret
      exact ⟨rfl, BF.out⟩
    · have hb : ((xk : Int) == (k : Int)) = false := by rw [beq_eq_false_iff_ne]; omega
      have hb2 : ((xk : Int) != (k : Int)) = true := by rw [bne, hb]; rfl
      have hb3 : (xk == k) = false := by rw [beq_eq_false_iff_ne]; exact hk
      have hb4 : (xk != k) = true := by rw [bne, hb3]; rfl
      have hb5 : ¬ (xk : Int) = (k : Int) := by omega
      clear hh hq he
      go_enter Tryd.func47, Tryd.ntmps47
      go_wp2_with (go_at_call 44; (refine k44.mono ?_; rintro e w1 ⟨rfl, B1⟩; have c3 := HC.out _ (T.bal B1 (.cells #[.int .u8 (xk : Int), .string (str xt), .int .i64 xn, .int .i64 (xa : Int)] 97)); have BF : Hid (Below w.heap.size w (w1.alloc (.cells #[.int .u8 (xk : Int), .string (str xt), .int .i64 xn, .int .i64 (xa : Int)] 97))) := T.bal B1 _))
      go_ret
      exact ⟨rfl, BF.out⟩
  · have hb : ((s.e : Int) == 0) = false := by rw [beq_eq_false_iff_ne]; omega
    have hb2 : ((s.e : Int) != 0) = true := by rw [bne, hb]; rfl
    generalize s.e = se at *
    clear hh hq he
    go_enter Tryd.func47, Tryd.ntmps47
    go_wp2_with (go_at_call 44; (refine k44.mono ?_; rintro e w1 ⟨rfl, B1⟩; have c3 := HC.out _ (T.bal B1 (.cells #[.int .u8 (xk : Int), .string (str xt), .int .i64 xn, .int .i64 (xa : Int)] 97)); have BF : Hid (Below w.heap.size w (w1.alloc (.cells #[.int .u8 (xk : Int), .string (str xt), .int .i64 xn, .int .i64 (xa : Int)] 97))) := T.bal B1 _))
    go_ret
    exact ⟨rfl, BF.out⟩
/-- is: a hit, and what it leaves. -/
theorem is47 (h : PT w p a c L g s) {k : Nat} {t : Bs} {q : ByteArray} (hq : str t = q) (hk : k ≠ 0) : Calls Tryd.prog 47 #[.pointer (some ⟨p, 0, none⟩), .int .u8 (k : Int), .string q] w fun e w' => e = .returned (.bool (hitP L g k t s)) ∧ PD w p a c L g (isP L g k t s) w' := by
  unfold isP
  cases hh : hitP L g k t s
  · refine (is47_no h hq hh).mono ?_
    rintro e w' ⟨rfl, k⟩
    exact ⟨rfl, PD.same h k⟩
  · exact is47_yes h hq hk hh
theorem must49 (h : PT w p a c L g s) {k : Nat} {t : Bs} {q : ByteArray} (hq : str t = q) (hk : k ≠ 0) : Calls Tryd.prog 49 #[.pointer (some ⟨p, 0, none⟩), .int .u8 (k : Int), .string q] w fun e w' => e = .returned (.tuple #[]) ∧ PD w p a c L g (musP L g k t s) w' := by
  have c3 := h.cells.2.1
  have HP : Hid (PT w p a c L g s) := h
  unfold musP
  by_cases he : s.e = 0
  · rw [if_pos he]
    rw [he] at c3
    have k47 := is47 h hq hk
    unfold isP at k47
    cases hh : hitP L g k t s
    · rw [hh] at k47
      simp only [Bool.false_eq_true, if_false] at k47 ⊢
      clear h hq hk he hh
      go_enter Tryd.func49, Tryd.ntmps49
      go_wp2_with (first
        | (go_at_call 47; (refine k47.mono ?_; rintro e w1 ⟨rfl, h1⟩; have k45 := wrong45 h1.pt; have H1 : Hid (PD w p a c L g s w1) := h1; clear h1))
        | (go_at_call 45; (refine k45.mono ?_; rintro e w2 ⟨rfl, h2⟩; have H2 : Hid (PD w1 p a c L g (wrP L g s) w2) := h2; clear h2)))
      go_end0
      exact ⟨rfl, H1.out.and H2.out⟩
    · rw [hh] at k47
      simp only [if_true] at k47 ⊢
      clear h hq hk he hh
      go_enter Tryd.func49, Tryd.ntmps49
      go_wp2_with (go_at_call 47; (refine k47.mono ?_; rintro e w1 ⟨rfl, h1⟩; have H1 : Hid (PD w p a c L g s.up w1) := h1; clear h1))
      go_end0
      exact ⟨rfl, H1.out⟩
  · rw [if_neg he]
    have hb : ((s.e : Int) == 0) = false := by rw [beq_eq_false_iff_ne]; omega
    have HS : Hid (PD w p a c L g s w) := ⟨h, T.Keep.refl _ _⟩
    clear h hq hk HP
    generalize s.e = se at *
    go_enter Tryd.func49, Tryd.ntmps49
    go_wp2
    go_end0
    exact ⟨rfl, HS.out⟩
end Go.Proofs.YtipnaphikbjhbaaDoor
/-! ### The document's parser: name, literal, end. -/
namespace Go.Proofs.YtipnaphikbjhbaaDoor
open Go.RowKit
set_option maxRecDepth 100000
variable {w w' w1 : World} {p c g : Nat} {a : Option Addr} {L : List Tk} {s s' : Ps}
theorem nz_facts {x : Nat} (h : ¬ x = 0) : ((x : Int) == 0) = false ∧ ((x : Int) != 0) = true ∧ ¬ (x : Int) = 0 ∧ (x == 0) = false ∧ (x != 0) = true := by
  have h1 : ((x : Int) == 0) = false := by rw [beq_eq_false_iff_ne]; omega
  have h2 : (x == 0) = false := by rw [beq_eq_false_iff_ne]; exact h
  exact ⟨h1, by rw [bne, h1]; rfl, by omega, h2, by rw [bne, h2]; rfl⟩
theorem ne_facts {x k : Nat} (h : ¬ x = k) : ((x : Int) == (k : Int)) = false ∧ ((x : Int) != (k : Int)) = true ∧ ¬ (x : Int) = (k : Int) ∧ (x == k) = false ∧ (x != k) = true := by
  have h1 : ((x : Int) == (k : Int)) = false := by rw [beq_eq_false_iff_ne]; omega
  have h2 : (x == k) = false := by rw [beq_eq_false_iff_ne]; exact h
  exact ⟨h1, by rw [bne, h1]; rfl, by omega, h2, by rw [bne, h2]; rfl⟩
/-- One more token read. -/
theorem PT.upd (h : PT w p a c L g s) (hn : s.n + 1 ≤ L.length) (k : Below w.heap.size w w1) : PD w p a c L g s.up (w1.setCell ⟨p, 1, none⟩ (.int .i64 ((s.n : Int) + 1))) := PD.put (PD.same h k) (s' := s.up) hn (by simp [Ps.up])
theorem name50_yes (h : PT w p a c L g s) (hg : Good w) (hh : nmOk L g s = true) : Calls Tryd.prog 50 #[.pointer (some ⟨p, 0, none⟩)] w fun e w' => e = .returned (.string (str (lkP L g s).t)) ∧ PD w p a c L g s.up w' := by
  have hh' : s.e = 0 ∧ (lkP L g s).k = 1 ∧ nameR (lkP L g s).t = true := by simpa [nmOk] using hh
  obtain ⟨h1, h2, h3⟩ := hh'
  have hn1 := lk_lt (L := L) (g := g) (s := s) (by omega)
  have k44 := look44 h
  have HP : Hid (PT w p a c L g s) := h
  have hfew := h.few
  have HG : Hid (Good w) := hg
  have HT : Hid (∀ W, Below w.heap.size w W → PD w p a c L g s.up (W.setCell ⟨p, 1, none⟩ (.int .i64 ((s.n : Int) + 1)))) := fun W k => HP.out.upd hn1 k
  have HC : Hid (∀ W, Below w.heap.size w W → W.cell? ⟨p, 1, none⟩ = some (.int .i64 (s.n : Int)) ∧ W.cell? ⟨p, 3, none⟩ = some (.int .i64 0) ∧ W.frozen? ⟨p, 1, none⟩ = false) := fun W k => by
    obtain ⟨c1, c3, c4, f1, f3, f4⟩ := (HP.out.below k).cells
    rw [h1] at c3
    exact ⟨c1, c3, f1⟩
  have hn100 : s.n ≤ 100 := by omega
  obtain ⟨x, hx⟩ : ∃ x, lkP L g s = x := ⟨_, rfl⟩
  rw [hx] at k44 h2 h3 ⊢
  obtain ⟨xk, xt, xn, xa⟩ := x
  simp only at h2 h3 k44 ⊢
  subst h2
  have HN : Hid (∀ W, Below w.heap.size w W → Calls Tryd.prog 58 #[.string (str xt)] W fun e w' => e = .returned (.bool true) ∧ Below W.heap.size W w') := fun W k => by
    have := name14 (str xt) W (HG.out.below k)
    rw [bs_str, h3] at this
    exact this
  generalize s.n = sn at *
  clear h hh hx h1 h3 hn1 hfew hg
  go_enter Tryd.func50, Tryd.ntmps50
  go_wp2_with (first
    | (go_at_call 58; (refine k58.mono ?_; rintro e w2 ⟨rfl, B2⟩; obtain ⟨c1, c3, f1⟩ := HC.out _ (bmore BA.out B2); have y1 := HB.out.below B2; have z1 := y1.cell 1; have q1 := (y1.other (p := ⟨p, 1, none⟩) HNE.out (.int .i64 ((sn : Int) + 1))).cell 1; simp only [List.getElem?_cons_zero, List.getElem?_cons_succ] at z1 q1; have HF : Hid (PD w p a c L g s.up (w2.setCell ⟨p, 1, none⟩ (.int .i64 ((sn : Int) + 1)))) := HT.out _ (bmore BA.out B2); clear y1 B2))
    | (go_at_call 44; (refine k44.mono ?_; rintro e w1 ⟨rfl, B1⟩; have bb := T.bal B1 (.cells #[.int .u8 1, .string (str xt), .int .i64 xn, .int .i64 (xa : Int)] 97); obtain ⟨c1, c3, f1⟩ := HC.out _ bb; have BA : Hid (Below w.heap.size w (w1.alloc (.cells #[.int .u8 1, .string (str xt), .int .i64 xn, .int .i64 (xa : Int)] 97))) := bb; have HB : Hid (T.Blk (w1.alloc (.cells #[.int .u8 1, .string (str xt), .int .i64 xn, .int .i64 (xa : Int)] 97)) w1.heap.size [.int .u8 1, .string (str xt), .int .i64 xn, .int .i64 (xa : Int)] 97) := T.blk_new w1 _ _; have HNE : Hid (w1.heap.size ≠ p) := (fun e => by have := HP.out.blk.lt; have := B1.size; omega); have k58 := HN.out _ bb; clear bb)))
  go_ret
  exact ⟨rfl, HF.out⟩
theorem name50_no (h : PT w p a c L g s) (hg : Good w) (hh : nmOk L g s = false) : Calls Tryd.prog 50 #[.pointer (some ⟨p, 0, none⟩)] w fun e w' => e = .returned (.string ⟨#[]⟩) ∧ PD w p a c L g (wrP L g s) w' := by
  have k44 := look44 h
  have HP : Hid (PT w p a c L g s) := h
  have HG : Hid (Good w) := hg
  have HC : Hid (∀ W, Below w.heap.size w W → W.cell? ⟨p, 3, none⟩ = some (.int .i64 (s.e : Int))) := fun W k => (HP.out.below k).cells.2.1
  unfold nmOk at hh
  obtain ⟨x, hx⟩ : ∃ x, lkP L g s = x := ⟨_, rfl⟩
  rw [hx] at k44 hh
  obtain ⟨xk, xt, xn, xa⟩ := x
  simp only at k44 hh
  clear h hg hx
  by_cases he : s.e = 0
  · rw [he] at HC
    by_cases hk : xk = 1
    · have h3 : nameR xt = false := by simpa [he, hk] using hh
      have HN : Hid (∀ W, Below w.heap.size w W → Calls Tryd.prog 58 #[.string (str xt)] W fun e w' => e = .returned (.bool false) ∧ Below W.heap.size W w') := fun W k => by
        have := name14 (str xt) W (HG.out.below k)
        rw [bs_str, h3] at this
        exact this
      clear hh h3 he
      subst hk
      go_enter Tryd.func50, Tryd.ntmps50
      go_wp2_with (first
        | (go_at_call 45; (refine k45.mono ?_; rintro e w3 ⟨rfl, h3⟩; have H3 : Hid (PD w p a c L g (wrP L g s) w3) := PD.pre BB.out h3; clear h3))
        | (go_at_call 58; (refine k58.mono ?_; rintro e w2 ⟨rfl, B2⟩; have k45 := wrong45 (HP.out.below (bmore BA.out B2)); have BB : Hid (Below w.heap.size w w2) := bmore BA.out B2))
        | (go_at_call 44; (refine k44.mono ?_; rintro e w1 ⟨rfl, B1⟩; have bb := T.bal B1 (.cells #[.int .u8 1, .string (str xt), .int .i64 xn, .int .i64 (xa : Int)] 97); have c3 := HC.out _ bb; have BA : Hid (Below w.heap.size w (w1.alloc (.cells #[.int .u8 1, .string (str xt), .int .i64 xn, .int .i64 (xa : Int)] 97))) := bb; have k58 := HN.out _ bb; clear bb)))
      go_ret
      exact ⟨rfl, H3.out⟩
    · obtain ⟨n1, n2, n3, n4, n5⟩ := ne_facts hk
      clear hh he
      go_enter Tryd.func50, Tryd.ntmps50
      go_wp2_with (first
        | (go_at_call 45; (refine k45.mono ?_; rintro e w3 ⟨rfl, h3⟩; have H3 : Hid (PD w p a c L g (wrP L g s) w3) := PD.pre BA.out h3; clear h3))
        | (go_at_call 44; (refine k44.mono ?_; rintro e w1 ⟨rfl, B1⟩; have bb := T.bal B1 (.cells #[.int .u8 (xk : Int), .string (str xt), .int .i64 xn, .int .i64 (xa : Int)] 97); have c3 := HC.out _ bb; have BA : Hid (Below w.heap.size w (w1.alloc (.cells #[.int .u8 (xk : Int), .string (str xt), .int .i64 xn, .int .i64 (xa : Int)] 97))) := bb; have k45 := wrong45 (HP.out.below BA.out); clear bb)))
      go_ret
      exact ⟨rfl, H3.out⟩
  · obtain ⟨n1, n2, n3, n4, n5⟩ := nz_facts he
    have HS : Hid (wrP L g s = wrP L g s) := rfl
    generalize hse : s.e = se at *
    clear hh he hse
    go_enter Tryd.func50, Tryd.ntmps50
    go_wp2_with (first
      | (go_at_call 45; (refine k45.mono ?_; rintro e w3 ⟨rfl, h3⟩; have H3 : Hid (PD w p a c L g (wrP L g s) w3) := PD.pre BA.out h3; clear h3))
      | (go_at_call 44; (refine k44.mono ?_; rintro e w1 ⟨rfl, B1⟩; have bb := T.bal B1 (.cells #[.int .u8 (xk : Int), .string (str xt), .int .i64 xn, .int .i64 (xa : Int)] 97); have c3 := HC.out _ bb; have BA : Hid (Below w.heap.size w (w1.alloc (.cells #[.int .u8 (xk : Int), .string (str xt), .int .i64 xn, .int .i64 (xa : Int)] 97))) := bb; have k45 := wrong45 (HP.out.below BA.out); clear bb)))
    go_ret
    exact ⟨rfl, H3.out⟩
theorem name50 (h : PT w p a c L g s) (hg : Good w) : Calls Tryd.prog 50 #[.pointer (some ⟨p, 0, none⟩)] w fun e w' => e = .returned (.string (str (nmV L g s))) ∧ PD w p a c L g (nmP L g s) w' := by
  unfold nmV nmP
  cases hh : nmOk L g s
  · exact name50_no h hg hh
  · exact name50_yes h hg hh
end Go.Proofs.YtipnaphikbjhbaaDoor
/-! ### The document's parser: literal, end, of. -/
namespace Go.Proofs.YtipnaphikbjhbaaDoor
open Go.RowKit
set_option maxRecDepth 100000
variable {w w' w1 : World} {p c g b : Nat} {a : Option Addr} {L : List Tk} {s s' : Ps}
/-- A cell of a block that is no older than w is turned. -/
theorem PD.box {s0 : Ps} {i : Nat} {v : Value} (h : PD w p a c L g s w1) (h0 : PT w p a c L g s0) (hb : w.heap.size ≤ b) : PD w p a c L g s (w1.setCell ⟨b, i, none⟩ v) := by
  have k : T.Keep (fun x => x = b) w1 (w1.setCell ⟨b, i, none⟩ v) := T.Keep.set (F := fun x => x = b) (T.Keep.refl _ _) (p := ⟨b, i, none⟩) (.inr rfl) v
  refine ⟨h.pt.keep k (fun e => ?_) (fun hL x hx e => ?_), h.kp.set (p := ⟨b, i, none⟩) (.inl hb) v⟩
  · have := h0.blk.lt; omega
  · obtain ⟨y, e1, e2, e3, _⟩ := h0.tok 0 _ (List.getElem?_eq_getElem hL)
    rw [hx] at e1
    cases e1
    omega
/-- Three cells of a block, turned one behind the other. -/
theorem bx3 {W : World} {u0 u1 u2 : Value} {t : TypeId} (h : T.Blk W b [u0, u1, u2] t) (v0 v1 v2 : Value) :
    (W.cell? ⟨b, 0, none⟩ = some u0 ∧ W.frozen? ⟨b, 0, none⟩ = false ∧ (W.setCell ⟨b, 0, none⟩ v0).cell? ⟨b, 1, none⟩ = some u1 ∧ (W.setCell ⟨b, 0, none⟩ v0).frozen? ⟨b, 1, none⟩ = false ∧ ((W.setCell ⟨b, 0, none⟩ v0).setCell ⟨b, 1, none⟩ v1).cell? ⟨b, 2, none⟩ = some u2 ∧ ((W.setCell ⟨b, 0, none⟩ v0).setCell ⟨b, 1, none⟩ v1).frozen? ⟨b, 2, none⟩ = false) ∧
    ((((W.setCell ⟨b, 0, none⟩ v0).setCell ⟨b, 1, none⟩ v1).setCell ⟨b, 2, none⟩ v2).cell? ⟨b, 0, none⟩ = some v0 ∧ (((W.setCell ⟨b, 0, none⟩ v0).setCell ⟨b, 1, none⟩ v1).setCell ⟨b, 2, none⟩ v2).cell? ⟨b, 1, none⟩ = some v1 ∧ (((W.setCell ⟨b, 0, none⟩ v0).setCell ⟨b, 1, none⟩ v1).setCell ⟨b, 2, none⟩ v2).cell? ⟨b, 2, none⟩ = some v2) := by
  have h1 := h.set (o := 0) v0
  have h2 := h1.set (o := 1) v1
  have h3 := h2.set (o := 2) v2
  exact ⟨⟨h.cell 0, h.frozen 0, h1.cell 1, h1.frozen 1, h2.cell 2, h2.frozen 2⟩, h3.cell 0, h3.cell 1, h3.cell 2⟩
/-- A literal as a value. -/
abbrev vlV (x : Nat × Int × Bs) : Value := .agg #[.int .u8 (x.1 : Int), .int .i64 x.2.1, .string (str x.2.2)]
theorem literal51_num (h : PT w p a c L g s) (he : s.e = 0) (hk : (lkP L g s).k = 2) : Calls Tryd.prog 51 #[.pointer (some ⟨p, 0, none⟩)] w fun e w' => e = .returned (vlV (1, (lkP L g s).n, [])) ∧ PD w p a c L g s.up w' := by
  have hn1 := lk_lt (L := L) (g := g) (s := s) (by omega)
  have bx0 := T.al w (.cells #[.int .u8 0, .int .i64 0, .string ⟨#[]⟩] 30)
  have k44 := look44 (h.below bx0)
  have HP : Hid (PT w p a c L g s) := h
  have hfew := h.few
  have HT : Hid (∀ W, Below w.heap.size w W → PD w p a c L g s.up (W.setCell ⟨p, 1, none⟩ (.int .i64 ((s.n : Int) + 1)))) := fun W k => HP.out.upd hn1 k
  have HC : Hid (∀ W, Below w.heap.size w W → W.cell? ⟨p, 1, none⟩ = some (.int .i64 (s.n : Int)) ∧ W.cell? ⟨p, 3, none⟩ = some (.int .i64 0) ∧ W.frozen? ⟨p, 1, none⟩ = false) := fun W k => by
    obtain ⟨c1, c3, c4, f1, f3, f4⟩ := (HP.out.below k).cells
    rw [he] at c3
    exact ⟨c1, c3, f1⟩
  have hn100 : s.n ≤ 100 := by omega
  obtain ⟨x, hx⟩ : ∃ x, lkP L g s = x := ⟨_, rfl⟩
  rw [hx] at k44 hk ⊢
  obtain ⟨xk, xt, xn, xa⟩ := x
  simp only at hk k44 ⊢
  subst hk
  have HBX : Hid (T.Blk (w.alloc (.cells #[.int .u8 0, .int .i64 0, .string ⟨#[]⟩] 30)) w.heap.size [.int .u8 0, .int .i64 0, .string ⟨#[]⟩] 30) := T.blk_new w _ _
  have HNE : Hid (w.heap.size ≠ p) := fun e => by have := HP.out.blk.lt; omega
  have HB0 : Hid (Below w.heap.size w (w.alloc (.cells #[.int .u8 0, .int .i64 0, .string ⟨#[]⟩] 30))) := bx0
  generalize s.n = sn at *
  clear h he hx hn1 hfew bx0
  go_enter Tryd.func51, Tryd.ntmps51
  go_wp2_with (go_at_call 44; (refine k44.mono ?_; rintro e w1 ⟨rfl, B1⟩; have bb := T.bal B1 (.cells #[.int .u8 2, .string (str xt), .int .i64 xn, .int .i64 (xa : Int)] 97); obtain ⟨c1, c3, f1⟩ := HC.out _ (bmore HB0.out bb); have q2 := (HBX.out.below bb).other (p := ⟨p, 1, none⟩) HNE.out (.int .i64 ((sn : Int) + 1)); obtain ⟨⟨x0, x1, x2, x3, x4, x5⟩, r0, r1, r2⟩ := bx3 q2 (.int .u8 1) (.int .i64 xn) (.string ⟨#[]⟩); have HF : Hid (PD w p a c L g s.up (((((w1.alloc (.cells #[.int .u8 2, .string (str xt), .int .i64 xn, .int .i64 (xa : Int)] 97)).setCell ⟨p, 1, none⟩ (.int .i64 ((sn : Int) + 1))).setCell ⟨w.heap.size, 0, none⟩ (.int .u8 1)).setCell ⟨w.heap.size, 1, none⟩ (.int .i64 xn)).setCell ⟨w.heap.size, 2, none⟩ (.string ⟨#[]⟩))) := (((HT.out _ (bmore HB0.out bb)).box HP.out (Nat.le_refl _)).box HP.out (Nat.le_refl _)).box HP.out (Nat.le_refl _); clear q2 bb))
  exact bodyPost_ret (v := .agg #[.int .u8 1, .int .i64 xn, .string ⟨#[]⟩]) (by simp [results, Tryd.results51, go_sem, r0, r1, r2]) rfl ⟨rfl, HF.out⟩
set_option maxHeartbeats 1000000 in
theorem literal51_str (h : PT w p a c L g s) (he : s.e = 0) (hk : (lkP L g s).k = 3) : Calls Tryd.prog 51 #[.pointer (some ⟨p, 0, none⟩)] w fun e w' => e = .returned (vlV (2, 0, (lkP L g s).t)) ∧ PD w p a c L g s.up w' := by
  have hn1 := lk_lt (L := L) (g := g) (s := s) (by omega)
  have bx0 := T.al w (.cells #[.int .u8 0, .int .i64 0, .string ⟨#[]⟩] 30)
  have k44 := look44 (h.below bx0)
  have HP : Hid (PT w p a c L g s) := h
  have hfew := h.few
  have HT : Hid (∀ W, Below w.heap.size w W → PD w p a c L g s.up (W.setCell ⟨p, 1, none⟩ (.int .i64 ((s.n : Int) + 1)))) := fun W k => HP.out.upd hn1 k
  have HC : Hid (∀ W, Below w.heap.size w W → W.cell? ⟨p, 1, none⟩ = some (.int .i64 (s.n : Int)) ∧ W.cell? ⟨p, 3, none⟩ = some (.int .i64 0) ∧ W.frozen? ⟨p, 1, none⟩ = false) := fun W k => by
    obtain ⟨c1, c3, c4, f1, f3, f4⟩ := (HP.out.below k).cells
    rw [he] at c3
    exact ⟨c1, c3, f1⟩
  have hn100 : s.n ≤ 100 := by omega
  obtain ⟨x, hx⟩ : ∃ x, lkP L g s = x := ⟨_, rfl⟩
  rw [hx] at k44 hk ⊢
  obtain ⟨xk, xt, xn, xa⟩ := x
  simp only at hk k44 ⊢
  subst hk
  have HBX : Hid (T.Blk (w.alloc (.cells #[.int .u8 0, .int .i64 0, .string ⟨#[]⟩] 30)) w.heap.size [.int .u8 0, .int .i64 0, .string ⟨#[]⟩] 30) := T.blk_new w _ _
  have HNE : Hid (w.heap.size ≠ p) := fun e => by have := HP.out.blk.lt; omega
  have HB0 : Hid (Below w.heap.size w (w.alloc (.cells #[.int .u8 0, .int .i64 0, .string ⟨#[]⟩] 30))) := bx0
  generalize s.n = sn at *
  clear h he hx hn1 hfew bx0
  go_enter Tryd.func51, Tryd.ntmps51
  go_wp2_with (go_at_call 44; (refine k44.mono ?_; rintro e w1 ⟨rfl, B1⟩; have bb := T.bal B1 (.cells #[.int .u8 3, .string (str xt), .int .i64 xn, .int .i64 (xa : Int)] 97); obtain ⟨c1, c3, f1⟩ := HC.out _ (bmore HB0.out bb); have y1 := (T.blk_new w1 [.int .u8 3, .string (str xt), .int .i64 xn, .int .i64 (xa : Int)] 97); have z0 := y1.cell 0; have z1 := y1.cell 1; have hne2 : w1.heap.size ≠ p := (fun e => by have h1 := HP.out.blk.lt; have h2 := HB0.out.size; have h3 := B1.size; omega); have q1 := (y1.other (p := ⟨p, 1, none⟩) hne2 (.int .i64 ((sn : Int) + 1))).cell 1; simp only [List.getElem?_cons_zero, List.getElem?_cons_succ] at z0 z1 q1; clear y1 hne2; have q2 := (HBX.out.below bb).other (p := ⟨p, 1, none⟩) HNE.out (.int .i64 ((sn : Int) + 1)); obtain ⟨⟨x0, x1, x2, x3, x4, x5⟩, r0, r1, r2⟩ := bx3 q2 (.int .u8 2) (.int .i64 0) (.string (str xt)); have HF : Hid (PD w p a c L g s.up (((((w1.alloc (.cells #[.int .u8 3, .string (str xt), .int .i64 xn, .int .i64 (xa : Int)] 97)).setCell ⟨p, 1, none⟩ (.int .i64 ((sn : Int) + 1))).setCell ⟨w.heap.size, 0, none⟩ (.int .u8 2)).setCell ⟨w.heap.size, 1, none⟩ (.int .i64 0)).setCell ⟨w.heap.size, 2, none⟩ (.string (str xt)))) := (((HT.out _ (bmore HB0.out bb)).box HP.out (Nat.le_refl _)).box HP.out (Nat.le_refl _)).box HP.out (Nat.le_refl _); clear q2 bb))
  exact bodyPost_ret (v := .agg #[.int .u8 2, .int .i64 0, .string (str xt)]) (by simp [results, Tryd.results51, go_sem, r0, r1, r2]) rfl ⟨rfl, HF.out⟩
theorem literal51_no (h : PT w p a c L g s) (hn : ¬ (s.e = 0 ∧ ((lkP L g s).k = 2 ∨ (lkP L g s).k = 3))) : Calls Tryd.prog 51 #[.pointer (some ⟨p, 0, none⟩)] w fun e w' => e = .returned (vlV (0, 0, [])) ∧ PD w p a c L g (wrP L g s) w' := by
  have bx0 := T.al w (.cells #[.int .u8 0, .int .i64 0, .string ⟨#[]⟩] 30)
  have k44 := look44 (h.below bx0)
  have HP : Hid (PT w p a c L g s) := h
  have HC : Hid (∀ W, Below w.heap.size w W → W.cell? ⟨p, 3, none⟩ = some (.int .i64 (s.e : Int))) := fun W k => (HP.out.below k).cells.2.1
  obtain ⟨x, hx⟩ : ∃ x, lkP L g s = x := ⟨_, rfl⟩
  rw [hx] at k44 hn
  obtain ⟨xk, xt, xn, xa⟩ := x
  simp only at hn k44 ⊢
  have HBX : Hid (T.Blk (w.alloc (.cells #[.int .u8 0, .int .i64 0, .string ⟨#[]⟩] 30)) w.heap.size [.int .u8 0, .int .i64 0, .string ⟨#[]⟩] 30) := T.blk_new w _ _
  have HNE : Hid (w.heap.size ≠ p) := fun e => by have := HP.out.blk.lt; omega
  have HB0 : Hid (Below w.heap.size w (w.alloc (.cells #[.int .u8 0, .int .i64 0, .string ⟨#[]⟩] 30))) := bx0
  have H45 : Hid (∀ W, Below w.heap.size w W → Calls Tryd.prog 45 #[.pointer (some ⟨p, 0, none⟩)] W fun e w' => e = .returned (.tuple #[]) ∧ PD W p a c L g (wrP L g s) w') := fun W k => wrong45 (HP.out.below k)
  have HFIN : Hid (∀ (w1 : World) (o : Obj) (w3 : World), Below (w.alloc (.cells #[.int .u8 0, .int .i64 0, .string ⟨#[]⟩] 30)).heap.size (w.alloc (.cells #[.int .u8 0, .int .i64 0, .string ⟨#[]⟩] 30)) (w1.alloc o) → PD (w1.alloc o) p a c L g (wrP L g s) w3 → T.Blk w3 w.heap.size [.int .u8 0, .int .i64 0, .string ⟨#[]⟩] 30 ∧ PD w p a c L g (wrP L g s) (((w3.setCell ⟨w.heap.size, 0, none⟩ (.int .u8 0)).setCell ⟨w.heap.size, 1, none⟩ (.int .i64 0)).setCell ⟨w.heap.size, 2, none⟩ (.string ⟨#[]⟩))) := fun w1 o w3 bb h3 => by
    have hq := (HBX.out.below bb)
    exact ⟨hq.block (h3.kp.block _ hq.lt HNE.out), (((PD.pre (bmore HB0.out bb) h3).box HP.out (Nat.le_refl _)).box HP.out (Nat.le_refl _)).box HP.out (Nat.le_refl _)⟩
  generalize wrP L g s = sw at *
  clear h hx bx0
  by_cases he : s.e = 0
  · have hk2 : ¬ xk = 2 := fun e => hn ⟨he, .inl e⟩
    have hk3 : ¬ xk = 3 := fun e => hn ⟨he, .inr e⟩
    obtain ⟨m1, m2, m3, m4, m5⟩ := ne_facts hk2
    obtain ⟨n1, n2, n3, n4, n5⟩ := ne_facts hk3
    have m1' : ((xk : Int) == 2) = false := m1
    have n1' : ((xk : Int) == 3) = false := n1
    rw [he] at HC
    clear hn he m1 n1
    go_enter Tryd.func51, Tryd.ntmps51
    go_wp2_with (first
      | (go_at_call 45; (refine k45.mono ?_; rintro e w3 ⟨rfl, h3⟩; obtain ⟨hq, hf⟩ := HFIN.out w1 _ w3 HBB.out h3; obtain ⟨⟨x0, x1, x2, x3, x4, x5⟩, r0, r1, r2⟩ := bx3 hq (.int .u8 0) (.int .i64 0) (.string ⟨#[]⟩); have HF : Hid (PD w p a c L g sw (((w3.setCell ⟨w.heap.size, 0, none⟩ (.int .u8 0)).setCell ⟨w.heap.size, 1, none⟩ (.int .i64 0)).setCell ⟨w.heap.size, 2, none⟩ (.string ⟨#[]⟩))) := hf; clear hq hf h3))
      | (go_at_call 44; (refine k44.mono ?_; rintro e w1 ⟨rfl, B1⟩; have bb := T.bal B1 (.cells #[.int .u8 (xk : Int), .string (str xt), .int .i64 xn, .int .i64 (xa : Int)] 97); have c3 := HC.out _ (bmore HB0.out bb); have k45 := H45.out _ (bmore HB0.out bb); have HBB : Hid (Below (w.alloc (.cells #[.int .u8 0, .int .i64 0, .string ⟨#[]⟩] 30)).heap.size (w.alloc (.cells #[.int .u8 0, .int .i64 0, .string ⟨#[]⟩] 30)) (w1.alloc (.cells #[.int .u8 (xk : Int), .string (str xt), .int .i64 xn, .int .i64 (xa : Int)] 97))) := bb; clear bb)))
    exact bodyPost_ret (v := .agg #[.int .u8 0, .int .i64 0, .string ⟨#[]⟩]) (by simp [results, Tryd.results51, go_sem, r0, r1, r2]) rfl ⟨rfl, HF.out⟩
  · obtain ⟨n1, n2, n3, n4, n5⟩ := nz_facts he
    generalize hse : s.e = se at *
    clear hn he hse
    go_enter Tryd.func51, Tryd.ntmps51
    go_wp2_with (first
      | (go_at_call 45; (refine k45.mono ?_; rintro e w3 ⟨rfl, h3⟩; obtain ⟨hq, hf⟩ := HFIN.out w1 _ w3 HBB.out h3; obtain ⟨⟨x0, x1, x2, x3, x4, x5⟩, r0, r1, r2⟩ := bx3 hq (.int .u8 0) (.int .i64 0) (.string ⟨#[]⟩); have HF : Hid (PD w p a c L g sw (((w3.setCell ⟨w.heap.size, 0, none⟩ (.int .u8 0)).setCell ⟨w.heap.size, 1, none⟩ (.int .i64 0)).setCell ⟨w.heap.size, 2, none⟩ (.string ⟨#[]⟩))) := hf; clear hq hf h3))
      | (go_at_call 44; (refine k44.mono ?_; rintro e w1 ⟨rfl, B1⟩; have bb := T.bal B1 (.cells #[.int .u8 (xk : Int), .string (str xt), .int .i64 xn, .int .i64 (xa : Int)] 97); have c3 := HC.out _ (bmore HB0.out bb); have k45 := H45.out _ (bmore HB0.out bb); have HBB : Hid (Below (w.alloc (.cells #[.int .u8 0, .int .i64 0, .string ⟨#[]⟩] 30)).heap.size (w.alloc (.cells #[.int .u8 0, .int .i64 0, .string ⟨#[]⟩] 30)) (w1.alloc (.cells #[.int .u8 (xk : Int), .string (str xt), .int .i64 xn, .int .i64 (xa : Int)] 97))) := bb; clear bb)))
    exact bodyPost_ret (v := .agg #[.int .u8 0, .int .i64 0, .string ⟨#[]⟩]) (by simp [results, Tryd.results51, go_sem, r0, r1, r2]) rfl ⟨rfl, HF.out⟩
theorem literal51 (h : PT w p a c L g s) : Calls Tryd.prog 51 #[.pointer (some ⟨p, 0, none⟩)] w fun e w' => e = .returned (vlV (litV L g s)) ∧ PD w p a c L g (litP L g s) w' := by
  unfold litV litP
  by_cases he : s.e = 0
  · by_cases h2 : (lkP L g s).k = 2
    · rw [if_pos ⟨he, h2⟩, if_pos ⟨he, .inl h2⟩]
      exact literal51_num h he h2
    · by_cases h3 : (lkP L g s).k = 3
      · rw [if_neg (fun e => h2 e.2), if_pos ⟨he, h3⟩, if_pos ⟨he, .inr h3⟩]
        exact literal51_str h he h3
      · have hn : ¬ (s.e = 0 ∧ ((lkP L g s).k = 2 ∨ (lkP L g s).k = 3)) := fun e => e.2.elim h2 h3
        rw [if_neg (fun e => h2 e.2), if_neg (fun e => h3 e.2), if_neg hn]
        exact literal51_no h hn
  · have hn : ¬ (s.e = 0 ∧ ((lkP L g s).k = 2 ∨ (lkP L g s).k = 3)) := fun e => he e.1
    rw [if_neg (fun e => he e.1), if_neg (fun e => he e.1), if_neg hn]
    exact literal51_no h hn
end Go.Proofs.YtipnaphikbjhbaaDoor
/-! ### The parts of a condition: add. -/
namespace Go.Proofs.YtipnaphikbjhbaaDoor
open Go.RowKit
set_option maxRecDepth 100000
variable {w w' w1 : World} {cc B : Nat} {cs : List Cd}
abbrev Sl3 := Option Addr × Nat × Nat
abbrev slW (x : Sl3) : Value := .slice x.1 x.2.1 x.2.2
abbrev Ce := Cd × Sl3
def EC : T.Ety Ce where
  m := 7
  enc := fun x => [.int .u8 (x.1.k : Int), .string (str x.1.col), .int .u8 (x.1.op : Int), .int .u8 (x.1.vk : Int), .int .i64 x.1.vn, .string (str x.1.vt), slW x.2]
  tE := 54
  tS := 22
  z := .agg #[.int .u8 0, .string ⟨#[]⟩, .int .u8 0, .int .u8 0, .int .i64 0, .string ⟨#[]⟩, .slice none 0 0]
  bytes := 88
  len := fun _ => rfl
  one := fun x u h => by simp at h; rcases h with rfl | rfl | rfl | rfl | rfl | rfl | rfl <;> rfl
  und := Tryd.underlying22
  info := by kernel_rfl
  zs := rfl
  pos := by decide
  by32 := by decide
/-- Kids that a part has, in a block of their own. -/
def KV (w : World) (y : Sl3) (ks : List Int) : Prop := (ks = [] ∧ y = (none, 0, 0)) ∨ ∃ g c, y = (some ⟨g, 0, none⟩, ks.length, c) ∧ ks.length ≤ c ∧ T.Blk w g (ks.map fun k => .int .i64 k) 3
theorem KV.keep {y : Sl3} {ks : List Int} (h : KV w y ks) (hk : ∀ g l, T.Blk w g l 3 → w'.heap[g]? = w.heap[g]?) : KV w' y ks := by
  rcases h with h | ⟨g, c, h1, h2, h3⟩
  · exact .inl h
  · exact .inr ⟨g, c, h1, h2, h3.block (hk g _ h3)⟩
theorem KV.below {y : Sl3} {ks : List Int} (h : KV w y ks) (k : Below w.heap.size w w') : KV w' y ks := h.keep fun g _ hb => k.block g hb.lt
/-- The parts of a condition at cc. -/
structure CT (w : World) (cc B : Nat) (cs : List Cd) : Prop where
  ex : ∃ u es, T.Blk w cc [u] 79 ∧ T.RW EC B w u es ∧ es.map Prod.fst = cs ∧ ∀ e ∈ es, KV w e.2 e.1.kids
  bc : B ≤ cc
theorem rw_ne {b : Nat} {l : List Value} {t : TypeId} {u : Value} {es : List Ce} (hb : T.Blk w b l t) (ht : t ≠ 54) (h : T.RW EC B w u es) : u.ownBlock ≠ some b := fun e => by
  rcases h.2 with ⟨rfl, _⟩ | ⟨g, cap, cur, rfl, _, h2, _⟩
  · cases e
  · simp only [Value.ownBlock, Option.some.injEq] at e
    subst e
    have h3 := hb.symm.trans h2
    simp only [Option.some.injEq, Obj.cells.injEq] at h3
    exact ht h3.2.1
theorem CT.keep (h : CT w cc B cs) (hk : ∀ g l t, T.Blk w g l t → (t = 79 ∧ g = cc ∨ t = 3) → w'.heap[g]? = w.heap[g]?) (ho : ∀ b (l : List Value) (fr : Nat × Nat), B ≤ b → w.heap[b]? = some (.cells l.toArray 54 fr) → w'.heap[b]? = w.heap[b]?) : CT w' cc B cs := by
  obtain ⟨u, es, h1, h2, h3, h4⟩ := h.ex
  refine ⟨⟨u, es, h1.block (hk _ _ _ h1 (.inl ⟨rfl, rfl⟩)), h2.keep fun k hk' => ?_, h3, fun e he => (h4 e he).keep fun g l hb => hk g l 3 hb (.inr rfl)⟩, h.bc⟩
  have h5 := h2.at hk'
  rcases h2.2 with ⟨rfl, _⟩ | ⟨g, cap, cur, rfl, _, h6, _⟩
  · cases hk'
  · simp only [Value.ownBlock, Option.some.injEq] at hk'
    subst hk'
    exact ho g cur.toList _ h5.1 (by rw [Array.toArray_toList]; exact h6)
theorem CT.below (h : CT w cc B cs) (k : Below w.heap.size w w') : CT w' cc B cs := h.keep (fun g _ _ hb _ => k.block g hb.lt) (fun b _ _ _ hb => k.block b (Array.getElem?_eq_some_iff.1 hb).1)
/-- Every old block stands but the parser's, the condition's, and the rows of parts from B on. -/
def FK (w : World) (B p cc : Nat) (b : Nat) : Prop := b = p ∨ b = cc ∨ (B ≤ b ∧ ∃ (l : List Value) (fr : Nat × Nat), w.heap[b]? = some (.cells l.toArray 54 fr))
abbrev Kt (B p cc : Nat) (w w' : World) : Prop := T.Keep (FK w B p cc) w w'
theorem Kt.trans {p : Nat} {w2 : World} (h : Kt B p cc w w1) (k : Kt B p cc w1 w2) : Kt B p cc w w2 := by
  refine T.Keep.trans h k fun i hi hg => ?_
  by_cases hf : FK w B p cc i
  · exact hf
  · rcases hg with e | e | ⟨e, l, fr, hl⟩
    · exact .inl e
    · exact .inr (.inl e)
    · exact .inr (.inr ⟨e, l, fr, (h.block i hi hf).symm.trans hl⟩)
theorem Kt.of {p : Nat} (k : Below w.heap.size w w') : Kt B p cc w w' := T.Keep.of k
set_option maxHeartbeats 1000000 in
theorem add48 (h : CT w cc B cs) (x : Cd) (y : Sl3) (hy : KV w y x.kids) (hfew : cs.length ≤ 99000) (hB : B ≤ w.heap.size) (p : Nat) :
    Calls Tryd.prog 48 #[.pointer (some ⟨cc, 0, none⟩), .agg #[.int .u8 (x.k : Int), .string (str x.col), .int .u8 (x.op : Int), .int .u8 (x.vk : Int), .int .i64 x.vn, .string (str x.vt), slW y]] w fun e w' => e = .returned (.int .i64 (cs.length : Int)) ∧ CT w' cc B (cs ++ [x]) ∧ Kt B p cc w w' := by
  obtain ⟨u, es, h1, h2, h3, h4⟩ := id h.ex
  have hlen : es.length = cs.length := by rw [← h3, List.length_map]
  obtain ⟨ua, uc, rfl, _⟩ := h2.form
  obtain ⟨C, hC⟩ : ∃ C, EC.enc (x, y) = C := ⟨_, rfl⟩
  have b1 := T.al w (.cells C.toArray 54)
  have b2 : Below w.heap.size w ((w.alloc (.cells C.toArray 54)).drew) := b1.trans (Below.refl _ _).drew
  have b3 : Below w.heap.size w (((w.alloc (.cells C.toArray 54)).drew).alloc (.cells C.toArray 54)) := T.bal b2 _
  have hz : ((w.alloc (.cells C.toArray 54)).drew).heap.size = w.heap.size + 1 := by simp
  have hlv : T.LV EC (((w.alloc (.cells C.toArray 54)).drew).alloc (.cells C.toArray 54)) (.slice (some ⟨w.heap.size + 1, 0, none⟩) 1 1) [(x, y)] := by
    have hb := T.blk_new ((w.alloc (.cells C.toArray 54)).drew) C 54
    rw [hz] at hb
    exact T.lv_blk EC (by show T.Blk _ _ (EC.cells [(x, y)]) 54; simp only [T.Ety.cells, List.flatMap_cons, List.flatMap_nil, List.append_nil]; rw [hC]; exact hb) 1 (Nat.le_refl _)
  obtain ⟨g', cap, w5, hrun, hR, hgrow, hat, hlt⟩ := T.rw_app2 (h2.below b3) hlv (by simp) (by simp; omega) (Nat.le_trans hB b3.size)
  have hl1 : es.length + [(x, y)].length = es.length + 1 := rfl
  rw [hl1] at hrun hR
  have hcl := h1.lt
  have hown : (Value.slice ua es.length uc).ownBlock ≠ some cc := rw_ne h1 (by decide) h2
  have hc5 : T.Blk w5 cc [.slice ua es.length uc] 79 := (h1.below b3).block (hgrow.block cc (Nat.lt_of_lt_of_le hcl b3.size) (fun e => hown e.symm))
  have hFIN : Hid (CT (w5.setCell ⟨cc, 0, none⟩ (.slice (some ⟨g', 0, none⟩) (es.length + 1) cap)) cc B (cs ++ [x]) ∧ Kt B p cc w (w5.setCell ⟨cc, 0, none⟩ (.slice (some ⟨g', 0, none⟩) (es.length + 1) cap))) := by
    have hgc : g' ≠ cc := fun e => by
      rcases hat with e' | e'
      · exact hown (by rw [e', e])
      · have := b3.size; omega
    have hkw : ∀ k, k < w.heap.size → k ≠ cc → (Value.slice ua es.length uc).ownBlock ≠ some k → (w5.setCell ⟨cc, 0, none⟩ (.slice (some ⟨g', 0, none⟩) (es.length + 1) cap)).heap[k]? = w.heap[k]? := fun k hk hkc hko =>
      (Below.heap_setCell _ _ _ _ hkc).trans ((hgrow.block k (Nat.lt_of_lt_of_le hk b3.size) (fun e => hko e.symm)).trans (b3.block k hk))
    have hkid : ∀ (z : Sl3) (ks : List Int), KV w z ks → KV (w5.setCell ⟨cc, 0, none⟩ (.slice (some ⟨g', 0, none⟩) (es.length + 1) cap)) z ks := fun z ks hz => hz.keep fun g l hb => hkw g hb.lt (fun e => by
      subst e
      have h5 := hb.symm.trans h1
      simp at h5) (rw_ne hb (by decide) h2)
    refine ⟨⟨⟨_, es ++ [(x, y)], hc5.set (o := 0) _, ?_, by rw [List.map_append, h3]; rfl, fun e he => ?_⟩, h.bc⟩, ⟨?_, ?_, ?_, ?_, ?_⟩⟩
    · have h6 := hR.keep (w' := w5.setCell ⟨cc, 0, none⟩ (.slice (some ⟨g', 0, none⟩) (es.length + 1) cap)) fun k hk => by
        simp only [Value.ownBlock, Option.some.injEq] at hk
        subst hk
        exact Below.heap_setCell _ _ _ _ hgc
      exact h6
    · rcases List.mem_append.1 he with he | he
      · exact hkid _ _ (h4 e he)
      · have : e = (x, y) := by simpa using he
        subst this
        exact hkid _ _ hy
    · exact hgrow.os.trans b3.os
    · exact hgrow.tape.trans b3.tape
    · exact hgrow.output.trans b3.output
    · have := hgrow.size; have := b3.size; simp [World.setCell]; omega
    · intro k hk hf
      refine hkw k hk (fun e => hf (.inr (.inl e))) (fun e => ?_)
      have h5 := h2.at e
      rcases h2.2 with ⟨e0, _⟩ | ⟨g, cp, cur, e1, _, h6, _⟩
      · rw [e0] at e; cases e
      · rw [e1] at e
        simp only [Value.ownBlock, Option.some.injEq] at e
        subst e
        exact hf (.inr (.inr ⟨h5.1, cur.toList, _, by rw [Array.toArray_toList]; exact h6⟩))
  have c5 := hc5.cell 0
  have f5 := hc5.frozen 0
  have c6 : (w5.setCell ⟨cc, 0, none⟩ (.slice (some ⟨g', 0, none⟩) (es.length + 1) cap)).cell? ⟨cc, 0, none⟩ = some (.slice (some ⟨g', 0, none⟩) (es.length + 1) cap) := (hc5.set (o := 0) _).cell 0
  have c1 : (w.alloc (.cells C.toArray 54)).drew.cell? ⟨cc, 0, none⟩ = some (.slice ua es.length uc) := (h1.below b2).cell 0
  have c1' : (w.alloc (.cells C.toArray 54)).cell? ⟨cc, 0, none⟩ = some (.slice ua es.length uc) := (h1.below b1).cell 0
  have c2 : ((w.alloc (.cells C.toArray 54)).alloc (.cells C.toArray 54)).cell? ⟨cc, 0, none⟩ = some (.slice ua es.length uc) := (h1.below (T.bal b1 _)).cell 0
  have c2' : (((w.alloc (.cells C.toArray 54)).drew).alloc (.cells C.toArray 54)).cell? ⟨cc, 0, none⟩ = some (.slice ua es.length uc) := (h1.below b3).cell 0
  simp only [List.getElem?_cons_zero] at c5
  rw [hlen] at hrun hFIN c5 c6 c1 c1' c2 c2'
  have hrun' : (Builtin.append_ #[22, 22] 22 #[.slice ua cs.length uc, .slice (some ⟨w.heap.size + 1, 0, none⟩) 1 1]).run Tryd.prog (((w.alloc (.cells C.toArray 54)).drew).alloc (.cells C.toArray 54)) = .ok (.slice (some ⟨g', 0, none⟩) (cs.length + 1) cap) w5 := hrun
  have hCC : C = [.int .u8 (x.k : Int), .string (str x.col), .int .u8 (x.op : Int), .int .u8 (x.vk : Int), .int .i64 x.vn, .string (str x.vt), slW y] := hC.symm
  subst hCC
  have bx := T.blk_new w [.int .u8 (x.k : Int), .string (str x.col), .int .u8 (x.op : Int), .int .u8 (x.vk : Int), .int .i64 x.vn, .string (str x.vt), slW y] 54
  clear hC h h1 h2 h3 h4 hy hlen hlv hR hgrow hat hlt hown hc5 hrun hz b1 b2 b3 hl1 hcl
  have hn9 : cs.length ≤ 99000 := hfew
  generalize cs.length = n at *
  have HF := hFIN
  clear hFIN
  go_enter Tryd.func48, Tryd.ntmps48
  go_wp2_with fail
  go_region_law (first
    | (refine T.step_append_run rfl (.tmp 9) (.tmp 11) 22 rfl (.slice ua n uc) (.slice (some ⟨w.heap.size + 1, 0, none⟩) 1 1) rfl rfl (.slice (some ⟨g', 0, none⟩) (n + 1) cap) w5 hrun' ?_))
  all_goals go_wp2_with fail
  all_goals go_ret
  all_goals exact ⟨by simp, HF.out⟩
end Go.Proofs.YtipnaphikbjhbaaDoor
/-! ### The document's parser beside its parts; end. -/
namespace Go.Proofs.YtipnaphikbjhbaaDoor
open Go.RowKit
set_option maxRecDepth 100000
variable {w0 w w' w1 w2 : World} {p c g cc B : Nat} {a : Option Addr} {L : List Tk} {s s' : Ps} {cs : List Cd}
/-- The parser and its parts in memory. -/
structure CS (w0 w : World) (p : Nat) (a : Option Addr) (c : Nat) (L : List Tk) (g : Nat) (s : Ps) (cc B : Nat) (cs : List Cd) : Prop where
  pt : PT w p a c L g s
  ct : CT w cc B cs
  pb : p < B
  tb : 0 < L.length → ∀ b, a = some ⟨b, 0, none⟩ → b < B
  hB : B ≤ w.heap.size
  good : Good w0
  low : w0.heap.size ≤ p
  below : Below w0.heap.size w0 w
/-- What a deed leaves: the parser and its parts, and all else as it was. -/
structure CL (w0 w : World) (p : Nat) (a : Option Addr) (c : Nat) (L : List Tk) (g : Nat) (s : Ps) (cc B : Nat) (cs : List Cd) (w' : World) : Prop where
  st : CS w0 w' p a c L g s cc B cs
  kt : Kt B p cc w w'
theorem CS.gd (h : CS w0 w p a c L g s cc B cs) : Good w := h.good.below h.below
theorem CS.mk' {cs' : List Cd} (h : CS w0 w p a c L g s cc B cs) (k : Kt B p cc w w') (hp : PT w' p a c L g s') (hc : CT w' cc B cs') : CL w0 w p a c L g s' cc B cs' w' :=
  ⟨⟨hp, hc, h.pb, h.tb, Nat.le_trans h.hB k.size, h.good, h.low, h.below.trans (k.below (B := w0.heap.size) h.below.size (fun i hi hf => by
    have h1 := h.low
    have h2 := h.pb
    have h3 := h.ct.bc
    rcases hf with e | e | e <;> omega))⟩, k⟩
theorem CS.below' (h : CS w0 w p a c L g s cc B cs) (k : Below w.heap.size w w') : CS w0 w' p a c L g s cc B cs := (h.mk' (Kt.of k) (h.pt.below k) (h.ct.below k)).st
theorem CS.same (h : CS w0 w p a c L g s cc B cs) (k : Below w.heap.size w w') : CL w0 w p a c L g s cc B cs w' := h.mk' (Kt.of k) (h.pt.below k) (h.ct.below k)
theorem CL.more (h : CL w0 w p a c L g s cc B cs w1) (k : Below w1.heap.size w1 w') : CL w0 w p a c L g s cc B cs w' := ⟨h.st.below' k, Kt.trans h.kt (Kt.of k)⟩
theorem CL.pre (k : Below w.heap.size w w1) (h : CL w0 w1 p a c L g s cc B cs w') : CL w0 w p a c L g s cc B cs w' := ⟨h.st, Kt.trans (Kt.of k) h.kt⟩
theorem CL.and {cs' : List Cd} (h : CL w0 w p a c L g s cc B cs w1) (k : CL w0 w1 p a c L g s' cc B cs' w') : CL w0 w p a c L g s' cc B cs' w' := ⟨k.st, Kt.trans h.kt k.kt⟩
/-- A deed of the parser alone. -/
theorem CS.pd (h : CS w0 w p a c L g s cc B cs) (k : PD w p a c L g s' w') : CL w0 w p a c L g s' cc B cs w' := by
  have hb := h.pt.blk
  have h1 := h.pb
  have h2 := h.ct.bc
  refine h.mk' (k.kp.mono (fun i _ e => .inl e)) k.pt (h.ct.keep (fun b l t hbl ht => k.kp.block b hbl.lt (fun e => ?_)) (fun b l fr hB hbl => k.kp.block b (Array.getElem?_eq_some_iff.1 hbl).1 (by omega)))
  subst e
  have h3 := hbl.symm.trans hb
  simp only [Option.some.injEq, Obj.cells.injEq] at h3
  rcases ht with ⟨e1, _⟩ | e1 <;> (rw [e1] at h3; exact absurd h3.2.1 (by decide))
/-- One part more. -/
theorem CS.adds {x : Cd} (h : CS w0 w p a c L g s cc B cs) (hc : CT w' cc B (cs ++ [x])) (k : Kt B cc cc w w') : CL w0 w p a c L g s cc B (cs ++ [x]) w' := by
  have h1 := h.pb
  have h2 := h.ct.bc
  refine h.mk' (k.mono (fun i _ e => by rcases e with e | e | e; exact .inr (.inl e); exact .inr (.inl e); exact .inr (.inr e))) (h.pt.keep k (fun e => ?_) (fun hL b hb e => ?_)) hc
  · rcases e with e | e | e <;> omega
  · have := h.tb hL b hb
    rcases e with e | e | e <;> omega
/-- Behind all. -/
def endP (L : List Tk) (g : Nat) (s : Ps) : Ps := if s.e = 0 ∧ s.n < L.length then wrP L g s else s
theorem end32 (h : PT w p a c L g s) : Calls Tryd.prog 32 #[.pointer (some ⟨p, 0, none⟩)] w fun e w' => e = .returned (.tuple #[]) ∧ PD w p a c L g (endP L g s) w' := by
  have c0 := h.blk.cell 0
  have c1 := h.blk.cell 1
  have c3 := h.blk.cell 3
  simp only [List.getElem?_cons_zero, List.getElem?_cons_succ] at c0 c1 c3
  have H45 : Hid (∀ W, Below w.heap.size w W → Calls Tryd.prog 45 #[.pointer (some ⟨p, 0, none⟩)] W fun e w' => e = .returned (.tuple #[]) ∧ PD W p a c L g (wrP L g s) w') := fun W k => wrong45 (h.below k)
  have HS : Hid (∀ W, Below w.heap.size w W → PD w p a c L g s W) := fun W k => PD.same h k
  unfold endP
  by_cases he : s.e = 0
  · rw [he] at c3
    by_cases hn : s.n < L.length
    · rw [if_pos ⟨he, hn⟩]
      have hni : (s.n : Int) < (L.length : Int) := by omega
      clear h he
      generalize wrP L g s = sw at *
      generalize L.length = ln at *
      generalize s.n = sn at *
      go_enter Tryd.func32, Tryd.ntmps32
      go_wp2_with fail
      go_quiet (fail)
      go_wp2_with (go_at_call 45; (refine (H45.out _ (belN (Below.refl _ _) _)).mono ?_; rintro e w3 ⟨rfl, h3⟩; have H3 : Hid (PD w p a c L g sw w3) := PD.pre (belN (Below.refl _ _) _) h3; clear h3))
      go_end0
      exact ⟨rfl, H3.out⟩
    · rw [if_neg (fun e => hn e.2)]
      have hni : ¬ (s.n : Int) < (L.length : Int) := by omega
      clear h he H45
      generalize L.length = ln at *
      generalize s.n = sn at *
      go_enter Tryd.func32, Tryd.ntmps32
      go_wp2_with fail
      go_quiet (fail)
      go_wp2_with fail
      go_end0
      exact ⟨rfl, HS.out _ (belN (Below.refl _ _) _)⟩
  · rw [if_neg (fun e => he e.1)]
    obtain ⟨n1, n2, n3, n4, n5⟩ := nz_facts he
    clear h he H45
    generalize L.length = ln at *
    generalize s.n = sn at *
    generalize s.e = se at *
    go_enter Tryd.func32, Tryd.ntmps32
    go_wp2_with fail
    go_quiet (fail)
    go_wp2_with fail
    go_end0
    exact ⟨rfl, HS.out _ (belN (Below.refl _ _) _)⟩
end Go.Proofs.YtipnaphikbjhbaaDoor
/-! ### A condition, read: what is wrong, too deep, not. -/
namespace Go.Proofs.YtipnaphikbjhbaaDoor
open Go.RowKit
set_option maxRecDepth 100000
variable {w0 w w' w1 w2 : World} {p c g cc B : Nat} {a : Option Addr} {L : List Tk} {s s' : Ps} {cs : List Cd}
def CPost (w0 : World) (p : Nat) (a : Option Addr) (c : Nat) (L : List Tk) (g : Nat) (cc B f : Nat) (s : Ps) (cs : List Cd) (w : World) (e : Ending) (w' : World) : Prop :=
  e = .returned (.int .i64 ((condP L g f s cs).1 : Int)) ∧ CL w0 w p a c L g (condP L g f s cs).2.1 cc B (condP L g f s cs).2.2 w'
abbrev tok4 (xk : Nat) (xt : Bs) (xn : Int) (xa : Nat) : Obj := .cells #[.int .u8 (xk : Int), .string (str xt), .int .i64 xn, .int .i64 (xa : Int)] 97
theorem condP_wr {f : Nat} (hc : s.e ≠ 0 ∨ (lkP L g s).k = 0) : condP L g f s cs = (0, wrP L g s, cs) := by
  cases f <;> (unfold condP; rw [if_pos hc])
theorem cond_wr (h : CS w0 w p a c L g s cc B cs) (lv : Int) (hc : s.e ≠ 0 ∨ (lkP L g s).k = 0) : Calls Tryd.prog 31 #[.pointer (some ⟨p, 0, none⟩), .pointer (some ⟨cc, 0, none⟩), .int .i64 lv] w fun e w' => e = .returned (.int .i64 0) ∧ CL w0 w p a c L g (wrP L g s) cc B cs w' := by
  have k44 := look44 h.pt
  have H : Hid (CS w0 w p a c L g s cc B cs) := h
  have HC : Hid (∀ W, Below w.heap.size w W → W.cell? ⟨p, 3, none⟩ = some (.int .i64 (s.e : Int))) := fun W k => (h.pt.below k).cells.2.1
  have H45 : Hid (∀ W, Below w.heap.size w W → Calls Tryd.prog 45 #[.pointer (some ⟨p, 0, none⟩)] W fun e w' => e = .returned (.tuple #[]) ∧ CL w0 W p a c L g (wrP L g s) cc B cs w') := fun W k => (wrong45 (h.pt.below k)).mono (by
    rintro e w' ⟨rfl, hd⟩
    exact ⟨rfl, (h.below' k).pd hd⟩)
  obtain ⟨x, hx⟩ : ∃ x, lkP L g s = x := ⟨_, rfl⟩
  rw [hx] at k44 hc
  obtain ⟨xk, xt, xn, xa⟩ := x
  simp only at hc k44
  generalize wrP L g s = sw at *
  clear h hx
  by_cases he : s.e = 0
  · have hk : xk = 0 := hc.resolve_left (fun e => e he)
    have e1 : ((xk : Int) == 0) = true := by rw [hk]; rfl
    have e2 : (xk == 0) = true := by rw [hk]; rfl
    rw [he] at HC
    clear hc he hk
    go_enter Tryd.func31, Tryd.ntmps31
    go_wp2_with (first
      | (go_at_call 45; (refine k45.mono ?_; rintro e w3 ⟨rfl, h3⟩; have H3 : Hid (CL w0 w p a c L g sw cc B cs w3) := CL.pre HBB.out h3; clear h3))
      | (go_at_call 44; (refine k44.mono ?_; rintro e w1 ⟨rfl, B1⟩; have bb := T.bal B1 (tok4 xk xt xn xa); have c3 := HC.out _ bb; have k45 := H45.out _ bb; have HBB : Hid (Below w.heap.size w (w1.alloc (tok4 xk xt xn xa))) := bb; clear bb)))
    go_ret
    exact ⟨rfl, H3.out⟩
  · obtain ⟨n1, n2, n3, n4, n5⟩ := nz_facts he
    generalize hse : s.e = se at *
    clear hc he hse
    go_enter Tryd.func31, Tryd.ntmps31
    go_wp2_with (first
      | (go_at_call 45; (refine k45.mono ?_; rintro e w3 ⟨rfl, h3⟩; have H3 : Hid (CL w0 w p a c L g sw cc B cs w3) := CL.pre HBB.out h3; clear h3))
      | (go_at_call 44; (refine k44.mono ?_; rintro e w1 ⟨rfl, B1⟩; have bb := T.bal B1 (tok4 xk xt xn xa); have c3 := HC.out _ bb; have k45 := H45.out _ bb; have HBB : Hid (Below w.heap.size w (w1.alloc (tok4 xk xt xn xa))) := bb; clear bb)))
    go_ret
    exact ⟨rfl, H3.out⟩
theorem cond_deep (h : CS w0 w p a c L g s cc B cs) (he : s.e = 0) (hk : (lkP L g s).k ≠ 0) : Calls Tryd.prog 31 #[.pointer (some ⟨p, 0, none⟩), .pointer (some ⟨cc, 0, none⟩), .int .i64 7] w fun e w' => e = .returned (.int .i64 0) ∧ CL w0 w p a c L g (s.bad 16 (lkP L g s).a) cc B cs w' := by
  have k44 := look44 h.pt
  have HC : Hid (∀ W, Below w.heap.size w W → W.cell? ⟨p, 3, none⟩ = some (.int .i64 0)) := fun W k => by
    have := (h.pt.below k).cells.2.1
    rw [he] at this
    exact this
  have H46 : Hid (∀ W (xa : Nat), Below w.heap.size w W → Calls Tryd.prog 46 #[.pointer (some ⟨p, 0, none⟩), .int .i64 16, .int .i64 (xa : Int)] W fun e w' => e = .returned (.tuple #[]) ∧ CL w0 W p a c L g (s.bad 16 xa) cc B cs w') := fun W xa k => Calls.mono (bad46 (h.pt.below k) 16 xa) (by
    rintro e w' ⟨rfl, hd⟩
    exact ⟨rfl, (h.below' k).pd hd⟩)
  obtain ⟨x, hx⟩ : ∃ x, lkP L g s = x := ⟨_, rfl⟩
  rw [hx] at k44 hk ⊢
  obtain ⟨xk, xt, xn, xa⟩ := x
  simp only at hk k44 ⊢
  obtain ⟨n1, n2, n3, n4, n5⟩ := nz_facts hk
  clear h hx he hk
  go_enter Tryd.func31, Tryd.ntmps31
  go_wp2_with (first
    | (go_at_call 46; (refine Calls.mono k46 ?_; rintro e w3 ⟨rfl, h3⟩; have H3 : Hid (CL w0 w p a c L g (s.bad 16 xa) cc B cs w3) := CL.pre HBB.out h3; clear h3))
    | (go_at_call 44; (refine k44.mono ?_; rintro e w1 ⟨rfl, B1⟩; have bb := T.bal B1 (tok4 xk xt xn xa); have c3 := HC.out _ bb; have k46 := H46.out _ xa bb; have HBB : Hid (Below w.heap.size w (w1.alloc (tok4 xk xt xn xa))) := bb; clear bb)))
  go_ret
  exact ⟨rfl, H3.out⟩
end Go.Proofs.YtipnaphikbjhbaaDoor
/-! ### A condition, read: not. -/
namespace Go.Proofs.YtipnaphikbjhbaaDoor
open Go.RowKit
set_option maxRecDepth 100000
variable {w0 w w' w1 w2 : World} {p c g cc B : Nat} {a : Option Addr} {L : List Tk} {s s' : Ps} {cs : List Cd}
/-- What is known of the conditions within. -/
def IHc (w0 : World) (p : Nat) (a : Option Addr) (c : Nat) (L : List Tk) (g : Nat) (cc B f : Nat) (lv : Int) : Prop := ∀ (w : World) (s : Ps) (cs : List Cd), CS w0 w p a c L g s cc B cs → cs.length + 2 ^ f ≤ 90000 → Calls Tryd.prog 31 #[.pointer (some ⟨p, 0, none⟩), .pointer (some ⟨cc, 0, none⟩), .int .i64 lv] w (CPost w0 p a c L g cc B f s cs w)
theorem condP_len : ∀ (f : Nat) (s : Ps) (cs : List Cd), (condP L g f s cs).2.2.length + 1 ≤ cs.length + 2 ^ f
  | 0, s, cs => by
    unfold condP
    split <;> simp
  | f + 1, s, cs => by
    have hp : 2 ^ (f + 1) = 2 * 2 ^ f := by rw [Nat.pow_succ, Nat.mul_comm]
    have h1 : 1 ≤ 2 ^ f := Nat.one_le_two_pow
    unfold condP
    split
    · simp; omega
    · split
      · have := condP_len f s.up cs
        simp only [List.length_append, List.length_cons, List.length_nil]
        omega
      · split
        · have i1 := condP_len f s.up cs
          have i2 := condP_len f (if hitP L g 1 [97, 110, 100] (condP L g f s.up cs).2.1 = true then (condP L g f s.up cs).2.1.up else musP L g 1 [111, 114] (condP L g f s.up cs).2.1) (condP L g f s.up cs).2.2
          simp only [List.length_append, List.length_cons, List.length_nil]
          omega
        · unfold cmpC
          simp only [List.length_append, List.length_cons, List.length_nil]
          omega
/-- One kid, in a new block. -/
theorem kv_one (w : World) (r : Int) : KV (w.alloc (.cells #[.int .i64 r] 3)) (some ⟨w.heap.size, 0, none⟩, 1, 1) [r] := .inr ⟨w.heap.size, 1, rfl, Nat.le_refl _, T.blk_new w [.int .i64 r] 3⟩
theorem kv_two (w : World) (r q : Int) : KV (w.alloc (.cells #[.int .i64 r, .int .i64 q] 3)) (some ⟨w.heap.size, 0, none⟩, 2, 2) [r, q] := .inr ⟨w.heap.size, 2, rfl, Nat.le_refl _, T.blk_new w [.int .i64 r, .int .i64 q] 3⟩
theorem CS.add (h : CS w0 w p a c L g s cc B cs) (x : Cd) (y : Sl3) (hy : KV w y x.kids) (hfew : cs.length ≤ 99000) : Calls Tryd.prog 48 #[.pointer (some ⟨cc, 0, none⟩), .agg #[.int .u8 (x.k : Int), .string (str x.col), .int .u8 (x.op : Int), .int .u8 (x.vk : Int), .int .i64 x.vn, .string (str x.vt), slW y]] w fun e w' => e = .returned (.int .i64 (cs.length : Int)) ∧ CL w0 w p a c L g s cc B (cs ++ [x]) w' := (add48 h.ct x y hy hfew h.hB cc).mono (by
  rintro e w' ⟨rfl, h1, h2⟩
  exact ⟨rfl, h.adds h1 h2⟩)
theorem hitk {k : Nat} {t : Bs} (h : hitP L g k t s = true) : s.e = 0 ∧ (lkP L g s).k = k := ⟨(hit_yes h).1, (hit_yes h).2.1⟩
set_option maxHeartbeats 2000000 in
theorem cond_not (h : CS w0 w p a c L g s cc B cs) (f : Nat) (lv : Int) (hlv : 0 ≤ lv ∧ lv ≤ 6) (hh : hitP L g 1 [110, 111, 116] s = true) (hfew : cs.length + 2 ^ (f + 1) ≤ 90000) (ih : IHc w0 p a c L g cc B f (lv + 1)) :
    Calls Tryd.prog 31 #[.pointer (some ⟨p, 0, none⟩), .pointer (some ⟨cc, 0, none⟩), .int .i64 lv] w (CPost w0 p a c L g cc B (f + 1) s cs w) := by
  obtain ⟨he, hk⟩ := hitk hh
  have hp2 : 2 ^ (f + 1) = 2 * 2 ^ f := by rw [Nat.pow_succ, Nat.mul_comm]
  have hlen := condP_len (L := L) (g := g) f s.up cs
  have hcond : condP L g (f + 1) s cs = ((condP L g f s.up cs).2.2.length, (condP L g f s.up cs).2.1, (condP L g f s.up cs).2.2 ++ [⟨4, [], 0, 0, 0, [], [((condP L g f s.up cs).1 : Int)]⟩]) := by
    rw [condP, if_neg (by rw [he, hk]; simp), if_pos hh]
  have k44 := look44 h.pt
  have HC : Hid (∀ W, Below w.heap.size w W → W.cell? ⟨p, 3, none⟩ = some (.int .i64 0)) := fun W k => by
    have := (h.pt.below k).cells.2.1
    rw [he] at this
    exact this
  have H47 : Hid (∀ W, Below w.heap.size w W → Calls Tryd.prog 47 #[.pointer (some ⟨p, 0, none⟩), .int .u8 1, .string ⟨#[110, 111, 116]⟩] W fun e w' => e = .returned (.bool true) ∧ CL w0 W p a c L g s.up cc B cs w') := fun W k => Calls.mono (is47_yes (h.pt.below k) (k := 1) (t := [110, 111, 116]) (q := ⟨#[110, 111, 116]⟩) rfl (by decide) hh) (by
    rintro e w' ⟨rfl, hd⟩
    exact ⟨rfl, (h.below' k).pd hd⟩)
  have HIH : Hid (∀ W, CS w0 W p a c L g s.up cc B cs → Calls Tryd.prog 31 #[.pointer (some ⟨p, 0, none⟩), .pointer (some ⟨cc, 0, none⟩), .int .i64 (lv + 1)] W fun e w' => e = .returned (.int .i64 ((condP L g f s.up cs).1 : Int)) ∧ CL w0 W p a c L g (condP L g f s.up cs).2.1 cc B (condP L g f s.up cs).2.2 w') := fun W hW => ih W s.up cs hW (by omega)
  have HL : Hid ((condP L g f s.up cs).2.2.length ≤ 90000) := by show _ ≤ _; omega
  obtain ⟨x, hx⟩ : ∃ x, lkP L g s = x := ⟨_, rfl⟩
  rw [hx] at k44 hk
  obtain ⟨xk, xt, xn, xa⟩ := x
  simp only at hk k44
  obtain ⟨m1, m2, m3, m4, m5⟩ := nz_facts (x := xk) (by omega)
  have hl1 : ¬ (6 : Int) < lv := by omega
  have hw1 : IntKind.i64.wrap (lv + 1) = lv + 1 := wrap_small _ (by omega) (by omega)
  have HCP : Hid (∀ (W : World) (e : Ending), e = .returned (.int .i64 ((condP L g f s.up cs).2.2.length : Int)) → CL w0 w p a c L g (condP L g f s.up cs).2.1 cc B ((condP L g f s.up cs).2.2 ++ [⟨4, [], 0, 0, 0, [], [((condP L g f s.up cs).1 : Int)]⟩]) W → CPost w0 p a c L g cc B (f + 1) s cs w e W) := fun W e he hW => by
    unfold CPost
    rw [hcond]
    exact ⟨he, hW⟩
  clear h hh hx he hk hlen hcond ih hp2 hfew
  generalize condP L g f s.up cs = R at *
  obtain ⟨r, s1, c1⟩ := R
  simp only at HL HCP
  go_enter Tryd.func31, Tryd.ntmps31
  go_wp2_with (first
    | (go_at_call 48; (refine Calls.mono k48 ?_; rintro e w6 ⟨rfl, h6⟩; have H6 : Hid (CL w0 w p a c L g s1 cc B (c1 ++ [⟨4, [], 0, 0, 0, [], [(r : Int)]⟩]) w6) := (HCL.out.more (T.al _ _)).and h6; clear h6))
    | (go_at_call 31; (refine Calls.mono k31 ?_; rintro e w5 ⟨rfl, h5⟩; have HCL : Hid (CL w0 w p a c L g s1 cc B c1 w5) := HCL2.out.and h5; have k48 : Calls Tryd.prog 48 #[.pointer (some ⟨cc, 0, none⟩), .agg #[.int .u8 4, .string ⟨#[]⟩, .int .u8 0, .int .u8 0, .int .i64 0, .string ⟨#[]⟩, .slice (some ⟨w5.heap.size, 0, none⟩) 1 1]] (w5.alloc (.cells #[.int .i64 (r : Int)] 3)) _ := (h5.st.below' (T.al w5 (.cells #[.int .i64 (r : Int)] 3))).add ⟨4, [], 0, 0, 0, [], [(r : Int)]⟩ (some ⟨w5.heap.size, 0, none⟩, 1, 1) (kv_one w5 (r : Int)) (Nat.le_trans HL.out (by decide)); clear h5 k31))
    | (go_at_call 47; (refine k47.mono ?_; rintro e w2 ⟨rfl, h2⟩; have k31 := HIH.out w2 h2.st; have HCL2 : Hid (CL w0 w p a c L g s.up cc B cs w2) := CL.pre HBB.out h2; clear h2 k47))
    | (go_at_call 44; (refine k44.mono ?_; rintro e w1 ⟨rfl, B1⟩; have bb := T.bal B1 (tok4 xk xt xn xa); have c3 := HC.out _ bb; have k47 := H47.out _ bb; have HBB : Hid (Below w.heap.size w (w1.alloc (tok4 xk xt xn xa))) := bb; clear bb)))
  go_ret
  exact HCP.out _ _ rfl H6.out
end Go.Proofs.YtipnaphikbjhbaaDoor
