/- From what a row says of the world when the call begins to what the walks ask; a world in which it is so; a case that came in. -/
import Derived.Test.YtipnaphikbjhbaaDoorRe
import Derived.Test.YtipnaphikbjhbaaDoorCards
import Derived.Test.YtipnaphikbjhbaaDoorTie
import Derived.Lib.LaidIn
import Derived.Lib.LaidU8T
import Derived.Deep.DeepHandedRow
import Derived.Deep.DeepWitnessRowRef
import Derived.Deep.Slices
import Derived.Deep.Strs
import Derived.Deep.MidRow
import Derived.ProofKit
import Derived.SizedLaws
import Derived.PinnedBridge
import Derived.Shelf.Vars
import Derived.LaidMore
import Derived.OpenShut
import Derived.Lib.SmallJoins
namespace Go.Proofs.YtipnaphikbjhbaaDoor
open Go.ChangeShapes Go.WideShapes Go.ChangeAt Go.RowKit Go.Lib Go.Joins Go.Deep
set_option maxRecDepth 100000

theorem own : ownKnob Tryd.prog.godebug = none := by kernel_rfl
theorem laidOut : laidOutB Tryd.prog = true := by kernel_rfl

/-- The two tables, as the rows list them. -/
def tabs2 : List (String × DataW Unit) := Rows.exprNegatedRow.laid
theorem accept_eq : (Rows.laid_unicode_utf8_acceptRanges : DataW Unit) = acceptData := by kernel_rfl
theorem first_eq : Rows.laid_unicode_utf8_first = firstData := Pinned.utf8First_eq

theorem good_of {W : World} (hL : laidMetH Tryd.prog tabs2 W) (hS : W.ShapedOpen Tryd.prog) : Good W := by
  rw [MakeChecks.laidMetH_plain _ _ _ (by kernel_rfl)] at hL
  refine ⟨?_, ?_⟩
  · have h4 := Lib.laidMet.reads hL (.head _)
    have h3 := Lib.laidMet.reads hL (.tail _ (.head _))
    rw [accept_eq] at h4
    rw [first_eq] at h3
    exact utf8Tabs_of_readsT (U8Types.of196 Tryd.lays196) ⟨by kernel_rfl, by kernel_rfl, by kernel_rfl, by kernel_rfl, by kernel_rfl, by kernel_rfl, by kernel_rfl⟩ h3 h4
  · exact cell_of_shapedOpen_int (g := 0) (t := 3) (zero := #[.int .i64 0]) hS (of_decide_eq_true (by kernel_rfl)) (by kernel_rfl) rfl (by kernel_rfl) (by kernel_rfl) Tryd.underlying3

/-- A world with the two tables laid. -/
def laidIn (w : World) : World :=
  { w with heap := (w.heap.modify 1 fun
      | .cells _ t frozen => .cells (Lib.firstTab.map fun z => Value.int .u8 z).toArray t frozen
      | o => o).modify 2 fun
      | .cells _ t frozen => .cells ((List.range 16).flatMap fun i => [Value.int .u8 (Lib.accLo i), Value.int .u8 (Lib.accHi i)]).toArray t frozen
      | o => o }

theorem laid_met (os : Os) (args : Array Value) : laidMetH Tryd.prog tabs2 ((laidIn (World.holding Tryd.prog os ⟨#[], #[], []⟩)).forCall (fun _ _ => 0) ⟨#[], args, []⟩).memory := by
  rw [MakeChecks.laidMetH_plain _ _ _ (by kernel_rfl)]
  exact (LaidIn.of_run (l := tabs2) [1, 2] 8 (by kernel_rfl) (by kernel_rfl) (by kernel_rfl) (by kernel_rfl)).met

section
variable {H : Type} {enc : TypeId × Value → H} {W : World}
/-- A slice that came in, as a list. -/
theorem openL {α : Type} (E : T.Ety α) (hcl : Tryd.prog.cellsOf E.tE = E.m) (z0 : α) (P : α → DataW H → Prop) (hP : ∀ n cs x, DataW.trod enc Tryd.prog W 0 (fun _ => true) true n E.tE cs = some x → ∃ y : α, cs = E.enc y ∧ P y x.1)
    {fuel : Nat} {a0 : Option Addr} {len0 cap0 : Nat} {x : DataW H × List MemPlace} (hf : DataW.trod enc Tryd.prog W 0 (fun _ => true) true fuel E.tS [.slice a0 len0 cap0] = some x) :
    cap0 ≤ maxLen ∧ ∃ L : List α, L.length = len0 ∧ T.LV E W (.slice a0 len0 cap0) L ∧ ((x.1 = .nil ∧ L = []) ∨ ∃ (D : Nat → DataW H) (sp : List (DataW H)), x.1 = .slice ((List.range len0).map D) sp ∧ ∀ i y, L[i]? = some y → P y (D i)) := by
  rcases open_slice E.und hf with ⟨hcs, hx⟩ | ⟨a, len, cap, m, n, D, Pl, hcs, _, hl, hm, hme, hx, hc⟩
  · simp at hcs
    obtain ⟨rfl, rfl, rfl⟩ := hcs
    exact ⟨Nat.zero_le _, [], rfl, T.LV.nil _ _ _ _, .inl ⟨congrArg Prod.fst hx, rfl⟩⟩
  · simp at hcs
    obtain ⟨rfl, rfl, rfl⟩ := hcs
    have hml : len0 ≤ m := by rw [hme]; simp; exact hl
    have hex : ∀ i, i < len0 → ∃ y : α, W.cells? 0 (a.add (i * E.m)) E.m = some (E.enc y) ∧ P y (D i) := by
      intro i hi
      obtain ⟨cs', hcc, ht⟩ := hc i (by omega)
      obtain ⟨y, rfl, hy⟩ := hP _ _ _ ht
      rw [hcl] at hcc
      exact ⟨y, hcc, hy⟩
    obtain ⟨f, hf2⟩ : ∃ f : Nat → α, ∀ i, i < len0 → W.cells? 0 (a.add (i * E.m)) E.m = some (E.enc (f i)) ∧ P (f i) (D i) := by
      refine ⟨fun i => if hi : i < len0 then Classical.choose (hex i hi) else z0, fun i hi => ?_⟩
      have := Classical.choose_spec (hex i hi)
      simp only [hi, dif_pos]
      exact this
    have hLl : ((List.range len0).map f).length = len0 := by simp
    refine ⟨hm, (List.range len0).map f, hLl, ?_, .inr ⟨D, _, congrArg Prod.fst hx, fun i y hy => ?_⟩⟩
    · refine ⟨some a, cap0, by rw [hLl], by rw [hLl]; exact hl, fun h0 => ?_⟩
      rw [hLl] at h0
      obtain ⟨b, off, spot⟩ := a
      have hspot : spot = none := by
        have hq := (World.cells?_some (hf2 0 h0).1).2.2 0 E.pos
        rw [List.getElem?_eq_getElem (by rw [E.len]; exact E.pos)] at hq
        have := World.cell?_spot hq
        simpa [Addr.add] using this
      subst hspot
      have hat : ∀ i, i < len0 → ∀ r, r < E.m → W.cell? ⟨b, off + i * E.m + r, none⟩ = (E.enc (f i))[r]? := fun i hi r hr => by
        have := (World.cells?_some (hf2 i hi).1).2.2 r hr
        rw [Addr.add_mid, Addr.add_mid] at this
        exact this
      have hcell : ∀ i, W.cell? ⟨b, i, none⟩ = (match W.heap[b]? with | some (.cells c _ _) => c[i]? | _ => none) := fun i => by
        unfold World.cell?
        cases W.heap[b]? with
        | none => rfl
        | some ob => cases ob <;> rfl
      have h1 := hat 0 h0 0 E.pos
      rw [List.getElem?_eq_getElem (by rw [E.len]; exact E.pos), hcell] at h1
      cases hh : W.heap[b]? with
      | none => rw [hh] at h1; cases h1
      | some ob =>
        cases ob <;> (try (rw [hh] at h1; cases h1; done))
        rename_i cs t fr
        refine ⟨b, off, cs.toList, t, rfl, ⟨fr, by simp [hh]⟩, fun j u hu => ?_⟩
        have hjl := (List.getElem?_eq_some_iff.1 hu).1
        rw [T.cells_len, hLl] at hjl
        have hi : j / E.m < len0 := Nat.div_lt_of_lt_mul (by rw [Nat.mul_comm]; exact hjl)
        have hr : j % E.m < E.m := Nat.mod_lt _ E.pos
        have h2 := hat _ hi _ hr
        have h3 := T.cells_get E (L := (List.range len0).map f) (i := j / E.m) (x := f (j / E.m)) (by simp [hi]) hr
        rw [Nat.div_add_mod'] at h3
        rw [Nat.add_assoc, Nat.div_add_mod', hcell, hh] at h2
        rw [Array.getElem?_toList]
        exact h2.trans (h3.symm.trans hu)
    · have hi : i < len0 := by have := (List.getElem?_eq_some_iff.1 hy).1; rwa [hLl] at this
      have e : f i = y := by simpa [hi] using hy
      rw [← e]
      exact (hf2 i hi).2
theorem cellsOf3 : Tryd.prog.cellsOf 3 = 1 := by kernel_rfl
theorem cellsOf2 : Tryd.prog.cellsOf 2 = 1 := by kernel_rfl
theorem cellsOf9 : Tryd.prog.cellsOf 9 = 1 := by kernel_rfl
theorem cellsOf27 : Tryd.prog.cellsOf 27 = 1 := by kernel_rfl
theorem cellsOf28 : Tryd.prog.cellsOf 28 = 1 := by kernel_rfl
theorem cellsOf51 : Tryd.prog.cellsOf 51 = 1 := by kernel_rfl
theorem cellsOf22 : Tryd.prog.cellsOf 22 = 1 := by kernel_rfl
theorem cellsOf23 : Tryd.prog.cellsOf 23 = 1 := by kernel_rfl
theorem cellsOf24 : Tryd.prog.cellsOf 24 = 1 := by kernel_rfl
theorem cellsOf52 : Tryd.prog.cellsOf 52 = 1 := by kernel_rfl
theorem cellsOf26 : Tryd.prog.cellsOf 26 = 3 := by kernel_rfl
theorem cellsOf30 : Tryd.prog.cellsOf 30 = 3 := by kernel_rfl
theorem cellsOf42 : Tryd.prog.cellsOf 42 = 2 := by kernel_rfl
theorem cellsOf54 : Tryd.prog.cellsOf 54 = 7 := by kernel_rfl
/-- A byte that came in. -/
theorem u8_of {t : TypeId} {n : Nat} {c : Value} {x : DataW H × List MemPlace} (ht : Tryd.prog.underlying t = some (.int .u8)) (h : DataW.trod enc Tryd.prog W 0 (fun _ => true) true n t [c] = some x) : ∃ k : Nat, c = .int .u8 (k : Int) := by
  obtain ⟨a, e, _, wf⟩ := DataW.trod_int ht h
  simp at e
  subst e
  have h0 : (0 : Int) ≤ a := by
    simp [Lit.wf] at wf
    first | exact wf.1 | omega | (have := wf; simp [IntKind.min, IntKind.max] at this; omega)
  exact ⟨a.toNat, by rw [Int.toNat_of_nonneg h0]⟩
theorem va_cells {n : Nat} {cs : List Value} {x : DataW H × List MemPlace} (h : DataW.trod enc Tryd.prog W 0 (fun _ => true) true n 30 cs = some x) : ∃ y : Va, cs = EV.enc y ∧ True := by
  obtain ⟨y0, y1, y2, m, hx, hl, h0, h1, h2⟩ := trod_struct3 Tryd.underlying30 h
  rw [cellsOf30] at hl
  match cs, hl with
  | [c0, c1, c2], _ =>
    simp only [cellsOf28, cellsOf2, cellsOf9] at h0 h1 h2
    obtain ⟨k, e0⟩ := u8_of Tryd.underlying28 (c := c0) h0
    obtain ⟨b, e1, x1, wb⟩ := DataW.trod_int Tryd.underlying2 h1
    obtain ⟨s, e2, x2, _⟩ := DataW.trod_string Tryd.underlying9 h2
    simp at e1 e2
    subst e0 e1 e2
    exact ⟨(k, b, bs s), by simp [EV, str_bs], trivial⟩
theorem co_cells {n : Nat} {cs : List Value} {x : DataW H × List MemPlace} (h : DataW.trod enc Tryd.prog W 0 (fun _ => true) true n 42 cs = some x) : ∃ y : Co, cs = EK.enc y ∧ True := by
  obtain ⟨y0, y1, m, hx, hl, h0, h1⟩ := trod_struct2 Tryd.underlying42 h
  rw [cellsOf42] at hl
  match cs, hl with
  | [c0, c1], _ =>
    simp only [cellsOf28, cellsOf9] at h0 h1
    obtain ⟨s, e0, x2, _⟩ := DataW.trod_string Tryd.underlying9 h0
    obtain ⟨k, e1⟩ := u8_of Tryd.underlying28 (c := c1) h1
    simp at e0
    subst e0 e1
    exact ⟨(bs s, k), by simp [EK, str_bs], trivial⟩
theorem int_cells {n : Nat} {cs : List Value} {x : DataW H × List MemPlace} (h : DataW.trod enc Tryd.prog W 0 (fun _ => true) true n 3 cs = some x) : ∃ y : Int, cs = EI.enc y ∧ True := by
  obtain ⟨b, e1, x1, wb⟩ := DataW.trod_int Tryd.underlying3 h
  exact ⟨b, e1, trivial⟩
/-- A part that came in. -/
def CIn (W : World) (z : Ce) (d : DataW H) : Prop := T.LV EI W (slW z.2) z.1.kids ∧ ∃ d0 d2 d3 dk, d = .agg [d0, .lit (.string z.1.col), d2, d3, dk] ∧ (z.1.kids = [] ∨ ∃ es sp, dk = .slice es sp ∧ es.length = z.1.kids.length)
theorem cd_cells {n : Nat} {cs : List Value} {x : DataW H × List MemPlace} (h : DataW.trod enc Tryd.prog W 0 (fun _ => true) true n 54 cs = some x) : ∃ y : Ce, cs = EC.enc y ∧ CIn W y x.1 := by
  obtain ⟨xs, m, _, rfl, hl, hlen, hf⟩ := DataW.trod_struct Tryd.underlying54 h
  rw [cellsOf54] at hl
  match xs, hlen with
  | [y0, y1, y2, y3, y4], _ =>
    match cs, hl with
    | [c0, c1, c2, c3, c4, c5, c6], _ =>
      have h0 : DataW.trod enc Tryd.prog W 0 (fun _ => true) true m 51 (([c0, c1, c2, c3, c4, c5, c6].drop 0).take (Tryd.prog.cellsOf 51)) = some y0 := hf 0 _ rfl
      have h1 : DataW.trod enc Tryd.prog W 0 (fun _ => true) true m 9 (([c0, c1, c2, c3, c4, c5, c6].drop 1).take (Tryd.prog.cellsOf 9)) = some y1 := hf 1 _ rfl
      have h2 : DataW.trod enc Tryd.prog W 0 (fun _ => true) true m 27 (([c0, c1, c2, c3, c4, c5, c6].drop 2).take (Tryd.prog.cellsOf 27)) = some y2 := hf 2 _ rfl
      have h3 : DataW.trod enc Tryd.prog W 0 (fun _ => true) true m 30 (([c0, c1, c2, c3, c4, c5, c6].drop 3).take (Tryd.prog.cellsOf 30)) = some y3 := hf 3 _ rfl
      have h4 : DataW.trod enc Tryd.prog W 0 (fun _ => true) true m 52 (([c0, c1, c2, c3, c4, c5, c6].drop 6).take (Tryd.prog.cellsOf 52)) = some y4 := hf 4 _ rfl
      rw [cellsOf51] at h0
      rw [cellsOf9] at h1
      rw [cellsOf27] at h2
      rw [cellsOf30] at h3
      rw [cellsOf52] at h4
      obtain ⟨k, e0⟩ := u8_of Tryd.underlying51 (c := c0) h0
      obtain ⟨s, e1, x1, _⟩ := DataW.trod_string Tryd.underlying9 h1
      obtain ⟨o, e2⟩ := u8_of Tryd.underlying27 (c := c2) h2
      obtain ⟨⟨vk, vn, vt⟩, e3, _⟩ := va_cells (cs := [c3, c4, c5]) h3
      have h4' : DataW.trod enc Tryd.prog W 0 (fun _ => true) true m 52 [c6] = some y4 := h4
      have hc6 : ∃ a n c, c6 = .slice a n c := by
        rcases open_slice Tryd.underlying52 h4' with ⟨hcs, _⟩ | ⟨a, len, cap, m', n', D, Pl, hcs, _⟩
        · simp at hcs; exact ⟨_, _, _, hcs⟩
        · simp at hcs; exact ⟨_, _, _, hcs⟩
      obtain ⟨a, l, c, rfl⟩ := hc6
      obtain ⟨hcap, L, hL, hLV, hd⟩ := openL EI cellsOf3 0 (fun _ _ => True) (fun n cs x h => int_cells h) h4'
      simp at e1
      simp [EV] at e3
      obtain ⟨rfl, rfl, rfl⟩ := e3
      subst e0 e1 e2
      refine ⟨(⟨k, bs s, o, vk, vn, vt, L⟩, (a, l, c)), by simp [EC, str_bs], hLV, y0.1, y2.1, y3.1, y4.1, ?_, ?_⟩
      · have hx1 : y1.1 = .lit (.string (bs s)) := congrArg Prod.fst x1
        show DataW.agg [y0.1, y1.1, y2.1, y3.1, y4.1] = DataW.agg [y0.1, .lit (.string (bs s)), y2.1, y3.1, y4.1]
        rw [hx1]
      · rcases hd with ⟨_, e⟩ | ⟨D, sp, e, _⟩
        · exact .inl e
        · exact .inr ⟨_, sp, e, by simp [hL]⟩
theorem weightsAll_mem {P : Program} {e : TypeId} : ∀ {l : List (DataW H)} {d : DataW H}, d ∈ l → ∀ n ∈ d.weights P e, n ∈ DataW.weightsAll P e l
  | d0 :: r, d, hd, n, hn => by
    simp only [DataW.weightsAll, List.mem_append]
    rcases List.mem_cons.1 hd with rfl | h
    · exact .inl hn
    · exact .inr (weightsAll_mem h n hn)
theorem all_less {l m : List Nat} (h : m.all (· ≤ reachBytes) = true) (hs : ∀ n ∈ l, n ∈ m) : l.all (· ≤ reachBytes) = true :=
  List.all_eq_true.2 fun n hn => List.all_eq_true.1 h n (hs n hn)
theorem CIn.sized {z : Ce} {d : DataW H} (h : CIn W z d) (hz : (d.weights Tryd.prog 54).all (· ≤ reachBytes) = true) : z.1.kids.length ≤ 17592186044416 ∧ (str z.1.col).size ≤ maxLen := by
  obtain ⟨_, d0, d2, d3, dk, rfl, hk⟩ := h
  have hu : Tryd.prog.underlying 54 = _ := Tryd.underlying54
  have hz2 : (DataW.weightsEach Tryd.prog [51, 9, 27, 30, 52] [d0, .lit (.string z.1.col), d2, d3, dk]).all (· ≤ reachBytes) = true := all_less hz fun n hn => by
    rw [DataW.weights]
    simp only [hu, List.map_cons, List.map_nil]
    exact hn
  constructor
  · rcases hk with e | ⟨es, sp, rfl, hl⟩
    · rw [e]; simp
    · have := sized_slice hz2 (j := 4) (t := 52) rfl rfl Tryd.underlying52
      rw [show Tryd.prog.bytesOf 3 = 8 by kernel_rfl] at this
      unfold reachBytes at this
      omega
  · have := sized_string hz2 (j := 1) (t := 9) rfl rfl
    rw [str_size]
    unfold reachBytes at this
    unfold maxLen
    omega
/-- A case that came in. -/
theorem openCase {base : Nat} {v : Value} {d : DataW H} {p : List MemPlace} (hv : Value.okWide Tryd.prog W .any base 26 v) (h : DataW.Trod enc Tryd.prog W 0 (fun _ => true) true 26 v d p) (hz : (d.weights Tryd.prog 26).all (· ≤ reachBytes) = true) : ∃ cs cols vals, ICase W v cs cols vals := by
  obtain ⟨vs, rfl, hsz⟩ := okWide_struct Tryd.underlying26 hv
  obtain ⟨fuel, hf⟩ := h
  simp only [Value.cells] at hf
  obtain ⟨y0, y1, y2, m, hx, hl, h0, h1, h2⟩ := trod_struct3 Tryd.underlying26 hf
  rw [cellsOf26] at hsz
  obtain ⟨l⟩ := vs
  match l, hsz with
  | [s1, s2, s3], _ =>
    simp only [cellsOf22, cellsOf23, cellsOf24] at h0 h1 h2
    have g0 : DataW.trod enc Tryd.prog W 0 (fun _ => true) true m 22 [s1] = some y0 := h0
    have g1 : DataW.trod enc Tryd.prog W 0 (fun _ => true) true m 23 [s2] = some y1 := h1
    have g2 : DataW.trod enc Tryd.prog W 0 (fun _ => true) true m 24 [s3] = some y2 := h2
    have form : ∀ {t e : TypeId} {s : Value} {y : DataW H × List MemPlace}, Tryd.prog.underlying t = some (.slice e) → DataW.trod enc Tryd.prog W 0 (fun _ => true) true m t [s] = some y → ∃ a n c, s = .slice a n c := fun ht hq => by
      rcases open_slice ht hq with ⟨hcs, _⟩ | ⟨a, len, cap, m', n', D, Pl, hcs, _⟩
      · simp at hcs; exact ⟨_, _, _, hcs⟩
      · simp at hcs; exact ⟨_, _, _, hcs⟩
    obtain ⟨a1, n1, c1, rfl⟩ := form Tryd.underlying22 g0
    obtain ⟨a2, n2, c2, rfl⟩ := form Tryd.underlying23 g1
    obtain ⟨a3, n3, c3, rfl⟩ := form Tryd.underlying24 g2
    obtain ⟨m1, L1, l1, lv1, hd1⟩ := openL EC cellsOf54 (cd0, (none, 0, 0)) (CIn W) (fun n cs x h => cd_cells h) g0
    obtain ⟨m2, L2, l2, lv2, _⟩ := openL EK cellsOf42 ([], 0) (fun _ _ => True) (fun n cs x h => co_cells h) g1
    obtain ⟨m3, L3, l3, lv3, _⟩ := openL EV cellsOf30 (0, 0, []) (fun _ _ => True) (fun n cs x h => va_cells h) g2
    have hall : ∀ e ∈ L1, T.LV EI W (slW e.2) e.1.kids ∧ e.1.kids.length ≤ 17592186044416 ∧ (str e.1.col).size ≤ maxLen := by
      rcases hd1 with ⟨_, e⟩ | ⟨D, sp, e, hD⟩
      · rw [e]; intro e he; simp at he
      · intro z hzm
        obtain ⟨i, hi⟩ := List.getElem?_of_mem hzm
        have hil : i < n1 := by have := (List.getElem?_eq_some_iff.1 hi).1; omega
        have hc := hD i z hi
        refine ⟨hc.1, hc.sized (all_less hz fun n hn => ?_)⟩
        have hu : Tryd.prog.underlying 26 = _ := Tryd.underlying26
        have hu2 : Tryd.prog.underlying 22 = _ := Tryd.underlying22
        have hd : d = .agg [y0.1, y1.1, y2.1] := congrArg Prod.fst hx
        rw [hd, DataW.weights]
        simp only [hu, List.map_cons, List.map_nil, DataW.weightsEach, List.mem_append]
        left
        rw [e, DataW.weights]
        simp only [hu2, List.mem_cons, List.mem_append]
        exact .inr (.inl (weightsAll_mem (List.mem_map.2 ⟨i, List.mem_range.2 hil, rfl⟩) _ hn))
    refine ⟨L1.map Prod.fst, L2, L3, ⟨a1, c1, a2, c2, a3, c3, by rw [List.length_map, l1, l2, l3], ?_, by rw [l2]; exact lv2, by rw [l3]; exact lv3, m1, m2, m3⟩, fun x hx => ?_, fun x hx => ?_⟩
    · rw [List.length_map, l1]
      exact ⟨L1, lv1, rfl, fun e he => (hall e he).1⟩
    · obtain ⟨e, he, rfl⟩ := List.mem_map.1 hx
      exact (hall e he).2.1
    · obtain ⟨e, he, rfl⟩ := List.mem_map.1 hx
      exact (hall e he).2.2
end
end Go.Proofs.YtipnaphikbjhbaaDoor
