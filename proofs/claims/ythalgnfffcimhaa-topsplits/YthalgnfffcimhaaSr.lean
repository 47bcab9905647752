/- slices.SortFunc of rows of one's own; Sorted. -/
import Derived.Test.YthalgnfffcimhaaCo
import Derived.Test.YthalgnfffcimhaaSf
namespace Go.Proofs.Ythalgnfffcimhaa
open Go.Shelf Go.RowKit Go.Lib Go.Sort
set_option maxRecDepth 100000
/-- Rising, by rows' order. -/
def Rise (l : List Rw) : Prop := l.Pairwise fun a b => cmpR b a ≠ -1
/-- Rows that may lie in the block g: their values lie elsewhere. -/
def Fit (w : World) (g : Nat) (e : El) : Prop := SV w (fun b => b = g) e.1 e.2.1 ∧ e.2.1.length ≤ 1000000
def FitT (w : World) (g : Nat) : Type := { e : El // Fit w g e }
instance (w : World) (g : Nat) : Inhabited (FitT w g) := ⟨⟨(.slice none 0 0, [], 0, 0), SV.nil _ _, by simp⟩⟩
def cfT {w : World} {g : Nat} (x y : FitT w g) : Int := cmpR x.1.2 y.1.2
def encT {w : World} {g : Nat} (x : FitT w g) : List Value := encE x.1
theorem ltT {w : World} {g : Nat} (x y : FitT w g) : ltOf cfT x y = decide (cmpR x.1.2 y.1.2 = -1) := by
  unfold ltOf cfT
  have := ordR.three x.1.2 y.1.2
  by_cases h : cmpR x.1.2 y.1.2 = -1
  · simp [h]
  · simp [h]; omega
theorem swoT {w : World} {g : Nat} : SWO (ltOf (cfT (w := w) (g := g))) where
  irrefl x := by
    rw [ltT]
    have := (ordR.eq x.1.2 x.1.2).2 rfl
    simp; omega
  trans x y z h1 h2 := by
    rw [ltT] at *
    simp only [decide_eq_true_eq] at *
    exact ordR.trans _ _ _ h1 h2
  ntrans x y z h1 h2 := by
    rw [ltT] at *
    simp only [decide_eq_false_iff_not] at *
    intro h3
    have a1 := ordR.three x.1.2 y.1.2
    have a2 := ordR.three y.1.2 z.1.2
    have n1 := ordR.neg x.1.2 y.1.2
    have n2 := ordR.neg y.1.2 z.1.2
    have n3 := ordR.neg x.1.2 z.1.2
    rcases a1 with a1 | a1 | a1
    · exact h1 a1
    · rw [(ordR.eq _ _).1 a1] at h3
      exact h2 h3
    · rcases a2 with a2 | a2 | a2
      · exact h2 a2
      · rw [← (ordR.eq _ _).1 a2] at h3
        omega
      · have := ordR.trans z.1.2 y.1.2 x.1.2 (by omega) (by omega)
        omega
theorem grown_put {w : World} {g n : Nat} {os : Array Obj} (d : Array Value) : w.grownBy (grow (putRow id (Sort.ahead w n) g 0 d) os) (some g) := by
  refine ⟨rfl, rfl, rfl, by simp, fun k hk hne => ?_⟩
  rw [heap_grow_old _ _ (by simpa using hk)]
  have : g ≠ k := fun e => hne (by rw [e])
  simp [putRow, mapBlock, Sort.ahead, Array.getElem?_modify, this]
theorem cmpLays37 (g size : Nat) (w : World) : CmpLays Try.prog 26 #[] (encT (w := w) (g := g)) 3 cfT g 0 size w := fun m os dk _ x y => by
  have k : Keep (fun b => b = g) w (sortWorldK encT 3 w g 0 m dk os) := by
    have h := keep_of_grown (grown_put (w := w) (g := g) (n := m) (os := os) (flatK encT 3 dk))
    exact ⟨h.os, h.tape, h.output, h.size, fun k hk hf => h.block k hk (fun e => hf (by cases e; rfl))⟩
  have hx := x.2.1.keep k (Y := fun b => b = g) (fun _ _ h => h)
  have hy := y.2.1.keep k (Y := fun b => b = g) (fun _ _ h => h)
  refine (sorted37 (r := x.1.2) (r' := y.1.2) hx hy x.2.2 y.2.2).mono ?_
  rintro e w' ⟨he, hg⟩
  exact ⟨he, hg.grows⟩
section
variable {w0 : World} {g0 : Nat}
def vals0 (xs : List (FitT w0 g0)) : List El := xs.map (·.1)
theorem flat_get (xs : List (FitT w0 g0)) (j : Nat) (h : j < xs.length * 3) : (flatK encT 3 xs.toArray)[j]! = (cellsE (vals0 xs))[j]'(by rw [cellsE_length]; simpa [vals0] using h) := by
  rw [get_flatK _ _ _ _ (by simpa using h)]
  have hj : j / 3 < xs.length := by omega
  have hx : xs.toArray[j / 3]! = xs[j / 3] := by simp [hj]
  have hv : (vals0 xs)[j / 3]? = some xs[j / 3].1 := by simp [vals0, hj]
  obtain ⟨e1, e2, e3⟩ := cellsE_get (vals0 xs) (j / 3) _ hv
  have hl : j < (cellsE (vals0 xs)).length := by rw [cellsE_length]; simpa [vals0] using h
  rw [hx]
  have hm : j % 3 = 0 ∨ j % 3 = 1 ∨ j % 3 = 2 := by omega
  rcases hm with hr | hr | hr
  · rw [show j / 3 * 3 = j by omega, List.getElem?_eq_getElem hl, Option.some.injEq] at e1
    rw [e1, hr]; rfl
  · rw [show j / 3 * 3 + 1 = j by omega, List.getElem?_eq_getElem hl, Option.some.injEq] at e2
    rw [e2, hr]; rfl
  · rw [show j / 3 * 3 + 2 = j by omega, List.getElem?_eq_getElem hl, Option.some.injEq] at e3
    rw [e3, hr]; rfl
theorem heap_put {w : World} {g n : Nat} {os : Array Obj} {cur : Array Value} {e : TypeId} {fr : Nat × Nat} (d : Array Value) (hb : w.heap[g]? = some (.cells cur e fr)) :
    (grow (putRow id (Sort.ahead w n) g 0 d) os).heap[g]? = some (.cells (putCells id 0 d cur) e fr) := by
  have hg : g < w.heap.size := (Array.getElem?_eq_some_iff.1 hb).1
  rw [heap_grow_old _ _ (by simpa using hg)]
  simp [putRow, mapBlock, Sort.ahead, Array.getElem?_modify, hb, onCells]
theorem take_put (cur : Array Value) (ts : List (FitT w0 g0)) (h : ts.length * 3 ≤ cur.size) : (putCells id 0 (flatK encT 3 ts.toArray) cur).toList.take (ts.length * 3) = cellsE (vals0 ts) := by
  apply List.ext_getElem?
  intro j
  have hlen : (cellsE (vals0 ts)).length = ts.length * 3 := by rw [cellsE_length]; simp [vals0]
  by_cases hj : j < ts.length * 3
  · rw [List.getElem?_take_of_lt hj, Array.getElem?_toList]
    have hf := flat_get ts j hj
    have hs : (flatK (encT (w := w0) (g := g0)) 3 ts.toArray).size = ts.length * 3 := by simp
    rw [List.getElem?_eq_getElem (by omega), ← hf]
    simp [putCells, hj, hs, show j < cur.size by omega]
  · rw [List.getElem?_take_eq_none (by omega), List.getElem?_eq_none (by omega)]
theorem holds_own {w : World} {g : Nat} {cur : Array Value} {e : TypeId} {xs : List (FitT w0 g0)} (hb : w.heap[g]? = some (.cells cur e (0, 0))) (ht : cur.toList.take (xs.length * 3) = cellsE (vals0 xs)) : HoldsK encT 3 w g 0 xs.toArray := by
  intro j hj
  have hj' : j < xs.length * 3 := by simpa using hj
  have hlen : (cellsE (vals0 xs)).length = xs.length * 3 := by rw [cellsE_length]; simp [vals0]
  refine ⟨?_, by simp [World.frozen?, hb]⟩
  rw [flat_get xs j hj']
  have h1 : (cur.toList.take (xs.length * 3))[j]? = (cellsE (vals0 xs))[j]? := by rw [ht]
  rw [List.getElem?_take_of_lt hj', List.getElem?_eq_getElem (l := cellsE (vals0 xs)) (by omega)] at h1
  simp only [World.cell?, hb, Nat.zero_add]
  simp only [Option.isSome_none, Bool.false_eq_true, if_false]
  rw [← Array.getElem?_toList, h1]
  rfl
end
theorem fit_list {w : World} {g : Nat} : ∀ (es : List El), (∀ e ∈ es, Fit w g e) → ∃ xs : List (FitT w g), vals0 xs = es
  | [], _ => ⟨[], rfl⟩
  | e :: es, h => by
    obtain ⟨xs, hx⟩ := fit_list es (fun x hx => h x (by simp [hx]))
    exact ⟨⟨e, h e (by simp)⟩ :: xs, congrArg (List.cons e) hx⟩
/-- Sorting leaves the same rows, rising. -/
theorem sort36 {w : World} {B : Nat} {v : Value} {es : List El} (ho : OwnR w B v es) (hn : v ≠ .slice none 0 0) (hB : B ≤ w.heap.size) (hl : es.length ≤ 100000) (hv : ∀ e ∈ es, e.2.1.length ≤ 1000) :
    Calls Try.prog 25 #[v, .func (.func 26) #[] #[]] w fun e w' => e = .returned (.tuple #[]) ∧ ∃ es', es'.Perm es ∧ Rise (rws es') ∧ OwnR w' B v es' ∧ Below B w w' := by
  obtain ⟨h1, h2⟩ := ho.row
  rcases h2 with ⟨rfl, _⟩ | ⟨g, cap, cur, rfl, hb, hg, hnc, hcm, hcs, htake⟩
  · exact absurd rfl hn
  have hfit : ∀ e ∈ es, Fit w g e := fun e he => ⟨(ho.vals e he).mono (fun b _ q => by rw [q]; rfl), Nat.le_trans (hv e he) (by decide)⟩
  obtain ⟨xs, hxs⟩ := fit_list es hfit
  have hlen : xs.length = es.length := by rw [← hxs]; simp [vals0]
  have eg : ∀ args w, (callFunc 26 args).run Try.prog w = .ok (.enter 26 args) w := enters_of Try.func26 (by kernel_rfl) rfl
  have hcon := AnyQ.slices_SortFunc Try.sortRw 3 Try.isAgg30 Try.sizeOf30 (encT (w := w) (g := g)) (fun _ => rfl) (fun x u hu => by
    obtain ⟨pa, ca, hf⟩ := x.2.1.form
    simp only [encT, encE, List.mem_cons, List.not_mem_nil, or_false] at hu
    rcases hu with rfl | rfl | rfl
    · rw [hf]; rfl
    · rfl
    · rfl) cfT swoT 26 #[] g 0 cap xs.toArray w eg (cmpLays37 g _ w) (holds_own hg (by rw [hxs, hlen]; exact htake)) (Array.getElem?_eq_some_iff.1 hg).1 (by simp; omega)
  change Calls Try.prog 25 _ _ _ at hcon
  rw [show xs.toArray.size = es.length by simp [hlen]] at hcon
  refine hcon.mono ?_
  rintro e w' ⟨rfl, d', n, os, hp, hs, rfl⟩
  have hsz : d'.size = es.length := by have := hp.1; simp at this; omega
  have hperm : d'.toList.Perm xs := by
    have h3 := hp.2.2
    have e1 : d'.extract 0 es.length = d' := by rw [← hsz]; simp
    have e2 : xs.toArray.extract 0 es.length = xs.toArray := by rw [← hlen]; simp
    rw [e1, e2] at h3
    simpa using h3
  have hpv : (vals0 d'.toList).Perm es := by
    rw [← hxs]
    exact hperm.map _
  have hdl : d'.toList.length = es.length := by simpa using hsz
  refine ⟨rfl, vals0 d'.toList, hpv, ?_, ⟨?_, ?_⟩, ?_⟩
  · unfold Rise rws vals0
    rw [List.map_map, List.pairwise_map, List.pairwise_iff_getElem]
    intro i j hi hj hij
    have := hs i j (Nat.zero_le _) hij (by omega)
    rw [ltT] at this
    have hj' : j < d'.size := by simpa using hj
    rw [getElem!_pos d' j hj', getElem!_pos d' i (by omega)] at this
    simp only [decide_eq_false_iff_not] at this
    simpa using this
  · unfold sortWorldK putRowK
    have hl2 : (vals0 d'.toList).length = es.length := by simp [vals0, hsz]
    rw [hl2]
    refine ⟨by rw [cellsE_length, hl2], .inr ⟨g, cap, _, rfl, hb, heap_put _ hg, hnc, hcm, by simp [putCells, hcs], ?_⟩⟩
    have := take_put cur d'.toList (by rw [hdl, hcs]; omega)
    rw [hdl] at this
    simpa using this
  · intro e he
    have hk : Keep (fun b => b = g) w (sortWorldK encT 3 w g 0 n d' os) := by
      have h := keep_of_grown (grown_put (w := w) (g := g) (n := n) (os := os) (flatK encT 3 d'))
      exact ⟨h.os, h.tape, h.output, h.size, fun k hk hf => h.block k hk (fun q => hf (by cases q; rfl))⟩
    exact ((hfit e (hpv.mem_iff.1 he)).1).keep hk (fun b _ q => by cases q; rfl)
  · unfold sortWorldK putRowK
    exact (Below.refl _ _).grown (grown_put _) hB (fun k hk => by cases hk; exact hb)
/-- Rows in order. -/
def sortR (l : List Rw) : List Rw := l.mergeSort fun a b => decide (cmpR b a ≠ -1)
theorem rise_unique {l m : List Rw} (h1 : Rise l) (h2 : Rise m) (hp : l.Perm m) : l = m :=
  List.Perm.eq_of_pairwise (fun a b _ _ h k => by
    have t := ordR.three a b
    have n := ordR.neg a b
    exact (ordR.eq a b).1 (by omega)) h1 h2 hp
theorem sortR_perm (l : List Rw) : (sortR l).Perm l := List.mergeSort_perm _ _
theorem sortR_rise (l : List Rw) : Rise (sortR l) := by
  have h := List.pairwise_mergeSort (le := fun a b : Rw => decide (cmpR b a ≠ -1)) (fun a b c h1 h2 => by
    simp only [decide_eq_true_eq] at *
    intro h3
    have a1 := ordR.three a b
    have a2 := ordR.three b c
    have n1 := ordR.neg a b
    have n2 := ordR.neg b c
    have n3 := ordR.neg a c
    rcases a1 with a1 | a1 | a1
    · rcases a2 with a2 | a2 | a2
      · have := ordR.trans _ _ _ a1 a2
        omega
      · obtain rfl := (ordR.eq _ _).1 a2
        exact h1 h3
      · omega
    · obtain rfl := (ordR.eq _ _).1 a1
      exact h2 h3
    · omega) (fun a b => by
    have t := ordR.three a b
    have n := ordR.neg a b
    simp only [Bool.or_eq_true, decide_eq_true_eq]
    omega) l
  exact h.imp (fun h => by simpa using h)
theorem sortR_of {l m : List Rw} (h : Rise l) (hp : l.Perm m) : l = sortR m := rise_unique h (sortR_rise m) (hp.trans (sortR_perm m).symm)
theorem vals_len {es es' : List El} {n : Nat} (h : rws es' = rws es) (hv : ∀ e ∈ es, e.2.1.length ≤ n) : ∀ e ∈ es', e.2.1.length ≤ n := fun e he => by
  have : e.2 ∈ rws es := by rw [← h]; exact List.mem_map.2 ⟨e, he, rfl⟩
  obtain ⟨x, hx, hq⟩ := List.mem_map.1 this
  rw [← hq]
  exact hv x hx
def SPost (w : World) (l : List Rw) (e : Ending) (w' : World) : Prop := ∃ v' es', e = .returned v' ∧ v' ≠ .slice none 0 0 ∧ OwnR w' w.heap.size v' es' ∧ rws es' = l ∧ Below w.heap.size w w'
theorem sorted17 {w : World} {X : Nat → Prop} {v : Value} {es : List El} (h : RL w X v es) (hl : es.length ≤ 1000) (hv : ∀ e ∈ es, e.2.1.length ≤ 1000) :
    Calls Try.prog 11 #[v] w (SPost w (sortR (rws es))) := by
  have k35 := copied35 h hl hv
  have HV : Hid _ := hv
  have HL : Hid _ := hl
  clear h hl hv
  go_enter Try.func11, Try.ntmps11
  go_wp2_with (first
    | (go_at_call 24; (with_reducible refine k35.mono ?_); rintro e w1 ⟨v1, es1, rfl, hO, hE, B1⟩; have k36 := sort36 hO.out.2 hO.out.1 B1.size (by have := congrArg List.length hE.out; have := HL.out; simp [rws] at *; omega) (vals_len hE.out HV.out))
    | (go_at_call 25; (with_reducible refine k36.mono ?_); rintro e w2 ⟨rfl, es2, hp, hr, hO2, B2⟩))
  go_ret
  refine ⟨v1, es2, rfl, hO.out.1, hO2, ?_, B1.trans B2⟩
  rw [← hE.out]
  exact sortR_of hr (hp.map _)
end Go.Proofs.Ythalgnfffcimhaa
