/- slices.SortFunc at spans, by their begins, over a slice of the call's own. -/
import Derived.Test.YthalgnfffcimhaaSf
import Derived.Test.YthalgnfffcimhaaJb
namespace Go.Proofs.Ythalgnfffcimhaa.Sp
open Go.Shelf Go.RowKit Go.Lib Go.Sort

def cmpF (x y : Int × Int) : Int := Lib.compareInt x.1 y.1
theorem ltF (x y : Int × Int) : ltOf cmpF x y = decide (x.1 < y.1) := by
  unfold ltOf cmpF Lib.compareInt
  by_cases h1 : x.1 < y.1
  · simp [h1]
  · by_cases h2 : y.1 < x.1 <;> simp [h1, h2]
theorem swoF : SWO (ltOf cmpF) where
  irrefl x := by rw [ltF]; simp
  trans x y z h1 h2 := by rw [ltF] at *; simp at *; omega
  ntrans x y z h1 h2 := by rw [ltF] at *; simp at *; omega

set_option maxHeartbeats 1000000 in
theorem closure42 (x y : Int × Int) (W : World) : Calls Try.prog 41 #[.agg #[.int .i64 x.1, .int .i64 x.2], .agg #[.int .i64 y.1, .int .i64 y.2]] W fun e w' => e = .returned (.int .i64 (cmpF x y)) ∧ ∃ q os', w' = grow (W.drewN q) os' := by
  have hcon := fun W' => cmpI46 x.1 y.1 W'
  change ∀ W', Calls Try.prog 36 _ _ _ at hcon
  unfold cmpF
  generalize Lib.compareInt x.1 y.1 = r at hcon ⊢
  go_enter Try.func41, Try.ntmps41
  go_wp2_with (go_at_call 36; refine (hcon _).mono ?_; rintro e w' ⟨rfl, rfl⟩)
  go_ret
  exact ⟨rfl, 0, _, by rw [alloc_eq_grow, alloc_eq_grow, grow_grow]; rfl⟩

theorem cmpLays42 (blk off size : Nat) (w : World) : CmpLays Try.prog 41 #[] enc2 2 cmpF blk off size w :=
  fun _ _ _ _ x y => closure42 x y _

theorem flat_get (xs : List (Int × Int)) (j : Nat) (h : j < xs.length * 2) : (flatK enc2 2 xs.toArray)[j]! = (cells2 xs)[j]'(by rw [cells2_length]; exact h) := by
  rw [get_flatK _ _ _ _ (by simpa using h)]
  have hj : j / 2 < xs.length := by omega
  have hg := cells2_get xs (j / 2) hj
  have hx : xs.toArray[j / 2]! = xs[j / 2] := by simp [hj]
  rw [hx]
  rcases (show j % 2 = 0 ∨ j % 2 = 1 by omega) with hr | hr
  · have e : j / 2 * 2 = j := by omega
    rw [e] at hg
    have := hg.1
    rw [List.getElem?_eq_getElem (by rw [cells2_length]; exact h)] at this
    simp only [Option.some.injEq] at this
    rw [this, hr]; rfl
  · have e : j / 2 * 2 + 1 = j := by omega
    rw [e] at hg
    have := hg.2
    rw [List.getElem?_eq_getElem (by rw [cells2_length]; exact h)] at this
    simp only [Option.some.injEq] at this
    rw [this, hr]; rfl

theorem heap_put {w : World} {g n : Nat} {os : Array Obj} {cur : Array Value} {e : TypeId} {fr : Nat × Nat} (d : Array Value) (hb : w.heap[g]? = some (.cells cur e fr)) :
    (grow (putRow id (Sort.ahead w n) g 0 d) os).heap[g]? = some (.cells (putCells id 0 d cur) e fr) := by
  have hg : g < w.heap.size := (Array.getElem?_eq_some_iff.1 hb).1
  rw [heap_grow_old _ _ (by simpa using hg)]
  simp [putRow, mapBlock, Sort.ahead, Array.getElem?_modify, hb, onCells]

theorem grown_put {w : World} {g n : Nat} {os : Array Obj} (d : Array Value) : w.grownBy (grow (putRow id (Sort.ahead w n) g 0 d) os) (some g) := by
  refine ⟨rfl, rfl, rfl, by simp, fun k hk hne => ?_⟩
  rw [heap_grow_old _ _ (by simpa using hk)]
  have : g ≠ k := fun e => hne (by rw [e])
  simp [putRow, mapBlock, Sort.ahead, Array.getElem?_modify, this]

theorem take_put (cur : Array Value) (ts : List (Int × Int)) (h : ts.length * 2 ≤ cur.size) : (putCells id 0 (flatK enc2 2 ts.toArray) cur).toList.take (ts.length * 2) = cells2 ts := by
  apply List.ext_getElem?
  intro j
  by_cases hj : j < ts.length * 2
  · rw [List.getElem?_take_of_lt hj, Array.getElem?_toList]
    have hf := flat_get ts j hj
    have hs : (flatK enc2 2 ts.toArray).size = ts.length * 2 := by simp
    rw [List.getElem?_eq_getElem (by rw [cells2_length]; exact hj), ← hf]
    simp [putCells, hj, hs, show j < cur.size by omega]
  · rw [List.getElem?_take_eq_none (by omega), List.getElem?_eq_none (by rw [cells2_length]; omega)]

theorem holds_own {w : World} {g : Nat} {cur : Array Value} {e : TypeId} {xs : List (Int × Int)} (hb : w.heap[g]? = some (.cells cur e (0, 0))) (ht : cur.toList.take (xs.length * 2) = cells2 xs) : HoldsK enc2 2 w g 0 xs.toArray := by
  intro j hj
  have hj' : j < xs.length * 2 := by simpa using hj
  refine ⟨?_, by simp [World.frozen?, hb]⟩
  rw [flat_get xs j hj']
  have h1 : (cur.toList.take (xs.length * 2))[j]? = (cells2 xs)[j]? := by rw [ht]
  rw [List.getElem?_take_of_lt hj', List.getElem?_eq_getElem (l := cells2 xs) (by rw [cells2_length]; exact hj')] at h1
  simp only [World.cell?, hb, Nat.zero_add]
  simp only [Option.isSome_none, Bool.false_eq_true, if_false]
  rw [← Array.getElem?_toList, h1]
  rfl

set_option maxHeartbeats 1000000 in
theorem ins49_none (fv : Value) (w : World) : Calls Try.prog 75 #[.slice none 0 0, .int .i64 0, .int .i64 0, fv] w fun e w' => e = .returned (.tuple #[]) ∧ w' = w := by
  go_enter Try.func75, Try.ntmps75
  go_wp2
  refine wp_loop_rounds 1 ?_
  rw [rounds_succ]
  go_wp2
  go_end0
  exact ⟨rfl, rfl⟩

set_option maxHeartbeats 1000000 in
theorem pdq45_none (lim : Int) (fv : Value) (w : World) : Calls Try.prog 61 #[.slice none 0 0, .int .i64 0, .int .i64 0, .int .i64 lim, fv] w fun e w' => e = .returned (.tuple #[]) ∧ w' = w := by
  go_enter Try.func61, Try.ntmps61
  go_wp2
  refine wp_loop_rounds 1 ?_
  rw [rounds_succ]
  go_wp2_with (go_at_call 75; refine (ins49_none _ _).mono ?_; rintro e w' ⟨rfl, rfl⟩)
  (try simp only [Exit.inBlock, Exit.then]); refine bodyPost_ret (results_none rfl _ _ _) rfl ?_
  exact ⟨rfl, rfl⟩

theorem len46_0 (w : World) : Calls Try.prog 39 #[.int .u64 0] w fun e w' => e = .returned (.int .i64 (Lib.bitLen 0 : Nat)) ∧ w' = w :=
  Any.bits_Len (SlLaysF0.n15.bits (P := Try.prog) (ρ := Try.sortSp_ren) { Try.sortSp with }) 0 w (by omega) (by omega)

set_option maxHeartbeats 1000000 in
theorem sort41_none (fv : Value) (w : World) : Calls Try.prog 40 #[.slice none 0 0, fv] w fun e w' => e = .returned (.tuple #[]) ∧ w' = w := by
  go_enter Try.func40, Try.ntmps40
  go_wp2_with (first | (go_at_call 39; refine (len46_0 _).mono ?_; rintro e w' ⟨rfl, rfl⟩) | (go_at_call 61; refine (pdq45_none _ _ _).mono ?_; rintro e w' ⟨rfl, rfl⟩))
  go_end0
  exact ⟨rfl, rfl⟩

/-- rising by their begins -/
def Rising (xs : List (Int × Int)) : Prop := ∀ i j, (hj : j < xs.length) → (h : i < j) → xs[i].1 ≤ xs[j].1

theorem sort41 (v : Value) (xs : List (Int × Int)) (w : World) (B : Nat) (hown : Own w B v xs) (hB : B ≤ w.heap.size) (hl : xs.length ≤ 100000) :
    Calls Try.prog 40 #[v, .func (.func 41) #[] #[]] w fun e w' => e = .returned (.tuple #[]) ∧ ∃ ys, ys.Perm xs ∧ Rising ys ∧ Own w' B v ys ∧ Below B w w' := by
  have hown0 := hown
  obtain ⟨h1, h2⟩ := hown
  rcases h2 with ⟨rfl, hn⟩ | ⟨g, cap, cur, rfl, hb, hg, hnc, hcm, hcs, htake⟩
  · have hx : xs = [] := List.eq_nil_of_length_eq_zero hn
    subst hx
    refine (sort41_none _ _).mono ?_
    rintro e w' ⟨rfl, rfl⟩
    exact ⟨rfl, [], List.Perm.refl _, fun i j hj => by simp at hj, hown0, Below.refl _ _⟩
  · have eg : ∀ args w, (callFunc 41 args).run Try.prog w = .ok (.enter 41 args) w := enters_of Try.func41 (by kernel_rfl) rfl
    have hcon := AnyQ.slices_SortFunc Try.sortSp 2 Try.isAgg27 Try.sizeOf27 enc2 (fun _ => rfl) (fun x v hv => by simp [enc2] at hv; rcases hv with rfl | rfl <;> rfl) cmpF swoF 41 #[] g 0 cap xs.toArray w eg (cmpLays42 g 0 _ w) (holds_own hg htake) (Array.getElem?_eq_some_iff.1 hg).1 (by simp; omega)
    change Calls Try.prog 40 _ _ _ at hcon
    refine hcon.mono ?_
    rintro e w' ⟨rfl, d', n, os, hp, hs, rfl⟩
    have hsz : d'.size = xs.length := by simpa using hp.1
    have hperm : d'.toList.Perm xs := by
      have h3 := hp.2.2
      have e1 : d'.extract 0 xs.toArray.size = d' := by
        rw [show xs.toArray.size = d'.size from by simp [hsz]]; simp
      have e2 : xs.toArray.extract 0 xs.toArray.size = xs.toArray := by simp
      rw [e1, e2] at h3
      simpa using h3
    refine ⟨rfl, d'.toList, hperm, ?_, ?_, ?_⟩
    · intro i j hj hij
      have := hs i j (Nat.zero_le _) hij (by simpa [hsz] using hj)
      rw [ltF] at this
      have hj' : j < d'.size := by simpa using hj
      rw [getElem!_pos d' j hj', getElem!_pos d' i (by omega)] at this
      simp at this
      simpa using this
    · unfold sortWorldK putRowK
      have hlen : d'.toList.length = xs.length := by simpa using hsz
      refine ⟨cells2_length _, .inr ⟨g, cap, _, by rw [hlen], hb, heap_put _ hg, by omega, hcm, by simp [putCells, hcs], ?_⟩⟩
      have := take_put cur d'.toList (by rw [hlen, hcs]; omega)
      simpa using this
    · unfold sortWorldK putRowK
      exact (Below.refl _ _).grown (grown_put _) hB (fun k hk => by simp at hk; omega)

end Go.Proofs.Ythalgnfffcimhaa.Sp
