/- slices.SortFunc of values. -/
import Derived.Test.YtpagnphabchfcaaGreatQm
namespace Go.Proofs
open Go.Shelf
def Tryz.sortVl_ren : Go.Shelf.Ren := ⟨fun | 6 => 57 | 15 => 78 | 14 => 84 | 28 => 103 | 29 => 104 | 20 => 117 | 21 => 118 | 22 => 119 | 23 => 120 | 24 => 121 | 25 => 122 | 26 => 123 | 27 => 124 | 46 => 147 | 47 => 140 | 48 => 141 | 49 => 148 | 50 => 149 | 57 => 157 | n => n, fun | 22 => 35 | 24 => 25 | 25 => 75 | 3 => 3 | 39 => 100 | 0 => 0 | 53 => 124 | 55 => 126 | 4 => 4 | 46 => 117 | 45 => 116 | 50 => 121 | 5 => 5 | 9 => 9 | 66 => 147 | 70 => 151 | 76 => 160 | 77 => 161 | n => n, fun | n => n⟩
theorem Tryz.sortVl : Go.Proofs.SlLaysF0.n6 Tryz.prog Tryz.sortVl_ren := {
  mixed := by kernel_rfl
  f6 := ⟨Tryz.f57.name, by decide, Tryz.func57.trans (congrArg some (by kernel_rfl))⟩
  f14 := ⟨Tryz.f84.name, by decide, Tryz.func84.trans (congrArg some (by kernel_rfl))⟩
  f15 := Tryz.func78.trans (congrArg some (by kernel_rfl))
  f20 := ⟨Tryz.f117.name, by decide, Tryz.func117.trans (congrArg some (by kernel_rfl))⟩
  f21 := ⟨Tryz.f118.name, by decide, Tryz.func118.trans (congrArg some (by kernel_rfl))⟩
  f22 := ⟨Tryz.f119.name, by decide, Tryz.func119.trans (congrArg some (by kernel_rfl))⟩
  f23 := ⟨Tryz.f120.name, by decide, Tryz.func120.trans (congrArg some (by kernel_rfl))⟩
  f24 := ⟨Tryz.f121.name, by decide, Tryz.func121.trans (congrArg some (by kernel_rfl))⟩
  f25 := ⟨Tryz.f122.name, by decide, Tryz.func122.trans (congrArg some (by kernel_rfl))⟩
  f26 := ⟨Tryz.f123.name, by decide, Tryz.func123.trans (congrArg some (by kernel_rfl))⟩
  f27 := ⟨Tryz.f124.name, by decide, Tryz.func124.trans (congrArg some (by kernel_rfl))⟩
  f28 := Tryz.func103.trans (congrArg some (by kernel_rfl))
  f29 := Tryz.func104.trans (congrArg some (by kernel_rfl))
  f46 := ⟨Tryz.f147.name, by decide, Tryz.func147.trans (congrArg some (by kernel_rfl))⟩
  f47 := Tryz.func140.trans (congrArg some (by kernel_rfl))
  f48 := Tryz.func141.trans (congrArg some (by kernel_rfl))
  f49 := ⟨Tryz.f148.name, by decide, Tryz.func148.trans (congrArg some (by kernel_rfl))⟩
  f50 := ⟨Tryz.f149.name, by decide, Tryz.func149.trans (congrArg some (by kernel_rfl))⟩
  f57 := ⟨Tryz.f157.name, by decide, Tryz.func157.trans (congrArg some (by kernel_rfl))⟩
  t0 := Tryz.underlying0
  a0 := Tryz.isAgg0
  z0 := Tryz.sizeOf0
  v0 := Tryz.zeroValue0
  t3 := Tryz.underlying3
  a3 := Tryz.isAgg3
  z3 := Tryz.sizeOf3
  v3 := Tryz.zeroValue3
  t4 := Tryz.underlying4
  a4 := Tryz.isAgg4
  z4 := Tryz.sizeOf4
  v4 := Tryz.zeroValue4
  t5 := Tryz.underlying5
  a5 := Tryz.isAgg5
  z5 := Tryz.sizeOf5
  v5 := Tryz.zeroValue5
  t9 := Tryz.underlying9
  a9 := Tryz.isAgg9
  z9 := Tryz.sizeOf9
  v9 := Tryz.zeroValue9
  t22 := Tryz.underlying35
  a22 := Tryz.isAgg35
  z22 := Tryz.sizeOf35
  v22 := Tryz.zeroValue35
  t25 := Tryz.underlying75
  a25 := Tryz.isAgg75
  z25 := Tryz.sizeOf75
  v25 := Tryz.zeroValue75
  t39 := Tryz.underlying100
  a39 := Tryz.isAgg100
  z39 := Tryz.sizeOf100
  v39 := Tryz.zeroValue100
  t45 := Tryz.underlying116
  a45 := Tryz.isAgg116
  z45 := Tryz.sizeOf116
  v45 := Tryz.zeroValue116
  t46 := Tryz.underlying117
  a46 := Tryz.isAgg117
  z46 := Tryz.sizeOf117
  v46 := Tryz.zeroValue117
  t50 := Tryz.underlying121
  a50 := Tryz.isAgg121
  z50 := Tryz.sizeOf121
  v50 := Tryz.zeroValue121
  t53 := Tryz.underlying124
  a53 := Tryz.isAgg124
  z53 := Tryz.sizeOf124
  v53 := Tryz.zeroValue124
  t55 := Tryz.underlying126
  a55 := Tryz.isAgg126
  z55 := Tryz.sizeOf126
  v55 := Tryz.zeroValue126
  t66 := Tryz.underlying147
  a66 := Tryz.isAgg147
  z66 := Tryz.sizeOf147
  v66 := Tryz.zeroValue147
  t70 := Tryz.underlying151
  a70 := Tryz.isAgg151
  z70 := Tryz.sizeOf151
  v70 := Tryz.zeroValue151
  t76 := Tryz.underlying160
  a76 := Tryz.isAgg160
  z76 := Tryz.sizeOf160
  v76 := Tryz.zeroValue160
  t77 := Tryz.underlying161
  a77 := Tryz.isAgg161
  z77 := Tryz.sizeOf161
  v77 := Tryz.zeroValue161 }
end Go.Proofs
namespace Go.Proofs.YtpagnphabchfcaaGreat
open Go.RowKit Go.Shelf Go.Sort
set_option maxRecDepth 100000
set_option maxHeartbeats 1000000 in
theorem insV_none (fv : Value) (w : World) : Calls Tryz.prog 117 #[.slice none 0 0, .int .i64 0, .int .i64 0, fv] w fun e w' => e = .returned (.tuple #[]) ∧ w' = w := by
  go_enter Tryz.func117, Tryz.ntmps117
  go_wp2
  refine wp_loop_rounds 1 ?_
  rw [rounds_succ]
  go_wp2
  go_end0
  exact ⟨rfl, rfl⟩

set_option maxHeartbeats 1000000 in
theorem pdqV_none (lim : Int) (fv : Value) (w : World) : Calls Tryz.prog 84 #[.slice none 0 0, .int .i64 0, .int .i64 0, .int .i64 lim, fv] w fun e w' => e = .returned (.tuple #[]) ∧ w' = w := by
  go_enter Tryz.func84, Tryz.ntmps84
  go_wp2
  refine wp_loop_rounds 1 ?_
  rw [rounds_succ]
  go_wp2_with (go_at_call 117; refine (insV_none _ _).mono ?_; rintro e w' ⟨rfl, rfl⟩)
  (try simp only [Exit.inBlock, Exit.then]); refine bodyPost_ret (results_none rfl _ _ _) rfl ?_
  exact ⟨rfl, rfl⟩

set_option maxHeartbeats 1000000 in
theorem sortV_none (fv : Value) (w : World) : Calls Tryz.prog 57 #[.slice none 0 0, fv] w fun e w' => e = .returned (.tuple #[]) ∧ w' = w := by
  go_enter Tryz.func57, Tryz.ntmps57
  go_wp2_with (first | (go_at_call 78; refine (Sp.len46_0 _).mono ?_; rintro e w' ⟨rfl, rfl⟩) | (go_at_call 84; refine (pdqV_none _ _ _).mono ?_; rintro e w' ⟨rfl, rfl⟩))
  go_end0
  exact ⟨rfl, rfl⟩
def encV (x : Vt) : List Value := [.int .u8 x.1, .int .i64 x.2.1, .string x.2.2]
theorem ltV (x y : Vt) : ltOf cmpT x y = decide (cmpT x y = -1) := by
  unfold ltOf
  have t := ordT.three x y
  rw [Bool.eq_iff_iff]
  simp
  omega
theorem swoV : SWO (ltOf cmpT) where
  irrefl x := by rw [ltV, (ordT.eq x x).2 rfl]; rfl
  trans x y z h1 h2 := by
    rw [ltV, decide_eq_true_eq] at *
    exact ordT.trans _ _ _ h1 h2
  ntrans x y z h1 h2 := by
    rw [ltV] at *
    simp only [decide_eq_false_iff_not] at *
    intro h3
    have a1 := ordT.three x y
    have a2 := ordT.three y z
    have n1 := ordT.neg x y
    have n2 := ordT.neg y z
    have n3 := ordT.neg x z
    rcases a1 with a1 | a1 | a1
    · exact h1 a1
    · rw [(ordT.eq _ _).1 a1] at h3
      exact h2 h3
    · rcases a2 with a2 | a2 | a2
      · exact h2 a2
      · rw [← (ordT.eq _ _).1 a2] at h3
        omega
      · have := ordT.trans z y x (by omega) (by omega)
        omega
theorem cmpLays58 (g size : Nat) (w : World) : CmpLays Tryz.prog 58 #[] encV 3 cmpT g 0 size w := fun m os dk _ x y => by
  refine (value45 x y _).mono ?_
  rintro e w' ⟨he, hg⟩
  exact ⟨he, hg.grows⟩
theorem flatV_get (xs : List Vt) (j : Nat) (h : j < xs.length * 3) : (flatK encV 3 xs.toArray)[j]! = (cellsV xs)[j]'(by rw [cellsV_length]; exact h) := by
  rw [get_flatK _ _ _ _ (by simpa using h)]
  have hj : j / 3 < xs.length := by omega
  have hx : xs.toArray[j / 3]! = xs[j / 3] := by simp [hj]
  have hv : xs[j / 3]? = some xs[j / 3] := by simp [hj]
  obtain ⟨e1, e2, e3⟩ := cellsV_get xs (j / 3) _ hv
  have hl : j < (cellsV xs).length := by rw [cellsV_length]; exact h
  rw [hx]
  have hm : j % 3 = 0 ∨ j % 3 = 1 ∨ j % 3 = 2 := by omega
  rcases hm with hr | hr | hr
  · rw [show j / 3 * 3 = j by omega, List.getElem?_eq_getElem hl, Option.some.injEq] at e1
    rw [e1, hr]; rfl
  · rw [show j / 3 * 3 + 1 = j by omega, List.getElem?_eq_getElem hl, Option.some.injEq] at e2
    rw [e2, hr]; rfl
  · rw [show j / 3 * 3 + 2 = j by omega, List.getElem?_eq_getElem hl, Option.some.injEq] at e3
    rw [e3, hr]; rfl
theorem takeV_put (cur : Array Value) (ts : List Vt) (h : ts.length * 3 ≤ cur.size) : (putCells id 0 (flatK encV 3 ts.toArray) cur).toList.take (ts.length * 3) = cellsV ts := by
  apply List.ext_getElem?
  intro j
  have hlen := cellsV_length ts
  by_cases hj : j < ts.length * 3
  · rw [List.getElem?_take_of_lt hj, Array.getElem?_toList]
    have hf := flatV_get ts j hj
    have hs : (flatK encV 3 ts.toArray).size = ts.length * 3 := by simp
    rw [List.getElem?_eq_getElem (by omega), ← hf]
    simp [putCells, hj, hs, show j < cur.size by omega]
  · rw [List.getElem?_take_eq_none (by omega), List.getElem?_eq_none (by omega)]
theorem holdsV_own {w : World} {g : Nat} {cur : Array Value} {e : TypeId} {xs : List Vt} (hb : w.heap[g]? = some (.cells cur e (0, 0))) (ht : cur.toList.take (xs.length * 3) = cellsV xs) : HoldsK encV 3 w g 0 xs.toArray := by
  intro j hj
  have hj' : j < xs.length * 3 := by simpa using hj
  have hlen := cellsV_length xs
  refine ⟨?_, by simp [World.frozen?, hb]⟩
  rw [flatV_get xs j hj']
  have h1 : (cur.toList.take (xs.length * 3))[j]? = (cellsV xs)[j]? := by rw [ht]
  rw [List.getElem?_take_of_lt hj', List.getElem?_eq_getElem (l := cellsV xs) (by omega)] at h1
  simp only [World.cell?, hb, Nat.zero_add]
  simp only [Option.isSome_none, Bool.false_eq_true, if_false]
  rw [← Array.getElem?_toList, h1]
  rfl
/-- Values that do not fall. -/
def RiseT (l : List Vt) : Prop := l.Pairwise fun a b => cmpT b a ≠ -1
theorem sort57 {w : World} {B : Nat} {v : Value} {vs : List Vt} (ho : OwnV w B v vs) (hB : B ≤ w.heap.size) (hl : vs.length ≤ 100000) :
    Calls Tryz.prog 57 #[v, .func (.func 58) #[] #[]] w fun e w' => e = .returned (.tuple #[]) ∧ ∃ vs', vs'.Perm vs ∧ RiseT vs' ∧ OwnV w' B v vs' ∧ Below B w w' := by
  have ho' := ho
  obtain ⟨h1, h2⟩ := ho
  rcases h2 with ⟨rfl, h0⟩ | ⟨g, cap, cur, rfl, hb, hg, hnc, hcm, hcs, htake⟩
  · refine (sortV_none _ _).mono ?_
    rintro e w' ⟨rfl, rfl⟩
    have : vs = [] := List.eq_nil_of_length_eq_zero h0
    subst this
    exact ⟨rfl, [], List.Perm.refl _, List.Pairwise.nil, ho', Below.refl _ _⟩
  have eg : ∀ args w, (callFunc 58 args).run Tryz.prog w = .ok (.enter 58 args) w := enters_of Tryz.func58 (by kernel_rfl) rfl
  have hcon := AnyQ.slices_SortFunc Tryz.sortVl 3 Tryz.isAgg25 Tryz.sizeOf25 encV (fun _ => rfl) (fun x u hu => by
    simp only [encV, List.mem_cons, List.not_mem_nil, or_false] at hu
    rcases hu with rfl | rfl | rfl <;> rfl) cmpT swoV 58 #[] g 0 cap vs.toArray w eg (cmpLays58 g _ w) (holdsV_own hg htake) (Array.getElem?_eq_some_iff.1 hg).1 (by simp; omega)
  change Calls Tryz.prog 57 _ _ _ at hcon
  rw [show vs.toArray.size = vs.length by simp] at hcon
  refine hcon.mono ?_
  rintro e w' ⟨rfl, d', n, os, hp, hs, rfl⟩
  have hsz : d'.size = vs.length := by have := hp.1; simp at this; omega
  have hperm : d'.toList.Perm vs := by
    have h3 := hp.2.2
    have e1 : d'.extract 0 vs.length = d' := by rw [← hsz]; simp
    have e2 : vs.toArray.extract 0 vs.length = vs.toArray := by simp
    rw [e1, e2] at h3
    simpa using h3
  have hdl : d'.toList.length = vs.length := by simpa using hsz
  refine ⟨rfl, d'.toList, hperm, ?_, ?_, ?_⟩
  · unfold RiseT
    rw [List.pairwise_iff_getElem]
    intro i j hi hj hij
    have := hs i j (Nat.zero_le _) hij (by omega)
    rw [ltV] at this
    have hj' : j < d'.size := by simpa using hj
    rw [getElem!_pos d' j hj', getElem!_pos d' i (by omega)] at this
    simp only [decide_eq_false_iff_not] at this
    simpa using this
  · unfold sortWorldK putRowK OwnV
    rw [hdl]
    refine ⟨by rw [cellsV_length, hdl], .inr ⟨g, cap, _, rfl, hb, heap_put _ hg, hnc, hcm, by simp [putCells, hcs], ?_⟩⟩
    have := takeV_put cur d'.toList (by rw [hdl, hcs]; omega)
    rw [hdl] at this
    simpa using this
  · unfold sortWorldK putRowK
    exact (Below.refl _ _).grown (grown_put _) hB (fun k hk => by cases hk; exact hb)
end Go.Proofs.YtpagnphabchfcaaGreat
