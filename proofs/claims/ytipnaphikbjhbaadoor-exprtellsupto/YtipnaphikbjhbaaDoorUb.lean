/- A case that came in, of a bounded bulk. -/
import Derived.Test.YtipnaphikbjhbaaDoorOu
namespace Go.Proofs.YtipnaphikbjhbaaDoor
open Go.ChangeShapes Go.WideShapes Go.ChangeAt Go.RowKit Go.Lib Go.Joins Go.Deep
set_option maxRecDepth 100000
section
variable {H : Type} {enc : TypeId × Value → H} {W : World}
theorem bulk_one (d : DataW H) : 1 ≤ Rows.uptoBulk d := by
  cases d with
  | lit l => cases l <;> simp [Rows.uptoBulk]
  | _ => simp [Rows.uptoBulk]
theorem bulk_len (l : List (DataW H)) : l.length ≤ Rows.uptoBulkAll l := by
  induction l with
  | nil => simp [Rows.uptoBulkAll]
  | cons x r ih => have := bulk_one x; simp only [Rows.uptoBulkAll, List.length_cons]; omega
theorem bulk_mem {l : List (DataW H)} {d : DataW H} (h : d ∈ l) : Rows.uptoBulk d ≤ Rows.uptoBulkAll l := by
  induction l with
  | nil => cases h
  | cons x r ih =>
    simp only [Rows.uptoBulkAll]
    rcases List.mem_cons.1 h with rfl | h
    · omega
    · have := ih h
      omega
theorem CIn.bulk {z : Ce} {d : DataW H} (h : CIn W z d) : z.1.kids.length ≤ Rows.uptoBulk d := by
  obtain ⟨_, d0, d2, d3, dk, rfl, hk⟩ := h
  rcases hk with e | ⟨es, sp, rfl, hl⟩
  · rw [e]; simp
  · have h1 := bulk_len es
    have h2 := bulk_mem (l := [d0, .lit (.string z.1.col), d2, d3, .slice es sp]) (d := .slice es sp) (by simp)
    simp only [Rows.uptoBulk] at h2 ⊢
    omega
theorem bulk_up {d y0 y1 y2 : DataW H} {n i : Nat} {D : Nat → DataW H} {sp : List (DataW H)} (hd : d = .agg [y0, y1, y2]) (he : y0 = .slice ((List.range n).map D) sp) (hi : i < n) : Rows.uptoBulk (D i) ≤ Rows.uptoBulk d := by
  subst hd he
  have h1 := bulk_mem (l := (List.range n).map D) (d := D i) (List.mem_map.2 ⟨i, List.mem_range.2 hi, rfl⟩)
  simp only [Rows.uptoBulk, Rows.uptoBulkAll]
  omega
theorem bulk_first {d : DataW H} {ds : List (DataW H)} (h : Rows.uptoSmall H (d :: ds) = true) : Rows.uptoBulk d ≤ 1048576 := by
  have h1 := of_decide_eq_true h
  simp only [Rows.uptoBulkAll] at h1
  omega
/-- A case that came in. -/
theorem openCaseB {base : Nat} {v : Value} {d : DataW H} {p : List MemPlace} (hv : Value.okWide Tryd.prog W .any base 26 v) (h : DataW.Trod enc Tryd.prog W 0 (fun _ => true) true 26 v d p) (hz : (d.weights Tryd.prog 26).all (· ≤ reachBytes) = true) : ∃ cs cols vals, ICase W v cs cols vals ∧ ∀ x ∈ cs, x.kids.length ≤ Rows.uptoBulk d := by
  obtain ⟨vs, rfl, hsz⟩ := okWide_struct Tryd.underlying26 hv
  obtain ⟨fuel, hf⟩ := h
  simp only [Value.cells] at hf
  obtain ⟨y0, y1, y2, m, hx, hl, h0, h1, h2⟩ := trod_struct3 Tryd.underlying26 hf
  rw [cellsOf26] at hsz
  obtain ⟨l⟩ := vs
  match l, hsz with
  | [s1, s2, s3], _ =>
    simp only [cellsOf22, cellsOf23, cellsOf24] at h0 h1 h2
    have g0 : DataW.trod enc Tryd.prog W 0 (fun _ => true) true m 22 [s1] = some y0 := h0
    have g1 : DataW.trod enc Tryd.prog W 0 (fun _ => true) true m 23 [s2] = some y1 := h1
    have g2 : DataW.trod enc Tryd.prog W 0 (fun _ => true) true m 24 [s3] = some y2 := h2
    have form : ∀ {t e : TypeId} {s : Value} {y : DataW H × List MemPlace}, Tryd.prog.underlying t = some (.slice e) → DataW.trod enc Tryd.prog W 0 (fun _ => true) true m t [s] = some y → ∃ a n c, s = .slice a n c := fun ht hq => by
      rcases open_slice ht hq with ⟨hcs, _⟩ | ⟨a, len, cap, m', n', D, Pl, hcs, _⟩
      · simp at hcs; exact ⟨_, _, _, hcs⟩
      · simp at hcs; exact ⟨_, _, _, hcs⟩
    obtain ⟨a1, n1, c1, rfl⟩ := form Tryd.underlying22 g0
    obtain ⟨a2, n2, c2, rfl⟩ := form Tryd.underlying23 g1
    obtain ⟨a3, n3, c3, rfl⟩ := form Tryd.underlying24 g2
    obtain ⟨m1, L1, l1, lv1, hd1⟩ := openL EC cellsOf54 (cd0, (none, 0, 0)) (CIn W) (fun n cs x h => cd_cells h) g0
    obtain ⟨m2, L2, l2, lv2, _⟩ := openL EK cellsOf42 ([], 0) (fun _ _ => True) (fun n cs x h => co_cells h) g1
    obtain ⟨m3, L3, l3, lv3, _⟩ := openL EV cellsOf30 (0, 0, []) (fun _ _ => True) (fun n cs x h => va_cells h) g2
    have hall : ∀ e ∈ L1, T.LV EI W (slW e.2) e.1.kids ∧ (e.1.kids.length ≤ 17592186044416 ∧ (str e.1.col).size ≤ maxLen) ∧ e.1.kids.length ≤ Rows.uptoBulk d := by
      rcases hd1 with ⟨_, e⟩ | ⟨D, sp, e, hD⟩
      · rw [e]; intro e he; simp at he
      · intro z hzm
        obtain ⟨i, hi⟩ := List.getElem?_of_mem hzm
        have hil : i < n1 := by have := (List.getElem?_eq_some_iff.1 hi).1; omega
        have hc := hD i z hi
        have hd : d = .agg [y0.1, y1.1, y2.1] := congrArg Prod.fst hx
        refine ⟨hc.1, hc.sized (all_less hz fun n hn => ?_), Nat.le_trans (hc.bulk) (bulk_up hd e hil)⟩
        have hu : Tryd.prog.underlying 26 = _ := Tryd.underlying26
        have hu2 : Tryd.prog.underlying 22 = _ := Tryd.underlying22
        rw [hd, DataW.weights]
        simp only [hu, List.map_cons, List.map_nil, DataW.weightsEach, List.mem_append]
        left
        rw [e, DataW.weights]
        simp only [hu2, List.mem_cons, List.mem_append]
        exact .inr (.inl (weightsAll_mem (List.mem_map.2 ⟨i, List.mem_range.2 hil, rfl⟩) _ hn))
    refine ⟨L1.map Prod.fst, L2, L3, ⟨⟨a1, c1, a2, c2, a3, c3, by rw [List.length_map, l1, l2, l3], ?_, by rw [l2]; exact lv2, by rw [l3]; exact lv3, m1, m2, m3⟩, fun x hx => ?_, fun x hx => ?_⟩, fun x hx => ?_⟩
    · rw [List.length_map, l1]
      exact ⟨L1, lv1, rfl, fun e he => (hall e he).1⟩
    · obtain ⟨e, he, rfl⟩ := List.mem_map.1 hx
      exact (hall e he).2.1.1
    · obtain ⟨e, he, rfl⟩ := List.mem_map.1 hx
      exact (hall e he).2.1.2
    · obtain ⟨e, he, rfl⟩ := List.mem_map.1 hx
      exact (hall e he).2.2
end
end Go.Proofs.YtipnaphikbjhbaaDoor
