/- An append of rows to rows. -/
import Derived.Test.YtpagnphabchfcaaLv
import Derived.Deep.AppendSrc
import Derived.ArgAppend
import Derived.Deep.Upon
namespace Go.Proofs.Ytpagnphabchfcaa
open Go.RowKit Go.Shelf
set_option maxRecDepth 100000
theorem newsE {w : World} {es : List El} {g o : Nat} (h : ∀ (i : Nat) (e : El), es[i]? = some e → w.cell? ⟨g, o + i * 3, none⟩ = some e.1 ∧ w.cell? ⟨g, o + i * 3 + 1, none⟩ = some (.int .i64 e.2.2.1) ∧ w.cell? ⟨g, o + i * 3 + 2, none⟩ = some (.int .i64 e.2.2.2)) : ∀ j u, (cellsE es)[j]? = some u → w.cell? ((⟨g, o, none⟩ : Addr).add j) = some u := fun j u hu => by
  have hj := (List.getElem?_eq_some_iff.1 hu).1
  rw [cellsE_length] at hj
  obtain ⟨s, hs⟩ : ∃ s, es[j / 3]? = some s := ⟨_, List.getElem?_eq_getElem (by omega)⟩
  obtain ⟨c1, c2, c3⟩ := cellsE_get es _ s hs
  obtain ⟨d1, d2, d3⟩ := h _ s hs
  rw [Addr.add_mid]
  have hm : j % 3 = 0 ∨ j % 3 = 1 ∨ j % 3 = 2 := by omega
  rcases hm with hr | hr | hr
  · rw [show j / 3 * 3 = j by omega, hu] at c1
    rw [show o + j / 3 * 3 = o + j by omega] at d1
    rw [d1, c1]
  · rw [show j / 3 * 3 + 1 = j by omega, hu] at c2
    rw [show o + j / 3 * 3 + 1 = o + j by omega] at d2
    rw [d2, c2]
  · rw [show j / 3 * 3 + 2 = j by omega, hu] at c3
    rw [show o + j / 3 * 3 + 2 = o + j by omega] at d3
    rw [d3, c3]
theorem ownR_apps {w : World} {B : Nat} {X : Nat → Prop} {u lv : Value} {es es' : List El} (h : OwnR w B u es) (hV : RL w X lv es') (hX : ∀ b, u.ownBlock = some b → X b) (hn : es.length + es'.length ≤ 100000) (hB : B ≤ w.heap.size) :
    ∃ u' w', (Builtin.append_ #[22, 22] 22 #[u, lv]).run Try.prog w = .ok u' w' ∧ OwnR w' B u' (es ++ es') ∧ Below B w w' := by
  obtain ⟨i0, hi, hz0, hz1, hz2⟩ := info_parts' info34
  have hcap := h.cap
  obtain ⟨a, c, rfl, hat⟩ := hV.at'
  by_cases h0 : es' = []
  · subst h0
    rw [List.append_nil]
    have hsrc : Src Try.prog i0.size 22 (.slice a 0 c) 0 [] w := by
      cases a with
      | none => exact Src.ofNil w Try.underlying22 c
      | some a => exact Src.ofSlice w Try.underlying22 a 0 c [] (by simp) (by simp) (by simp)
    obtain ⟨b, n, k, rfl⟩ := h.form
    exact ⟨_, w, run_append_nothing w 22 22 22 34 i0 Try.underlying22 hi b n k (hcap _ _ _ rfl) _ hsrc, h, Below.refl _ _⟩
  · have hpos : 0 < es'.length := List.length_pos_iff.2 h0
    obtain ⟨g, o, rfl, _, _, hta⟩ := hat hpos
    obtain ⟨v', w', hrun, r1, r2, r3, r4⟩ := run_append_own_at (P := Try.prog) w B 22 22 34 i0 (.agg #[.slice none 0 0, .int .i64 0, .int .i64 0]) 3 40 Try.underlying22 hi hz0 hz1 hz2 rfl (by decide) u es.length (cellsE es) h.row ⟨g, o, none⟩ es'.length c (cellsE es') (cellsE_length es') (newsE hta) (by
      intro v hv
      obtain ⟨e, he, hv⟩ := List.mem_flatMap.1 hv
      obtain ⟨pa, ca, hf⟩ := (hV.vals e he).form
      simp [encE] at hv
      rcases hv with rfl | rfl | rfl
      · rw [hf]; rfl
      · rfl
      · rfl) (by unfold maxLen; omega) (by omega) hB
    have hnew : ∀ k, v'.ownBlock = some k → u.ownBlock = some k ∨ w.heap.size ≤ k := fun k hk => r4.elim (fun q => .inl (q ▸ hk)) (fun q => .inr (by rw [q] at hk; cases hk; exact Nat.le_refl _))
    refine ⟨v', w', hrun, ⟨?_, fun x hx => ?_⟩, ⟨r2.os, r2.tape, r2.output, r2.size, fun k hk => r2.block k (by omega) (fun e => by have := (h.row.lt k e.symm).1; omega)⟩⟩
    · rw [List.length_append, cellsE_app]
      exact r1
    · have hs : SV w (fun b => u.ownBlock = some b) x.1 x.2.1 := by
        rcases List.mem_append.1 hx with hx | hx
        · exact h.vals x hx
        · exact (hV.vals x hx).mono (fun b _ q => hX b q)
      exact hs.keep (keep_of_grown r2) (fun b hb hy => (hnew b hy).elim id (fun h => by omega))
theorem run_build0 (w : World) : (Instr.buildSlice 22 0 #[]).run Try.prog w = .ok (.slice (some ⟨w.heap.size, 0, none⟩) 0 0) (w.alloc (.cells #[] 34)) := by
  obtain ⟨i, hi, hz0, hz1, hz2⟩ := info_parts' info34
  simp [Instr.buildSlice, Sem.run_bind, run_underlying Try.underlying22, sizeOf, typeInfo, hi, Instr.fill, newRow, newObj]
  rw [show (Array.map (fun _ => (default : Value)) (Array.range 0)) = #[] by simp]
  rfl
theorem own_build0 (w : World) : OwnR (w.alloc (.cells #[] 34)) w.heap.size (.slice (some ⟨w.heap.size, 0, none⟩) 0 0) [] :=
  ⟨⟨rfl, .inr ⟨w.heap.size, 0, #[], rfl, Nat.le_refl _, (MapKept.heap_alloc w _).1, Nat.le_refl _, by unfold maxLen; omega, rfl, rfl⟩⟩, fun e he => by cases he⟩
/-! ### plain -/
theorem less_perm (A B : List Rw) : (lessR A B ++ lessR A (lessR A B)).Perm A := by
  rw [List.perm_iff_count]
  intro z
  rw [List.count_append, lessR_count, lessR_count, lessR_count]
  omega
theorem nil_of_count {l : List Rw} (h : ∀ z, l.count z = 0) : l = [] := by
  apply List.eq_nil_iff_forall_not_mem.2
  intro z hz
  have := List.count_pos_iff.2 hz
  have := h z
  omega
theorem less_both (A B : List Rw) : lessR (lessR A (lessR A B)) B = [] := nil_of_count fun z => by rw [lessR_count, lessR_count, lessR_count]; omega
theorem less_self (A : List Rw) : lessR A A = [] := nil_of_count fun z => by rw [lessR_count]; omega
end Go.Proofs.Ytpagnphabchfcaa
