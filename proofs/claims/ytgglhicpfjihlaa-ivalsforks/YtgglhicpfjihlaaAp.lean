/- A number is appended to a slice of one's own: which blocks it has then. -/
import Derived.Test.YtgglhicpfjihlaaMe
import Derived.ArgAppend
import Derived.Laws.OwnMore
namespace Go.Proofs.Ytgglhicpfjihlaa
open Go.RowKit Go.Shelf
set_option maxRecDepth 100000
attribute [local go_sem] Oper.semAt_some

theorem info3 : (Try.prog.info? 3).map (fun i => (i.zero, i.size, i.bytes)) = some (some (.int .i64 0), 1, 8) := by kernel_rfl

theorem append_int {w : World} {base : Nat} {v : Value} {n : Nat} {xs : List Value} (hown : w.ownsRow base 3 1 v n xs) (hn : n ≤ 100000) (hb : base ≤ w.heap.size) (ty : TypeId) {gb : Nat} {c : Nat} {u : Value} (hu : w.cell? ⟨gb, 0, none⟩ = some u) (h1 : u.oneCell' = true) :
    ∃ v' w', (Builtin.append_ #[41, 41] ty #[v, .slice (some ⟨gb, 0, none⟩) 1 c]).run Try.prog w = .ok v' w' ∧ w'.ownsRow base 3 1 v' (n + 1) (xs ++ [u]) ∧ w.grownBy w' v.ownBlock ∧ (∀ k, v'.ownBlock = some k → v.ownBlock = some k ∨ w.heap.size ≤ k) := by
  obtain ⟨i0, hi, hz0, hz1, hz2⟩ := info_parts info3
  have hc : ∀ j x, [u][j]? = some x → w.cell? ((⟨gb, 0, none⟩ : Addr).add j) = some x := fun j x hx => by
    cases j with
    | zero => simp at hx; subst hx; rw [Addr.add_mid]; exact hu
    | succ j => simp at hx
  have hm : n + 1 ≤ maxLen := by unfold maxLen; omega
  obtain ⟨v', w', hrun, r1, r2, _⟩ := run_append_own (P := Try.prog) w base 41 ty 3 i0 (.int .i64 0) 1 8 Try.underlying41 hi hz0 hz1 hz2 rfl (by decide) v n xs hown ⟨gb, 0, none⟩ 1 c [u] rfl hc (by simpa using h1) hm (by omega) hb
  refine ⟨v', w', hrun, r1, r2, ?_⟩
  obtain ⟨hl, ⟨rfl, rfl⟩ | ⟨g, cap, cur, rfl, hg, hblk, hnc, hcm, hcs, htk⟩⟩ := hown
  · obtain ⟨v2, w2, hrun2, q1, q2, _⟩ := run_append_own (P := Try.prog) w w.heap.size 41 ty 3 i0 (.int .i64 0) 1 8 Try.underlying41 hi hz0 hz1 hz2 rfl (by decide) (.slice none 0 0) 0 [] (World.ownsRow_nil _ _ _ _) ⟨gb, 0, none⟩ 1 c [u] rfl hc (by simpa using h1) (by unfold maxLen; omega) (by omega) (Nat.le_refl _)
    rw [hrun] at hrun2
    injection hrun2 with e1 e2
    subst e1
    exact fun k hk => .inr (q1.lt k hk).1
  · by_cases hr : n + 1 ≤ cap
    · have h3 := run_append_room (P := Try.prog) w 41 ty 3 i0 Try.underlying41 hi g n cap cur hblk ⟨gb, 0, none⟩ 1 c [u] (by simp [hz1]) hc (by simpa using h1) hr (by rw [hz1, hcs]; simp; omega)
      rw [hrun] at h3
      injection h3 with e1 e2
      subst e1
      exact fun k hk => .inl hk
    · have hcells : ∀ j x, xs[j]? = some x → w.cell? ((⟨g, 0, none⟩ : Addr).add j) = some x := fun j x hx => World.ownsRow.cells (w := w) (base := base) (e := 3) (size := 1) (v := .slice (some ⟨g, 0, none⟩) n cap) (n := n) ⟨hl, .inr ⟨g, cap, cur, rfl, hg, hblk, hnc, hcm, hcs, htk⟩⟩ (g := g) rfl j x hx
      obtain ⟨v2, w2, hrun2, q1, q2⟩ := run_append_arg_grows (P := Try.prog) w 41 ty 3 i0 (.int .i64 0) 1 8 Try.underlying41 hi hz0 hz1 hz2 rfl (by decide) ⟨g, 0, none⟩ n cap xs hl hcells ⟨gb, 0, none⟩ 1 c [u] rfl hc (by omega) hm (by omega)
      rw [hrun] at hrun2
      injection hrun2 with e1 e2
      subst e1
      exact fun k hk => .inr (q1.lt k hk).1

theorem wpListIn_append_int {F : Fence} {n : Nat} {ops : Array Oper} {rest : List Oper} {o : Oper} {a : Act} {Q : Exit → Act → World → Prop} {w : World} (hg : o.guard = none) (s x : Operand)
    (hop : o.op = Op.call { callee := Callee.builtin Builtin.append, args := #[s, x], argTypes := #[41, 41] }) {base : Nat} {v : Value} {k : Nat} {xs : List Value} (hs : a.eval s = v) (hown : w.ownsRow base 3 1 v k xs) (hk : k ≤ 100000) (hb : base ≤ w.heap.size)
    {gb : Nat} {c : Nat} {u : Value} (hx : a.eval x = .slice (some ⟨gb, 0, none⟩) 1 c) (hu : w.cell? ⟨gb, 0, none⟩ = some u) (h1 : u.oneCell' = true)
    (hK : ∀ v' w', w'.ownsRow base 3 1 v' (k + 1) (xs ++ [u]) → w.grownBy w' v.ownBlock → (∀ j, v'.ownBlock = some j → v.ownBlock = some j ∨ w.heap.size ≤ j) → wpListIn F n Try.prog ops Q rest (a.put o.dst v') w') :
    wpListIn F n Try.prog ops Q (o :: rest) a w := by
  refine wpListIn_plain hg fun K hK' => ?_
  obtain ⟨v', w', hrun, r1, r2, r3⟩ := append_int hown hk hb o.type hu h1
  unfold Oper.wpIn
  refine ⟨?_, ?_⟩
  · simp [Oper.about, hop, resolve, Target.leads, Sem.run_pure]
  · rw [Oper.semAt_plain F _ _ (by rw [hop]; intro c hc'; cases hc')]
    simp [execOp, hop, resolve, invoke, builtin, hs, hx, Result.andThen]
    rw [hrun]
    exact hK' _ _ (hK v' w' r1 r2 r3)

/-- A slice of numbers that is one's own stands, where its block does. -/
theorem owns_keep {W W' : World} {base : Nat} {v : Value} {n : Nat} {xs : List Value} (h : W.ownsRow base 3 1 v n xs) (hk : ∀ k, v.ownBlock = some k → W'.heap[k]? = W.heap[k]?) : W'.ownsRow base 3 1 v n xs := by
  obtain ⟨hl, h | ⟨g, cap, cur, rfl, hg, hblk, r⟩⟩ := h
  · exact ⟨hl, .inl h⟩
  · exact ⟨hl, .inr ⟨g, cap, cur, rfl, hg, (hk g rfl).trans hblk, r⟩⟩
end Go.Proofs.Ytgglhicpfjihlaa
