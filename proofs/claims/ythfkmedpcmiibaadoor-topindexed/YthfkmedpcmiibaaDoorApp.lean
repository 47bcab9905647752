/- Bytes that may be none appended to a row of the call's own. -/
import Derived.Test.YthfkmedpcmiibaaDoorByt
import Derived.Deep.AppendSrc
namespace Go.Proofs.YthfkmedpcmiibaaDoor
open Go.RowKit Go.Lib

theorem cellsB_one (l : Bs) : ∀ u ∈ cellsB l, u.oneCell' = true := by
  intro u hu
  simp only [cellsB, List.mem_map] at hu
  obtain ⟨b, _, rfl⟩ := hu
  rfl
theorem add_off (b off i : Nat) : (⟨b, off, none⟩ : Addr).add i = ⟨b, off + i, none⟩ := by
  unfold Addr.add
  by_cases h : i = 0 <;> simp [h]

theorem run_append_sb (w : World) (B : Nat) (ty : TypeId) (v u : Value) (xs ys : Bs) (hown : BRow B v xs w) (hu : SB w u ys) (hlen : xs.length + ys.length ≤ 140737488355328) (hB : B ≤ w.heap.size) :
    ∃ v' w', (Builtin.append_ #[25, 25] ty #[v, u]).run Tryd.prog w = .ok v' w' ∧ BRow B v' (xs ++ ys) w' ∧ w.grownBy w' v.ownBlock := by
  obtain ⟨i0, hi, hz0, hz1, hz2⟩ := info_parts info5
  have key : ∀ (a : Addr) (m c : Nat) (news : List Value), u = .slice (some a) m c → m = ys.length → news = cellsB ys → (∀ j x, news[j]? = some x → w.cell? (a.add j) = some x) →
      ∃ v' w', (Builtin.append_ #[25, 25] ty #[v, u]).run Tryd.prog w = .ok v' w' ∧ BRow B v' (xs ++ ys) w' ∧ w.grownBy w' v.ownBlock := by
    intro a m c news hue hm hn hnews
    obtain ⟨v', w', hr, h2, h3, _⟩ := run_append_own (P := Tryd.prog) w B 25 ty 5 i0 (.int .u8 0) 1 1 Tryd.underlying25 hi hz0 hz1 hz2 rfl (by decide) v xs.length (cellsB xs) hown a m c news (by rw [hn, hm, cellsB_length]; omega) hnews (by rw [hn]; exact cellsB_one ys) (by unfold maxLen; omega) (by omega) hB
    refine ⟨v', w', by rw [hue]; exact hr, ?_, h3⟩
    unfold BRow
    rw [cellsB_append, List.length_append, ← hm, ← hn]
    exact h2
  rcases hu with ⟨p, cap, rfl, rfl⟩ | ⟨b, off, cap, rfl, h1, h2, h3, h4⟩
  · rcases p with _ | a
    · rw [List.append_nil]
      obtain ⟨q1, q2⟩ := id hown
      rcases q2 with ⟨rfl, hn⟩ | ⟨g, cp, cur, rfl, hb, hg, hnc, hcm, hcs, htake⟩
      · have hx : xs = [] := List.eq_nil_of_length_eq_zero hn
        subst hx
        refine ⟨.slice none 0 0, w, ?_, BRow.none _ _, ⟨rfl, rfl, rfl, Nat.le_refl _, fun _ _ _ => rfl⟩⟩
        simp [Builtin.append_, run_underlying Tryd.underlying25, sizeOf, typeInfo, hi, Builtin.lenOf, Builtin.firstCells]
      · have hr := run_append_room_src (P := Tryd.prog) w 25 25 ty 5 i0 Tryd.underlying25 hi g 0 xs.length cp (.slice none 0 cap) 0 [] (Src.ofNil w Tryd.underlying25 cap) (by omega) (fun j hj => by simp at hj) (fun j hj => by simp at hj)
        refine ⟨_, _, hr, ?_, ⟨rfl, rfl, rfl, Nat.le_refl _, fun _ _ _ => rfl⟩⟩
        exact hown
    · exact key a 0 cap [] rfl rfl rfl (fun j x hx => by simp at hx)
  · refine key ⟨b, off, none⟩ ys.length cap (cellsB ys) rfl rfl rfl (fun j x hx => ?_)
    have hj : j < ys.length := by
      have := (List.getElem?_eq_some_iff.1 hx).1
      rw [cellsB_length] at this; exact this
    rw [cellsB_get ys j hj] at hx
    rw [add_off, h4 j hj]; exact hx

theorem push_sb (w : World) {ops : Array Oper} {rest : List Oper} {o : Oper} {a : Act} {Q : Exit → Act → World → Prop} (hgd : o.guard = none) (s x : Operand)
    (ho : o.op = .call { callee := .builtin .append, args := #[s, x], argTypes := #[25, 25] }) (B : Nat) (v u : Value) (xs ys : Bs) (hs : a.eval s = v) (hx : a.eval x = u)
    (hown : BRow B v xs w) (hu : SB w u ys) (hlen : xs.length + ys.length ≤ 140737488355328) (hB : B ≤ w.heap.size)
    (h : ∀ v' w', BRow B v' (xs ++ ys) w' → w.grownBy w' v.ownBlock → wpList Tryd.prog ops Q rest (a.put o.dst v') w') : wpList Tryd.prog ops Q (o :: rest) a w :=
  wpList_plain hgd fun _ hK => by
    obtain ⟨v', w', hr, h2, h3⟩ := run_append_sb w B o.type v u xs ys hown hu hlen hB
    unfold Oper.wp execOp
    simp only [ho, resolve, invoke, builtin, Sem.run_bind, Sem.run_pure, Result.andThen_ok, List.map_toArray, List.map_cons, List.map_nil, hs, hx, hr]
    exact hK _ _ (h v' w' h2 h3)

/-- A new block of no byte is a row of the call's own. -/
theorem brow_empty {B g : Nat} {w : World} (hg : w.heap.size = g) (hB : B ≤ w.heap.size) : BRow B (.slice (some ⟨g, 0, none⟩) 0 0) [] (w.alloc (.cells #[] 5)) := by
  subst hg
  exact ⟨rfl, .inr ⟨w.heap.size, 0, #[], rfl, hB, (MapKept.heap_alloc w _).1, Nat.le_refl _, by unfold maxLen; omega, rfl, rfl⟩⟩

end Go.Proofs.YthfkmedpcmiibaaDoor
