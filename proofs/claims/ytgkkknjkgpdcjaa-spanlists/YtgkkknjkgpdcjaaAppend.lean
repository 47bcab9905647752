/- append(dst, src...) at slices of spans: dst the call's own, src whatever slice of spans. -/
import Derived.Test.YtgkkknjkgpdcjaaFew
import Derived.Deep.AppendSrc
namespace Go.Proofs.Ytgkkknjkgpdcjaa
open Go.RowKit

theorem cells2_at (xs : List (Int × Int)) (j : Nat) : (cells2 xs)[j]? = xs[j / 2]?.map fun x => if j % 2 = 0 then Value.int .i64 x.1 else Value.int .i64 x.2 := by
  by_cases h : j / 2 < xs.length
  · have hg := cells2_get xs (j / 2) h
    rw [List.getElem?_eq_getElem h]
    rcases (show j % 2 = 0 ∨ j % 2 = 1 by omega) with hr | hr
    · have e : j / 2 * 2 = j := by omega
      rw [e] at hg
      rw [hg.1, hr]; simp
    · have e : j / 2 * 2 + 1 = j := by omega
      rw [e] at hg
      rw [hg.2, hr]; simp
  · rw [List.getElem?_eq_none (by rw [cells2_length]; omega), List.getElem?_eq_none (by omega)]; rfl

theorem cells2_one (xs : List (Int × Int)) : ∀ u, u ∈ cells2 xs → u.oneCell' = true := by
  intro u hu
  obtain ⟨j, hj⟩ := List.getElem?_of_mem hu
  rw [cells2_at] at hj
  rcases ho : xs[j / 2]? with _ | y
  · rw [ho] at hj; simp at hj
  · rw [ho] at hj; simp at hj; subst hj; split <;> rfl

theorem srow_news {w : World} {b off cap : Nat} {ys : List (Int × Int)} (h : SRow w (.slice (some ⟨b, off, none⟩) ys.length cap) ys) : ∀ j u, (cells2 ys)[j]? = some u → w.cell? ((⟨b, off, none⟩ : Addr).add j) = some u := by
  intro j u hj
  rw [cells2_at] at hj
  by_cases hjl : j / 2 < ys.length
  · rw [List.getElem?_eq_getElem hjl] at hj
    obtain ⟨p, cap', hv, hf⟩ := h.form
    simp only [Value.slice.injEq] at hv
    obtain ⟨hp, _, _⟩ := hv
    subst hp
    obtain ⟨b', off', he, _, q1, q2⟩ := hf (j / 2) hjl
    cases he
    rw [show (⟨b, off, none⟩ : Addr).add j = ⟨b, off + j, none⟩ from by unfold Addr.add; by_cases h0 : j = 0 <;> simp [h0]]
    rcases (show j % 2 = 0 ∨ j % 2 = 1 by omega) with hr | hr
    · rw [show off + j / 2 * 2 = off + j by omega] at q1
      rw [q1]; simp [hr] at hj; rw [hj]
    · rw [show off + j / 2 * 2 + 1 = off + j by omega] at q2
      rw [q2]; simp [hr] at hj; rw [hj]
  · rw [List.getElem?_eq_none (by omega)] at hj
    simp at hj

theorem run_append_spans (w : World) (B : Nat) (ty : TypeId) (v u : Value) (xs ys : List (Int × Int)) (hown : Own w B v xs) (hu : SRow w u ys) (hlen : xs.length + ys.length ≤ 100000) (hB : B ≤ w.heap.size) :
    ∃ v' w', (Builtin.append_ #[31, 31] ty #[v, u]).run Try.prog w = .ok v' w' ∧ Own w' B v' (xs ++ ys) ∧ w.grownBy w' v.ownBlock := by
  obtain ⟨i0, hi, hz0, hz1, hz2⟩ := info_parts Try.info23
  have key : ∀ (a : Addr) (m c : Nat) (news : List Value), u = .slice (some a) m c → m = ys.length → news = cells2 ys → (∀ j x, news[j]? = some x → w.cell? (a.add j) = some x) →
      ∃ v' w', (Builtin.append_ #[31, 31] ty #[v, u]).run Try.prog w = .ok v' w' ∧ Own w' B v' (xs ++ ys) ∧ w.grownBy w' v.ownBlock := by
    intro a m c news hue hm hn hnews
    obtain ⟨v', w', hr, h2, h3, _⟩ := run_append_own (P := Try.prog) w B 31 ty 23 i0 (.agg #[.int .i64 0, .int .i64 0]) 2 16 Try.underlying31 hi hz0 hz1 hz2 rfl (by decide) v xs.length (cells2 xs) hown a m c news (by rw [hn, hm, cells2_length]) hnews (by rw [hn]; exact cells2_one ys) (by unfold maxLen; omega) (by omega) hB
    refine ⟨v', w', by rw [hue]; exact hr, ?_, h3⟩
    unfold Own
    rw [cells2_append, List.length_append, ← hm, ← hn]
    exact h2
  rcases hu with ⟨⟨p, cap, rfl⟩, rfl⟩ | ⟨b, off, cap, rfl, h1, h2, h3, h4⟩
  · rcases p with _ | a
    · rw [List.append_nil]
      obtain ⟨q1, q2⟩ := id hown
      rcases q2 with ⟨rfl, hn⟩ | ⟨g, cp, cur, rfl, hb, hg, hnc, hcm, hcs, htake⟩
      · have hx : xs = [] := List.eq_nil_of_length_eq_zero hn
        subst hx
        refine ⟨.slice none 0 0, w, ?_, Own.nil _ _, ⟨rfl, rfl, rfl, Nat.le_refl _, fun _ _ _ => rfl⟩⟩
        simp [Builtin.append_, run_underlying Try.underlying31, sizeOf, typeInfo, hi, Builtin.lenOf, Builtin.firstCells]
      · have hr := run_append_room_src (P := Try.prog) w 31 31 ty 23 i0 Try.underlying31 hi g 0 xs.length cp (.slice none 0 cap) 0 [] (Src.ofNil w Try.underlying31 cap) (by omega) (fun j hj => by simp at hj) (fun j hj => by simp at hj)
        refine ⟨_, _, hr, ?_, ⟨rfl, rfl, rfl, Nat.le_refl _, fun _ _ _ => rfl⟩⟩
        exact hown
    · exact key a 0 cap [] rfl rfl rfl (fun j x hx => by simp at hx)
  · exact key ⟨b, off, none⟩ ys.length cap (cells2 ys) rfl rfl rfl (srow_news (.inr ⟨b, off, cap, rfl, h1, h2, h3, h4⟩))

theorem wpList_append_spans (w : World) {ops : Array Oper} {rest : List Oper} {o : Oper} {a : Act} {Q : Exit → Act → World → Prop} (hgd : o.guard = none) (s x : Operand)
    (ho : o.op = .call { callee := .builtin .append, args := #[s, x], argTypes := #[31, 31] }) (B : Nat) (v u : Value) (xs ys : List (Int × Int)) (hs : a.eval s = v) (hx : a.eval x = u)
    (hown : Own w B v xs) (hu : SRow w u ys) (hlen : xs.length + ys.length ≤ 100000) (hB : B ≤ w.heap.size)
    (h : ∀ v' w', Own w' B v' (xs ++ ys) → w.grownBy w' v.ownBlock → wpList Try.prog ops Q rest (a.put o.dst v') w') : wpList Try.prog ops Q (o :: rest) a w :=
  wpList_plain hgd fun _ hK => by
    obtain ⟨v', w', hr, h2, h3⟩ := run_append_spans w B o.type v u xs ys hown hu hlen hB
    unfold Oper.wp execOp
    simp only [ho, resolve, invoke, builtin, Sem.run_bind, Sem.run_pure, Result.andThen_ok, List.map_toArray, List.map_cons, List.map_nil, hs, hx, hr]
    exact hK _ _ (h v' w' h2 h3)

end Go.Proofs.Ytgkkknjkgpdcjaa
