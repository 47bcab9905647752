/- with. -/
import Derived.Test.YtgimjjlkniplnaaPq
namespace Go.Proofs.Ytgimjjlkniplnaa
open Go.RowKit Go.Shelf
set_option maxRecDepth 100000
attribute [local go_sem] ta64_64 ta72_64 ta72_72 ta64_72 tb64_64 tb72_72
theorem SPost.mono {w w' : World} {h lo lo' : Nat} {kv : List Pr} {e : Ending} (k : SPost w h lo kv e w') (hl : lo' ≤ lo) : SPost w h lo' kv e w' := by
  obtain ⟨v, h1, h2, h3⟩ := k
  refine ⟨v, h1, h2, h3.imp ?_ id⟩
  rintro ⟨p, n, q1, q2, q3, q4, q5⟩
  exact ⟨p, n, q1, q2, q3, by omega, q5⟩
/-- The parts as a list. -/
def SList (w : World) (h : Nat) (kv : List Pr) (e : Ending) (w' : World) : Prop := ∃ a c n, ∃ ps : List Kd, e = .returned (.slice a n c) ∧ ps.length = n ∧ LV EK w' (.slice a n c) (ps.map (·.1)) ∧ flat ps = kv ∧ Kids w' h ps ∧ 1 ≤ n ∧ n ≤ 2 ∧ Below w.heap.size w w'
theorem SPost.list {w w' : World} {h lo : Nat} {kv : List Pr} {e : Ending} (k : SPost w h lo kv e w') (hl : 4 ≤ lo) : SList w h kv e w' := by
  obtain ⟨v, rfl, h2, h3⟩ := k
  rcases h3 with ⟨p, n, q1, q2, q3, q4, q5⟩ | ⟨p, q, m, n, q1, q2, q3, q4, q5, q6, q7, q8⟩
  · obtain ⟨a, c, rfl⟩ := q1.form
    refine ⟨a, c, 1, [p], rfl, rfl, q1, by simp [flat, q2], ?_, by omega, by omega, h2⟩
    intro x hx
    simp at hx
    subst hx
    exact ⟨n, by omega, q5, q3⟩
  · obtain ⟨a, c, rfl⟩ := q1.form
    refine ⟨a, c, 2, [p, q], rfl, rfl, q1, by simp [flat, q2], ?_, by omega, by omega, h2⟩
    intro x hx
    simp at hx
    rcases hx with rfl | rfl
    · exact ⟨m, q5, q6, q3⟩
    · exact ⟨n, q7, q8, q4⟩
theorem lv_one {w : World} (p : Pr) : LV EP (w.alloc (.cells #[.string p.1, .string p.2] 33)) (.slice (some ⟨w.heap.size, 0, none⟩) 1 1) [p] := lv_blk EP (L := [p]) (blk_new w [.string p.1, .string p.2] 33) 1 (by simp)
theorem put_found {kv : List Pr} {i : Nat} {p : Pr} (hs : Srt kv) (ha : At kv p.1 i) (hf : found kv p.1 i = true) : kv.take i ++ [p] ++ kv.drop (i + 1) = put kv p := by
  obtain ⟨q, hq, hk⟩ := is_found hf
  unfold put
  rw [(cut_lo ha).1, (cut_found hs hq hk ha).1]
  simp
theorem put_none {kv : List Pr} {i : Nat} {p : Pr} (hs : Srt kv) (ha : At kv p.1 i) (hf : found kv p.1 i = false) : kv.take i ++ [p] ++ kv.drop i = put kv p := by
  unfold put
  rw [(cut_lo ha).1, (cut_none ha (not_found hf) hs).1]
  simp
theorem put_ge {kv : List Pr} (hs : Srt kv) (p : Pr) : kv.length ≤ (put kv p).length ∧ (put kv p).length ≤ kv.length + 1 := by
  have := put_len hs p
  have : (has kv p.1).toNat ≤ 1 := Bool.toNat_le _
  omega
set_option maxHeartbeats 1000000 in
theorem with43_leaf {p : Pr} {n : Nat} {w : World} {x : Bx} {kv : List Pr} (hp : Part w 0 n x kv) (hs : Srt kv) (hn : n ≤ 8) : Calls Try.prog 43 #[.iface x.1 x.2, .agg #[.string p.1, .string p.2]] w (SPost w 0 n (put kv p)) := by
  obtain ⟨a, c, rfl, hl, hln⟩ := hp.leaf
  have hB := al w (.cells #[.string p.1, .string p.2] 33)
  have k48 := place48 (k := p.1) (hl.below hB) hs (by omega)
  have HB : Hid _ := hB
  have hbk := blk_new w [.string p.1, .string p.2] 33
  have HC : Hid (∀ (w1 : World) (i : Nat), i ≤ kv.length → At kv p.1 i → Below (w.alloc (.cells #[.string p.1, .string p.2] 33)).heap.size (w.alloc (.cells #[.string p.1, .string p.2] 33)) w1 →
      (w1.cell? ⟨w.heap.size, 0, none⟩ = some (.string p.1) ∧ w1.cell? ⟨w.heap.size, 1, none⟩ = some (.string p.2)) ∧ wrap64 ((i : Int) + 1) = (i : Int) + 1 ∧ Hid (Below w.heap.size w w1) ∧
      ((found kv p.1 i = true ∧ Calls Try.prog 53 #[.slice a n c, .int .i64 (i : Int), .int .i64 ((i : Int) + 1), .slice (some ⟨w1.heap.size, 0, none⟩) 1 1] (w1.alloc (.cells #[.string p.1, .string p.2] 33)) (CPost EP (w1.alloc (.cells #[.string p.1, .string p.2] 33)) (put kv p))) ∨
       (found kv p.1 i = false ∧ Calls Try.prog 53 #[.slice a n c, .int .i64 (i : Int), .int .i64 (i : Int), .slice (some ⟨w1.heap.size, 0, none⟩) 1 1] (w1.alloc (.cells #[.string p.1, .string p.2] 33)) (CPost EP (w1.alloc (.cells #[.string p.1, .string p.2] 33)) (put kv p))))) := fun w1 i hi ha hB1 => by
    have hB2 : Below w.heap.size w w1 := bmore HB.out hB1
    have hl1 := hl.below (bmore hB2 (al w1 (.cells #[.string p.1, .string p.2] 33)))
    obtain ⟨e0, e1, _, _⟩ := Blk.c2 (hbk.below hB1)
    refine ⟨⟨e0, e1⟩, IntWalk.wrap64_in _ (by omega), hB2, ?_⟩
    cases hf : found kv p.1 i with
    | true =>
      obtain ⟨q, hq, _⟩ := is_found hf
      have hlt := (List.getElem?_eq_some_iff.1 hq).1
      have := spliced53 hl1 (lv_one p) (i := i) (j := i + 1) (by omega) (by omega) (by simp; omega)
      rw [put_found hs ha hf, hln] at this
      exact .inl ⟨rfl, by simpa using this⟩
    | false =>
      have := spliced53 hl1 (lv_one p) (i := i) (j := i) (by omega) hi (by simp; omega)
      rw [put_none hs ha hf, hln] at this
      exact .inr ⟨rfl, this⟩
  have HL : Hid ((put kv p).length ≤ 9 ∧ n ≤ (put kv p).length) := by have := put_ge hs p; show _ ∧ _; omega
  rw [hln] at k48
  rw [hln]
  clear hl hp hs hB hbk hln
  go_enter Try.func43, Try.ntmps43
  go_wp2_with (first
    | (go_at_call 48; (with_reducible refine k48.mono ?_); rintro e w1 ⟨i, hi, ha, rfl, hB1⟩; obtain ⟨⟨e0, e1⟩, hw, HB2, hcase⟩ := HC.out w1 i hi ha hB1; clear hi ha hB1 k48; rcases hcase with ⟨hf, k53⟩ | ⟨hf, k53⟩)
    | (go_at_call 53; (with_reducible refine k53.mono ?_); rintro e w2 ⟨v2, rfl, hv2, hB3⟩; have k52 := leaves52 hv2 (by have := HL.out; omega); have HB3 : Hid (Below w.heap.size w w2) := bmore (bmore HB2.out (al _ _)) hB3; clear hB3 k53)
    | (go_at_call 52; (with_reducible refine k52.mono ?_); rintro e w3 hS; obtain ⟨v3, hv3, hS3⟩ : ∃ v3, e = .returned v3 ∧ Hid (SPost w 0 n (put kv p) (.returned v3) w3) := (by obtain ⟨v3, hq, hr⟩ := hS; exact ⟨v3, hq, (SPost.mono (SPost.base (show SPost w2 0 _ (put kv p) (.returned v3) w3 from ⟨v3, rfl, hr⟩) HB3.out) HL.out.2)⟩); subst hv3; clear hS))
  all_goals
    go_ret
    exact hS3.out
end Go.Proofs.Ytgimjjlkniplnaa
