/- spans. -/
import Derived.Test.YthalgnfffcimhaaLs
import Derived.Test.YthalgnfffcimhaaJf
namespace Go.Proofs.Ythalgnfffcimhaa
open Go.Shelf Go.RowKit
set_option maxRecDepth 100000
/-- What an append of a span leaves. -/
theorem Sp.Own.app {w : World} {B : Nat} {v : Value} {xs : List (Int × Int)} (h : Sp.Own w B v xs) (hn : xs.length ≤ 100000) (hB : B ≤ w.heap.size) (ty : TypeId) {gb c : Nat} {f t : Int}
    (h0 : w.cell? ⟨gb, 0, none⟩ = some (.int .i64 f)) (h1 : w.cell? ⟨gb, 1, none⟩ = some (.int .i64 t)) :
    ∃ v' w', (Builtin.append_ #[57, 57] ty #[v, .slice (some ⟨gb, 0, none⟩) 1 c]).run Try.prog w = .ok v' w' ∧ Sp.Own w' B v' (xs ++ [(f, t)]) ∧ Below B w w' := by
  obtain ⟨i0, hi, hz0, hz1, hz2⟩ := info_parts' Sp.Try.info27
  have hc : ∀ j x, (Sp.enc2 (f, t))[j]? = some x → w.cell? ((⟨gb, 0, none⟩ : Addr).add j) = some x := fun j x hx => by
    rw [Addr.add_mid, Nat.zero_add]
    match j with
    | 0 => simp [Sp.enc2] at hx; subst hx; exact h0
    | 1 => simp [Sp.enc2] at hx; subst hx; exact h1
    | j + 2 => simp [Sp.enc2] at hx
  obtain ⟨v', w', hrun, r1, r2, r3, r4⟩ := run_append_own_at (P := Try.prog) w B 57 ty 27 i0 (.agg #[.int .i64 0, .int .i64 0]) 2 16 Try.underlying57 hi hz0 hz1 hz2 rfl (by decide) v xs.length (Sp.cells2 xs) h ⟨gb, 0, none⟩ 1 c (Sp.enc2 (f, t)) rfl hc (by intro u hu; simp [Sp.enc2] at hu; rcases hu with rfl | rfl <;> rfl) (by unfold maxLen; omega) (by omega) hB
  refine ⟨v', w', hrun, ?_, ⟨r2.os, r2.tape, r2.output, r2.size, fun k hk => r2.block k (by omega) (fun e => by have := (World.ownsRow.lt h k e.symm).1; omega)⟩⟩
  unfold Sp.Own
  rw [List.length_append, Sp.cells2_append, show Sp.cells2 [(f, t)] = Sp.enc2 (f, t) by simp [Sp.cells2]]
  exact r1
def spn (es : List El) : List (Int × Int) := es.map (·.2.2)
def NPost (w : World) (l : List (Int × Int)) (e : Ending) (w' : World) : Prop := ∃ v1, e = .returned v1 ∧ Sp.Own w' w.heap.size v1 l ∧ Below w.heap.size w w'
set_option maxHeartbeats 1000000 in
theorem spans19 {w : World} {X : Nat → Prop} {v : Value} {es : List El} (h : RL w X v es) (hl : es.length ≤ 1000) :
    Calls Try.prog 13 #[v] w (NPost w (spn es)) := by
  obtain ⟨a, c, rfl⟩ := h.form
  obtain ⟨N, hN⟩ : ∃ N, es.length = N := ⟨_, rfl⟩
  have HN : Hid _ := hN
  have HR : Hid (RL w X (.slice a es.length c) es) := h
  rw [hN] at hl ⊢
  clear h hN
  go_enter Try.func13, Try.ntmps13
  go_wp2_with fail
  go_loopw [3, 8] (fun fo fi wr => ∃ (k : Nat), fi = .int .i64 (k : Int) ∧ Hid (k ≤ N) ∧ Hid (Sp.Own wr w.heap.size fo ((spn es).take k)) ∧ Hid (Below w.heap.size w wr)) (fun _ fi _ => ((N : Int) - intOf fi).toNat)
  case atStart => exact ⟨0, rfl, Nat.zero_le _, Sp.Own.nil _ _, Below.refl _ _⟩
  case round =>
    obtain ⟨k, rfl, hk, hO, hB⟩ := hrel
    by_cases hkN : k < N
    · have hki : (k : Int) < (N : Int) := by omega
      have hk0 : (0 : Int) ≤ (k : Int) := by omega
      obtain ⟨e, he⟩ : ∃ e, es[k]? = some e := ⟨_, List.getElem?_eq_getElem (by rw [HN.out]; exact hkN)⟩
      obtain ⟨g, o, rfl, _, _, d0, d1, d2⟩ := (RL.below HR.out hB.out).get he
      have HSV : Hid (SV w X e.1 e.2.1) := HR.out.vals e (List.mem_of_getElem? he)
      have HTk : Hid ((spn es).take (k + 1) = (spn es).take k ++ [e.2.2]) := by
        show _ = _
        rw [List.take_add_one, spn, List.getElem?_map, he]
        rfl
      obtain ⟨sv, vs, f, t⟩ := e
      simp only at d0 d1 d2 HSV HTk
      obtain ⟨pa, ca, rfl⟩ := SV.form HSV.out
      have HApp : Hid (∀ (w6 : World) (H : Nat), w6.heap.size = H → Hid (Below wr.heap.size wr w6) → ∃ v7 w7, (Builtin.append_ #[57, 57] 57 #[u3, .slice (some ⟨H, 0, none⟩) 1 1]).run Try.prog (w6.alloc (.cells #[.int .i64 f, .int .i64 t] 27)) = .ok v7 w7 ∧ Hid (Sp.Own w7 w.heap.size v7 ((spn es).take (k + 1))) ∧ Hid (Below w.heap.size w w7)) := fun w6 H hH hB6 => by
        subst hH
        have hal := al w6 (.cells #[.int .i64 f, .int .i64 t] 27)
        have O6 := hO.out.below (bmore hB6.out hal) (fun k hk => (World.ownsRow.lt hO.out k hk).2)
        have nb := blk_new w6 [.int .i64 f, .int .i64 t] 27
        have hbase := (bmore (bmore hB.out hB6.out) hal).size
        obtain ⟨v7, w7, hr7, A7, B7⟩ := Sp.Own.app O6 (by simp; omega) hbase 57 (gb := w6.heap.size) (c := 1) (nb.cell 0) (nb.cell 1)
        rw [← HTk.out] at A7
        exact ⟨v7, w7, hr7, A7, (bmore (bmore hB.out hB6.out) hal).trans B7⟩
      have HK6 : Hid (Below wr.heap.size wr (wr.alloc (.cells #[.slice pa vs.length ca, .int .i64 f, .int .i64 t] 30))) := al3 _ _ _ _
      clear he
      go_wp2_with (at_builtin; refine wpList_append_ex (by rfl) (.tmp 12) (.tmp 15) 57 (by rfl) _ _ (by rfl) (by rfl) (HApp.out _ (wr.heap.size + 1) (by simp) HK6) ?_; rintro v7 w7 ⟨hO7, hB7⟩)
      go_roundw
      case rel => exact ⟨k + 1, by simp, by show _ ≤ _; omega, hO7.out, hB7.out⟩
      case measure => simp only [intOf]; omega
    · have hki : ¬ (k : Int) < (N : Int) := by omega
      have HF : Hid ((spn es).take k = spn es) := List.take_of_length_le (by rw [spn, List.length_map, HN.out]; omega)
      go_wp2
      go_ret
      exact ⟨_, rfl, HF.out ▸ hO.out, hB.out⟩
end Go.Proofs.Ythalgnfffcimhaa
