/- copied. -/
import Derived.Test.YthalgnfffcimhaaOw
namespace Go.Proofs.Ythalgnfffcimhaa
open Go.RowKit Go.Shelf
set_option maxRecDepth 100000
def rws (es : List El) : List Rw := es.map (·.2)
theorem run_make_rows (N : Nat) (hN : N ≤ 100000) (w : World) : ∃ w', (Instr.makeSlice 31 (.int .i64 0) (.int .i64 (N : Int))).run Try.prog w = .ok (.slice (some ⟨w.heap.size, 0, none⟩) 0 N) w' ∧ OwnR w' w.heap.size (.slice (some ⟨w.heap.size, 0, none⟩) 0 N) [] ∧ Below w.heap.size w w' := by
  obtain ⟨i0, hi, hz0, hz1, hz2⟩ := info_parts' info34
  obtain ⟨w', h1, h2, h3⟩ := run_make_own (P := Try.prog) (w := w) w.heap.size 31 30 i0 _ 3 Try.underlying31 hi hz0 hz1 .i64 .i64 N (by rw [hz2]; omega) (by unfold maxLen; omega) (Nat.le_refl _)
  exact ⟨w', h1, ⟨h2, fun e he => by cases he⟩, ⟨h3.os, h3.tape, h3.output, h3.size, fun k hk => h3.block k hk (by simp)⟩⟩
set_option maxHeartbeats 1000000 in
theorem copied35 {w : World} {X : Nat → Prop} {v : Value} {es : List El} (h : RL w X v es) (hl : es.length ≤ 1000) (hv : ∀ e ∈ es, e.2.1.length ≤ 1000) :
    Calls Try.prog 24 #[v] w fun e w' => ∃ v' es', e = .returned v' ∧ Hid (v' ≠ .slice none 0 0 ∧ OwnR w' w.heap.size v' es') ∧ Hid (rws es' = rws es) ∧ Below w.heap.size w w' := by
  obtain ⟨a, c, rfl⟩ := h.form
  obtain ⟨N, hN⟩ : ∃ N, es.length = N := ⟨_, rfl⟩
  have HN : Hid _ := hN
  have HR : Hid (RL w X (.slice a es.length c) es) := h
  have HV : Hid _ := hv
  rw [hN] at hl ⊢
  obtain ⟨w1, hmk, ho1, hB1⟩ := run_make_rows N (by omega) w
  have HO1 : Hid _ := ho1
  have HB1 : Hid _ := hB1
  clear h hN hv ho1 hB1
  go_enter Try.func24, Try.ntmps24
  go_wp2_with fail
  go_loopw [3, 11] (fun fo fi wr => ∃ (k : Nat) (es' : List El), fi = .int .i64 (k : Int) ∧ Hid (k ≤ N) ∧ Hid (fo ≠ .slice none 0 0 ∧ OwnR wr w.heap.size fo es') ∧ Hid (rws es' = (rws es).take k) ∧ Hid (Below w.heap.size w wr)) (fun _ fi _ => ((N : Int) - intOf fi).toNat)
  case atStart => exact ⟨0, [], rfl, Nat.zero_le _, ⟨by simp, HO1.out⟩, rfl, HB1.out⟩
  case round =>
    obtain ⟨k, es', rfl, hk, hO, hE, hB⟩ := hrel
    by_cases hkN : k < N
    · have hki : (k : Int) < (N : Int) := by omega
      have hk0 : (0 : Int) ≤ (k : Int) := by omega
      obtain ⟨e, he⟩ : ∃ e, es[k]? = some e := ⟨_, List.getElem?_eq_getElem (by rw [HN.out]; exact hkN)⟩
      obtain ⟨g, o, rfl, _, _, d0, d1, d2⟩ := (RL.below HR.out hB.out).get he
      have HSV : Hid (SV w X e.1 e.2.1) := HR.out.vals e (List.mem_of_getElem? he)
      have HLen : Hid (e.2.1.length ≤ 1000) := HV.out e (List.mem_of_getElem? he)
      have HTk : Hid ((rws es).take (k + 1) = (rws es).take k ++ [e.2]) := by
        show _ = _
        rw [List.take_add_one, rws, List.getElem?_map, he]
        rfl
      obtain ⟨sv, vs, f, t⟩ := e
      simp only at d0 d1 d2 HSV HLen
      obtain ⟨pa, ca, rfl⟩ := SV.form HSV.out
      have HLo : Hid (∀ b, Value.ownBlock u3 = some b → b < wr.heap.size) := fun b hb => (hO.out.2.row.lt b hb).2
      have hlen : es'.length ≤ 100000 := by
        have := congrArg List.length hE.out
        simp [rws] at this
        omega
      have hA := al wr (.cells #[.slice pa vs.length ca, .int .i64 f, .int .i64 t] 30)
      have b5 := blk_new wr [.slice pa vs.length ca, .int .i64 f, .int .i64 t] 30
      change Blk (wr.alloc (.cells #[.slice pa vs.length ca, .int .i64 f, .int .i64 t] 30)) _ _ _ at b5
      have HSl : Hid (wr.heap.size ≤ (wr.alloc (.cells #[.slice pa vs.length ca, .int .i64 f, .int .i64 t] 30)).heap.size) := hA.size
      clear he
      go_wp2_with fail
      generalize wr.alloc (.cells #[.slice pa vs.length ca, .int .i64 f, .int .i64 t] 30) = W5 at *
      have K0 : Below W5.heap.size W5 W5.drew := (Below.refl _ _).drew
      have HS : Hid (∀ W', Below W5.heap.size W5 W' → W'.cell? ⟨wr.heap.size, 0, none⟩ = some (.slice pa vs.length ca) ∧ W'.cell? ⟨wr.heap.size, 1, none⟩ = some (.int .i64 f) ∧ W'.cell? ⟨wr.heap.size, 2, none⟩ = some (.int .i64 t)) := fun W' k => ⟨(b5.below k).cell 0, (b5.below k).cell 1, (b5.below k).cell 2⟩
      have hS0 := HS.out _ K0
      have k20 := copied20 (w := W5.drew) (SV.below HSV.out (bmore (bmore hB.out hA) K0)) HLen.out
      have HApp : Hid (∀ (g6 : Nat) (w6 : World), Hid (W5.heap.size ≤ g6) → Hid (Blk w6 g6 (cellsV vs) 24) → Hid (Below W5.heap.size W5 w6) → ∃ v7 w7, (Builtin.append_ #[31, 31] 31 #[u3, .slice (some ⟨w6.heap.size, 0, none⟩) 1 1]).run Try.prog (w6.alloc (.cells #[.slice (some ⟨g6, 0, none⟩) vs.length vs.length, .int .i64 f, .int .i64 t] 30)) = .ok v7 w7 ∧ Hid (∃ e : El, e.2 = (vs, f, t) ∧ v7 ≠ .slice none 0 0 ∧ OwnR w7 w.heap.size v7 (es' ++ [e])) ∧ Hid (Below w.heap.size w w7) ∧ Hid (w7.cell? ⟨wr.heap.size, 0, none⟩ = some (.slice pa vs.length ca) ∧ w7.cell? ⟨wr.heap.size, 1, none⟩ = some (.int .i64 f) ∧ w7.cell? ⟨wr.heap.size, 2, none⟩ = some (.int .i64 t))) := fun g6 w6 hg6 hb6 B6 => by
        have hal := al w6 (.cells #[.slice (some ⟨g6, 0, none⟩) vs.length vs.length, .int .i64 f, .int .i64 t] 30)
        have K6 := bmore hA (bmore B6.out hal)
        have nb := blk_new w6 [.slice (some ⟨g6, 0, none⟩) vs.length vs.length, .int .i64 f, .int .i64 t] 30
        have HO6 := hO.out.2.below K6
        have HV6 : SV (w6.alloc (.cells #[.slice (some ⟨g6, 0, none⟩) vs.length vs.length, .int .i64 f, .int .i64 t] 30)) (fun b => u3.ownBlock = some b) (.slice (some ⟨g6, 0, none⟩) vs.length vs.length) vs := SV.blk (hb6.out.below hal) (fun q => by have h1 := HLo.out _ q; have h2 := HSl.out; have h3 := hg6.out; omega)
        have hbase := (bmore hB.out K6).size
        obtain ⟨v7, w7, hr7, A7⟩ := OwnR.app HO6 hlen hbase 31 (gb := w6.heap.size) (c := 1) (e := (.slice (some ⟨g6, 0, none⟩) vs.length vs.length, vs, f, t)) HV6 (nb.cell 0) (nb.cell 1) (nb.cell 2)
        have bb := (b5.below (bmore B6.out hal)).keep (keep_of_grown A7.grown) (fun q => by have := HLo.out _ q; omega)
        exact ⟨v7, w7, hr7, ⟨_, rfl, A7.nn, A7.own⟩, (bmore hB.out K6).trans (A7.below HO6 hbase), bb.cell 0, bb.cell 1, bb.cell 2⟩
      clear d0 d1 d2 b5 hA
      go_region_held3 (fun W' => W'.cell? ⟨wr.heap.size, 0, none⟩ = some (.slice pa vs.length ca) ∧ W'.cell? ⟨wr.heap.size, 1, none⟩ = some (.int .i64 f) ∧ W'.cell? ⟨wr.heap.size, 2, none⟩ = some (.int .i64 t)) (first | exact hS0 | exact HS.out _ K1 | exact HS.out _ (bmore K1 (al _ _)) | exact hS7.out) (first
        | (go_at_call 14; (with_reducible refine k20.mono ?_); rintro e w6 ⟨g6, rfl, hg6, hb6, B6⟩; have K1 := bmore K0 B6; have HK1 : Hid (Below W5.heap.size W5 w6) := K1; have Hg6 : Hid (W5.heap.size ≤ g6) := hg6; have Hb6 : Hid (Blk w6 g6 (cellsV vs) 24) := hb6; clear hb6 hg6 B6)
        | (refine step_append_ex (by rfl) (.tmp 15) (.tmp 22) 31 (by rfl) _ _ (by rfl) (by rfl) (HApp.out _ _ (by assumption) (by assumption) (by assumption)) ?_; rintro v7 w7 ⟨hE7, hB7, hS7⟩))
      go_wp2_with fail
      go_roundw
      case rel =>
        obtain ⟨e, he, ho⟩ := hE7.out
        exact ⟨k + 1, es' ++ [e], by simp, by show _ ≤ _; omega, ho, (show rws (es' ++ [e]) = (rws es).take (k + 1) by rw [HTk.out, ← hE.out]; simp only [rws, List.map_append, List.map_cons, List.map_nil, he]), hB7.out⟩
      case measure => simp only [intOf]; omega
    · have hki : ¬ (k : Int) < (N : Int) := by omega
      go_wp2
      go_ret
      exact ⟨_, rfl, es', hO, by rw [hE.out, List.take_of_length_le (by rw [rws, List.length_map, HN.out]; omega)]; rfl, hB.out⟩
end Go.Proofs.Ythalgnfffcimhaa
