/- Slice. -/
import Derived.Test.YthalgnfffcimhaaPi
namespace Go.Proofs.Ythalgnfffcimhaa
open Go.RowKit Go.Shelf
set_option maxRecDepth 100000
/-- Rows that were put together so far. -/
structure FI (w wr : World) (fo : Value) (os : List El) (L : List Rw) : Prop where
  own : OwnR wr w.heap.size fo os
  rows : rws os = L
  b : Below w.heap.size w wr
theorem FI.nil (w : World) : FI w w (.slice none 0 0) [] [] := ⟨OwnR.nil _ _, rfl, Below.refl _ _⟩
theorem FI.below {w wr wr' : World} {fo : Value} {os : List El} {L : List Rw} (h : FI w wr fo os L) (k : Below wr.heap.size wr wr') : FI w wr' fo os L := ⟨h.own.below k, h.rows, bmore h.b k⟩
theorem FI.len {w wr : World} {fo : Value} {os : List El} {L : List Rw} (h : FI w wr fo os L) : os.length = L.length := by
  have := congrArg List.length h.rows
  simpa [rws] using this
theorem ownR_ne {w : World} {B b : Nat} {v : Value} {es : List El} {l : List Value} {t : TypeId} (h : OwnR w B v es) (hb : Blk w b l t) (ht : t ≠ 30) : v.ownBlock ≠ some b := fun e => by
  obtain ⟨_, ⟨rfl, _⟩ | ⟨g, cap, cur, rfl, _, hg, _⟩⟩ := h.row
  · cases e
  · simp only [Value.ownBlock, Option.some.injEq] at e
    subst e
    have hb' : w.heap[g]? = some (.cells l.toArray t (0, 0)) := hb
    rw [hg] at hb'
    simp only [Option.some.injEq, Obj.cells.injEq] at hb'
    exact ht hb'.2.1.symm
theorem FI.app {w w6 : World} {fo sv : Value} {os : List El} {L : List Rw} {vs : List Vt} {f t : Int} (h : FI w w6 fo os L) (hn : L.length ≤ 100000) (hsv : SV w6 (fun b => w.heap.size ≤ b) sv vs) (g : Nat) (hg : w6.heap.size = g) :
    ∃ v7 w7, (Builtin.append_ #[31, 31] 31 #[fo, .slice (some ⟨g, 0, none⟩) 1 1]).run Try.prog (w6.alloc (.cells #[sv, .int .i64 f, .int .i64 t] 30)) = .ok v7 w7 ∧ Hid (∃ os', FI w w7 v7 os' (L ++ [(vs, f, t)])) ∧ Hid (∀ b l t, Blk w6 b l t → t ≠ 30 → Blk w7 b l t) := by
  subst hg
  have hal := al3 w6 sv f t
  have nb := blk_new w6 [sv, .int .i64 f, .int .i64 t] 30
  have hB := (bmore h.b hal).size
  obtain ⟨v7, w7, hr7, A7⟩ := OwnR.app (h.own.below hal) (by rw [h.len]; exact hn) hB 31 (gb := w6.heap.size) (c := 1) (e := (sv, vs, f, t)) ((SV.below hsv hal).mono (fun b _ q => ((h.own.below hal).row.lt b q).1)) (nb.cell 0) (nb.cell 1) (nb.cell 2)
  refine ⟨v7, w7, hr7, ⟨_, A7.own, ?_, (bmore h.b hal).trans (A7.below (h.own.below hal) hB)⟩, fun b l t hb ht => (hb.below hal).keep (keep_of_grown A7.grown) (ownR_ne (h.own.below hal) (hb.below hal) ht)⟩
  rw [← h.rows]
  simp [rws]
abbrev sliceR (a b : Int) (l : List Rw) : List Rw := inR a b l
theorem sliceR_take {l : List Rw} {k : Nat} {r : Rw} (a b : Int) (h : l[k]? = some r) : sliceR a b (l.take (k + 1)) = sliceR a b (l.take k) ++ (cutR a b r).toList := by
  unfold sliceR inR
  rw [List.take_add_one, h, List.filterMap_append]
  cases hc : cutR a b r <;> simp [hc]
theorem sliceR_len (a b : Int) (l : List Rw) : (sliceR a b l).length ≤ l.length := List.length_filterMap_le _ _
theorem sliceR_vals {a b : Int} {l : List Rw} {n : Nat} (h : ∀ r ∈ l, r.1.length ≤ n) : ∀ r ∈ sliceR a b l, r.1.length ≤ n := fun r hr => by
  obtain ⟨q, hq, hc⟩ := List.mem_filterMap.1 hr
  unfold cutR at hc
  split at hc
  · cases hc; exact h q hq
  · cases hc
theorem box39 (w : World) (a b : Int) : Below w.heap.size w (w.alloc (.cells #[.int .i64 a, .int .i64 b] 27)) := al _ _
set_option maxHeartbeats 1000000 in
theorem slice26 {w : World} {X : Nat → Prop} {v : Value} {es : List El} {a b : Int} (h : RL w X v es) (hl : es.length ≤ 1000) (hv : ∀ e ∈ es, e.2.1.length ≤ 1000) :
    Calls Try.prog 7 #[v, .agg #[.int .i64 a, .int .i64 b]] w (SPost w (sortR (sliceR a b (rws es)))) := by
  have hw1 := box39 w a b
  have b1 := blk_new w [.int .i64 a, .int .i64 b] 27
  change Blk (w.alloc (.cells #[.int .i64 a, .int .i64 b] 27)) _ _ _ at b1
  have HR : Hid (RL (w.alloc (.cells #[.int .i64 a, .int .i64 b] 27)) (fun x => (w.alloc (.cells #[.int .i64 a, .int .i64 b] 27)).heap.size ≤ x) v es) := RL.old ((h.mono (Y := fun _ => False) (fun _ _ h => h.elim)).below hw1)
  obtain ⟨pa, c, rfl⟩ := h.form
  obtain ⟨N, hN⟩ : ∃ N, es.length = N := ⟨_, rfl⟩
  have HN : Hid _ := hN
  have HV : Hid _ := hv
  have HA : Hid ((rws es).length = N) := by show _ = _; simpa [rws] using hN
  have HW1 : Hid _ := hw1
  rw [hN] at hl ⊢
  rw [hN] at HR
  clear h hN hv hw1
  go_enter Try.func7, Try.ntmps7
  go_wp2_with fail
  generalize w.alloc (.cells #[.int .i64 a, .int .i64 b] 27) = w1 at *
  go_loopw [5, 12] (fun fo fi wr => ∃ (k : Nat) (os : List El), fi = .int .i64 (k : Int) ∧ Hid (k ≤ N) ∧ Hid (FI w1 wr fo os (sliceR a b ((rws es).take k)))) (fun _ fi _ => ((N : Int) - intOf fi).toNat)
  case atStart => exact ⟨0, [], rfl, Nat.zero_le _, FI.nil _⟩
  case round =>
    obtain ⟨k, os, rfl, hk, hI⟩ := hrel
    by_cases hkN : k < N
    · have hki : (k : Int) < (N : Int) := by omega
      have hk0 : (0 : Int) ≤ (k : Int) := by omega
      obtain ⟨e, he⟩ : ∃ e, es[k]? = some e := ⟨_, List.getElem?_eq_getElem (by rw [HN.out]; exact hkN)⟩
      obtain ⟨g, o, rfl, _, _, d0, d1, d2⟩ := (RL.below HR.out hI.out.b).get he
      have HSV : Hid (SV w1 (fun x => w1.heap.size ≤ x) e.1 e.2.1) := HR.out.vals e (List.mem_of_getElem? he)
      have HTk : Hid (sliceR a b ((rws es).take (k + 1)) = sliceR a b ((rws es).take k) ++ (cutR a b e.2).toList) := sliceR_take a b (by rw [rws, List.getElem?_map, he]; rfl)
      have HLn : Hid ((sliceR a b ((rws es).take k)).length ≤ 100000) := by
        have h1 := sliceR_len a b ((rws es).take k)
        rw [List.length_take] at h1
        show _ ≤ _
        omega
      obtain ⟨sv, vs, f, t⟩ := e
      simp only at d0 d1 d2 HSV HTk
      obtain ⟨pb, cb, rfl⟩ := SV.form HSV.out
      have b5 := blk_new wr [.slice pb vs.length cb, .int .i64 f, .int .i64 t] 30
      change Blk (wr.alloc (.cells #[.slice pb vs.length cb, .int .i64 f, .int .i64 t] 30)) _ _ _ at b5
      have hA := al3 wr (.slice pb vs.length cb) f t
      have HI5 : Hid _ := FI.below hI.out hA
      have HB1 : Hid (∀ W, Below w1.heap.size w1 W → W.cell? ⟨w.heap.size, 0, none⟩ = some (.int .i64 a) ∧ W.cell? ⟨w.heap.size, 1, none⟩ = some (.int .i64 b)) := fun W k => ⟨(b1.below k).cell 0, (b1.below k).cell 1⟩
      obtain ⟨x0, x1⟩ := HB1.out _ HI5.out.b
      have k65 := Sp.both9 f t a b (wr.alloc (.cells #[.slice pb vs.length cb, .int .i64 f, .int .i64 t] 30))
      have HC5 : Hid (∀ W, Below (wr.alloc (.cells #[.slice pb vs.length cb, .int .i64 f, .int .i64 t] 30)).heap.size (wr.alloc (.cells #[.slice pb vs.length cb, .int .i64 f, .int .i64 t] 30)) W → W.cell? ⟨wr.heap.size, 0, none⟩ = some (.slice pb vs.length cb)) := fun W k => (b5.below k).cell 0
      have HS5 : Hid (SV (wr.alloc (.cells #[.slice pb vs.length cb, .int .i64 f, .int .i64 t] 30)) (fun x => w1.heap.size ≤ x) (.slice pb vs.length cb) vs) := SV.below HSV.out HI5.out.b
      generalize hF : Sp.bothF f t a b = F at *
      generalize hT : Sp.bothT f t a b = T at *
      clear he b5 HSV
      cases hbB : Sp.bothB f t a b
      · rw [hbB] at k65
        have HTk' : Hid (sliceR a b ((rws es).take (k + 1)) = sliceR a b ((rws es).take k)) := by
          show _ = _
          rw [HTk.out]
          simp [cutR, hitB, hbB]
        clear HTk hbB hF hT
        go_wp2_with (go_at_call 18; (with_reducible refine k65.mono ?_); rintro e w6 ⟨rfl, B6⟩; have HB6 : Hid _ := B6; clear B6)
        go_roundw
        case rel => exact ⟨k + 1, os, by simp, by show _ ≤ _; omega, by show FI _ _ _ _ _; rw [HTk'.out]; exact FI.below HI5.out (bmore HB6.out (al _ _))⟩
        case measure => simp only [intOf]; omega
      · rw [hbB] at k65
        have HTk' : Hid (sliceR a b ((rws es).take (k + 1)) = sliceR a b ((rws es).take k) ++ [(vs, F, T)]) := by
          show _ = _
          rw [HTk.out]
          simp [cutR, hitB, hbB, hF, hT]
        clear HTk hbB hF hT
        go_wp2_with (first
          | (go_at_call 18; (with_reducible refine k65.mono ?_); rintro e w6 ⟨rfl, B6⟩; have K7 := bmore B6 (al w6 (.cells #[.int .i64 F, .int .i64 T] 27)); have y0 := HC5.out _ K7; have HApp := FI.app (f := F) (t := T) (FI.below HI5.out K7) HLn.out (SV.below HS5.out K7) (w6.heap.size + 1) (by simp); clear K7 B6)
          | (at_builtin; refine wpList_append_ex (by rfl) (.tmp 24) (.tmp 29) 31 (by rfl) _ _ (by rfl) (by rfl) HApp ?_; rintro v7 w7 ⟨hI7, _⟩))
        go_roundw
        case rel =>
          obtain ⟨os', hI8⟩ := hI7.out
          exact ⟨k + 1, os', by simp, by show _ ≤ _; omega, by show FI _ _ _ _ _; rw [HTk'.out]; exact hI8⟩
        case measure => simp only [intOf]; omega
    · have hki : ¬ (k : Int) < (N : Int) := by omega
      have HE : Hid (rws os = sliceR a b (rws es)) := by show _ = _; rw [hI.out.rows, List.take_of_length_le (by rw [HA.out]; omega)]
      have k10 := sorted17 (OwnR.rl hI.out.own) (by have := hI.out.len; have h1 := sliceR_len a b ((rws es).take k); rw [List.length_take, HA.out] at h1; omega) (rws_vals HE.out (sliceR_vals (fun r hr => by obtain ⟨e, he, rfl⟩ := List.mem_map.1 hr; exact HV.out e he)))
      rw [HE.out] at k10
      go_wp2_with (go_at_call 11; (with_reducible refine k10.mono ?_); rintro e w9 ⟨v9, x9, rfl, hn9, o9, e9, B9⟩; have HO9 : Hid _ := And.intro hn9 (And.intro o9 (And.intro e9 B9)); clear hn9 o9 e9 B9)
      go_ret
      exact ⟨v9, x9, rfl, HO9.out.1, HO9.out.2.1.base (bmore HW1.out hI.out.b).size, HO9.out.2.2.1, bmore (bmore HW1.out hI.out.b) HO9.out.2.2.2⟩
end Go.Proofs.Ythalgnfffcimhaa
