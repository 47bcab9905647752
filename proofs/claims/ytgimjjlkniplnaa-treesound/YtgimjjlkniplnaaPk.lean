/- Where a key is in a leaf. -/
import Derived.Shelf.Small.Strs
import Derived.Test.YtgimjjlkniplnaaPb
namespace Go.Proofs
open Go.Shelf
def Try.lays106_ren : Go.Shelf.Ren := ⟨fun | 106 => 59 | 213 => 68 | 265 => 72 | n => n, fun | 9 => 9 | 3 => 3 | n => n, fun | n => n⟩
theorem Try.lays106 : Go.Proofs.Lays.n106 Try.prog Try.lays106_ren := {
  mixed := by kernel_rfl
  f106 := Try.func59.trans (congrArg some (by kernel_rfl))
  f213 := Try.func68.trans (congrArg some (by kernel_rfl))
  f265 := Try.func72.trans (congrArg some (by kernel_rfl))
  t3 := Try.underlying3
  a3 := Try.isAgg3
  z3 := Try.sizeOf3
  v3 := Try.zeroValue3
  t9 := Try.underlying9
  a9 := Try.isAgg9
  z9 := Try.sizeOf9
  v9 := Try.zeroValue9 }
open Go.RowKit in
theorem Try.strings_Compare (a b : ByteArray) (w : World) :
    Calls Try.prog 59 #[.string a, .string b] w fun e w' => e = .returned (.int .i64 (Lib.compareBytes a.data.toList b.data.toList)) ∧ w' = w := Any.strings_Compare Try.lays106 a b w
end Go.Proofs
namespace Go.Proofs.Ytgimjjlkniplnaa
open Go.RowKit Go.Shelf
set_option maxRecDepth 100000
theorem cmp58 (p : Pr) (k : ByteArray) (w : World) : Calls Try.prog 58 #[.agg #[.string p.1, .string p.2], .string k] w fun e w' => e = .returned (.int .i64 (cmpS p.1 k)) ∧ Below w.heap.size w w' := by
  have kc := Try.strings_Compare p.1 k
  go_enter Try.func58, Try.ntmps58
  go_wp2_with (go_at_call 59; (with_reducible refine (kc _).mono ?_); rintro e w1 ⟨rfl, rfl⟩)
  go_ret
  exact ⟨rfl, al _ _⟩
/-- The place at which a key is, or would be. -/
def At (kv : List Pr) (k : ByteArray) (i : Nat) : Prop := ∀ (j : Nat) (p : Pr), kv[j]? = some p → (lt p.1 k = true ↔ j < i)
def found (kv : List Pr) (k : ByteArray) (i : Nat) : Bool := match kv[i]? with | some p => decide (p.1 = k) | none => false
def BPost (w : World) (kv : List Pr) (k : ByteArray) (e : Ending) (w' : World) : Prop := ∃ i : Nat, i ≤ kv.length ∧ At kv k i ∧ e = .returned (.tuple #[.int .i64 (i : Int), .bool (found kv k i)]) ∧ Below w.heap.size w w'
theorem u64_in (x : Int) (h0 : 0 ≤ x) (h1 : x ≤ 100000) : IntKind.u64.wrap x = x := by
  simp only [IntKind.wrap]
  simp [IntKind.bits, IntKind.signed]
  omega
set_option maxHeartbeats 1000000 in
theorem search57 {w : World} {v : Value} {kv : List Pr} {k : ByteArray} (hv : LV EP w v kv) (hs : Srt kv) (hn : kv.length ≤ 1000) : Calls Try.prog 57 #[v, .string k, .func (.func 58) #[] #[]] w (BPost w kv k) := by
  obtain ⟨a, c, rfl⟩ := hv.form
  have HV : Hid (LV EP w (.slice a kv.length c) kv) := hv
  have HS : Hid (Srt kv) := hs
  generalize hN : kv.length = n at *
  have HN : Hid (kv.length = n) := hN
  clear hv hs hN
  go_enter Try.func57, Try.ntmps57
  go_wp2_with fail
  go_loopw [9, 10] (fun fi fj wr => ∃ (i j : Nat), fi = .int .i64 (i : Int) ∧ fj = .int .i64 (j : Int) ∧ Hid (i ≤ j) ∧ Hid (j ≤ n) ∧ Hid (∀ t p, kv[t]? = some p → t < i → lt p.1 k = true) ∧ Hid (∀ t p, kv[t]? = some p → j ≤ t → lt p.1 k = false) ∧ Hid (Below w.heap.size w wr)) (fun fi fj _ => (intOf fj - intOf fi).toNat)
  case atStart => exact ⟨0, n, rfl, rfl, Nat.zero_le _, Nat.le_refl _, (fun t p _ h => by omega), (fun t p h1 h2 => by have := (List.getElem?_eq_some_iff.1 h1).1; rw [HN.out] at this; omega), Below.refl _ _⟩
  case round =>
    obtain ⟨i, j, rfl, rfl, hij, hjn, hlo, hge, hB⟩ := hrel
    have hij' := hij.out
    have hjn' := hjn.out
    by_cases hlt : i < j
    · have hli : (i : Int) < (j : Int) := by omega
      obtain ⟨m, hm⟩ : ∃ m, m = (i + j) / 2 := ⟨_, rfl⟩
      have hwa : wrap64 ((i : Int) + (j : Int)) = (i : Int) + (j : Int) := IntWalk.wrap64_in _ (by omega)
      have hwb : IntKind.u64.wrap ((i : Int) + (j : Int)) = (i : Int) + (j : Int) := u64_in _ (by omega) (by omega)
      have hwc : ((i : Int) + (j : Int)) / 2 = (m : Int) := by omega
      have hwd : wrap64 (m : Int) = (m : Int) := IntWalk.wrap64_in _ (by omega)
      have hwe : wrap64 ((m : Int) + 1) = (m : Int) + 1 := IntWalk.wrap64_in _ (by omega)
      have hm0 : (0 : Int) ≤ (m : Int) := by omega
      have hm1 : (m : Int) < (n : Int) := by omega
      have him : Hid (i ≤ m) := by show _ ≤ _; omega
      have hmj : Hid (m < j) := by show _ < _; omega
      obtain ⟨p, hp⟩ : ∃ p, kv[m]? = some p := ⟨_, List.getElem?_eq_getElem (by rw [HN.out]; omega)⟩
      obtain ⟨g, o, rfl, d0, d1⟩ := EP.cell (HV.out.below hB.out) hp
      have k58 := cmp58 p k wr
      have HL : Hid (cmpS p.1 k < 0 ↔ lt p.1 k = true) := by
        show _ ↔ _
        have := ordS.three p.1 k
        simp only [lt, decide_eq_true_eq]
        omega
      have HP : Hid (kv[m]? = some p) := hp
      generalize cmpS p.1 k = z at *
      clear hp hm
      by_cases hz : z < 0
      · have hz2 := HL.out.1 hz
        have HZ : Hid _ := hz2
        clear hz2
        go_wp2_with (go_at_call 58; (with_reducible refine k58.mono ?_); rintro e w1 ⟨rfl, hB1⟩)
        go_roundw
        case rel =>
          refine ⟨m + 1, j, by simp, rfl, hmj.out, hjn.out, ?_, hge.out, bmore hB.out hB1⟩
          intro t q ht hlt'
          by_cases htm : t = m
          · subst htm; rw [HP.out] at ht; cases ht; exact HZ.out
          · exact lt_trans (HS.out.get ht HP.out (by omega)) HZ.out
        case measure => simp only [intOf]; have := hmj.out; have := him.out; omega
      · have hz2 : lt p.1 k = false := by cases hq : lt p.1 k; rfl; exact absurd (HL.out.2 hq) hz
        have HZ : Hid _ := hz2
        clear hz2
        go_wp2_with (go_at_call 58; (with_reducible refine k58.mono ?_); rintro e w1 ⟨rfl, hB1⟩)
        go_roundw
        case rel =>
          refine ⟨i, m, rfl, rfl, him.out, by show _ ≤ _; have := hmj.out; omega, hlo.out, ?_, bmore hB.out hB1⟩
          intro t q ht hlt'
          by_cases htm : t = m
          · subst htm; rw [HP.out] at ht; cases ht; exact HZ.out
          · cases hq : lt q.1 k
            · rfl
            · have := lt_trans (HS.out.get HP.out ht (by omega)) hq
              rw [HZ.out] at this; cases this
        case measure => simp only [intOf]; have := hmj.out; have := him.out; omega
    · have hli : ¬ (i : Int) < (j : Int) := by omega
      obtain rfl : i = j := by omega
      have HAt : Hid (At kv k i) := fun t p ht => by
        refine ⟨fun hl => ?_, fun hti => hlo.out t p ht hti⟩
        by_cases hti : t < i
        · exact hti
        · rw [hge.out t p ht (by omega)] at hl
          cases hl
      by_cases hin : i < n
      · have h1 : (i : Int) < (n : Int) := by omega
        have h0 : (0 : Int) ≤ (i : Int) := by omega
        obtain ⟨p, hp⟩ : ∃ p, kv[i]? = some p := ⟨_, List.getElem?_eq_getElem (by rw [HN.out]; omega)⟩
        obtain ⟨g, o, rfl, d0, d1⟩ := EP.cell (HV.out.below hB.out) hp
        have k58 := cmp58 p k wr
        have HF : Hid (found kv k i = (cmpS p.1 k == 0)) := by
          show _ = _
          unfold found
          rw [hp, Bool.eq_iff_iff]
          simp [ordS.eq]
        generalize cmpS p.1 k = z at *
        clear hp
        go_wp2_with (go_at_call 58; (with_reducible refine k58.mono ?_); rintro e w1 ⟨rfl, hB1⟩)
        go_ret2
        exact ⟨i, by rw [HN.out]; omega, HAt.out, by rw [HF.out]; first | rfl | simp, bmore hB.out hB1⟩
      · have h1 : ¬ (i : Int) < (n : Int) := by omega
        have HF : Hid (found kv k i = false) := by
          show _ = _
          unfold found
          rw [List.getElem?_eq_none (by rw [HN.out]; omega)]
        go_wp2
        go_ret2
        exact ⟨i, by rw [HN.out]; omega, HAt.out, by rw [HF.out]; rfl, hB.out⟩
theorem place48 {w : World} {v : Value} {kv : List Pr} {k : ByteArray} (hv : LV EP w v kv) (hs : Srt kv) (hn : kv.length ≤ 1000) : Calls Try.prog 48 #[v, .string k] w (BPost w kv k) := by
  have k57 := search57 (k := k) hv hs hn
  obtain ⟨a, c, rfl⟩ := hv.form
  generalize hN : kv.length = n at *
  clear hv hs
  have HN : Hid _ := hN
  clear hN
  go_enter Try.func48, Try.ntmps48
  go_wp2_with (go_at_call 57; (with_reducible refine k57.mono ?_); rintro e w1 ⟨i, h1, h2, rfl, hB⟩)
  go_ret2
  exact ⟨i, h1, h2, rfl, hB⟩
end Go.Proofs.Ytgimjjlkniplnaa
