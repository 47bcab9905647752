/- The reference's marks: all points, those of a list true. -/
import Derived.Test.YtgkkknjkgpdcjaaApart
import Derived.Deep.OwnRows
namespace Go.Proofs.Ytgkkknjkgpdcjaa
open Go.RowKit

theorem Try.underlying47 : Try.prog.underlying 47 = some (.slice 4) := by kernel_rfl
theorem Try.info4 : (Try.prog.info? 4).map (fun i => (i.zero, i.size, i.bytes)) = some (some (.bool false), 1, 1) := by kernel_rfl

/-- a row of 2000 marks, by points -/
def RowB (W : World) (g : Nat) (f : Int → Bool) : Prop := W.rowIs g 4 2000 fun i => .bool (f ((i : Int) - 1000))
theorem RowB.congr {W : World} {g : Nat} {f h : Int → Bool} (hr : RowB W g f) (e : ∀ p, -1000 ≤ p → p < 1000 → f p = h p) : RowB W g h :=
  World.rowIs.congr hr fun i hi => by rw [e _ (by omega) (by omega)]
theorem RowB.cell {W : World} {g : Nat} {f : Int → Bool} (hr : RowB W g f) {m : Nat} (hm : m < 2000) : W.cell? ⟨g, m, none⟩ = some (.bool (f ((m : Int) - 1000))) := World.rowIs.cell hr hm
theorem RowB.set {W : World} {g : Nat} {f : Int → Bool} (hr : RowB W g f) (m : Nat) (b : Bool) : RowB (W.setCell ⟨g, m, none⟩ (.bool b)) g (fun p => if p = (m : Int) - 1000 then b else f p) :=
  World.rowIs.congr (World.rowIs.set hr m _) fun i hi => by
    by_cases h : i = m
    · subst h; simp
    · rw [if_neg h]; simp only; rw [if_neg (by omega)]
theorem RowB.below {W W' : World} {g : Nat} {f : Int → Bool} (hr : RowB W g f) {B : Nat} (hb : Below B W W') (hB : g < B) : RowB W' g f :=
  World.rowIs.of_block hr (hb.block _ hB)
theorem RowB.alloc {W : World} {g : Nat} {f : Int → Bool} (hr : RowB W g f) (o : Obj) : RowB (W.alloc o) g f := World.rowIs.alloc hr o

theorem ptB_snoc (xs : List (Int × Int)) (y : Int × Int) (p : Int) : ptB (xs ++ [y]) p = (ptB xs p || (decide (y.1 ≤ p) && decide (p < y.2))) := by
  simp [ptB]

set_option maxHeartbeats 1000000 in
theorem marks39 (v : Value) (xs : List (Int × Int)) (w : World) (hl : xs.length ≤ 100000) (h : SRow w v xs) :
    Calls Try.prog 39 #[v] w fun e w' => ∃ g, e = .returned (.slice (some ⟨g, 0, none⟩) 2000 2000) ∧ w.heap.size ≤ g ∧ RowB w' g (ptB (rights xs)) ∧ Below w.heap.size w w' := by
  obtain ⟨p, cap, rfl, hf⟩ := h.form
  obtain ⟨n, hn⟩ : ∃ n, xs.length = n := ⟨_, rfl⟩
  have HN := hidA hn
  have HF := hidA hf
  rw [hn] at hl ⊢
  clear h hn hf
  have hmk : ∀ w : World, (Instr.makeSlice 47 (.int .i64 2000) (.int .i64 2000)).run Try.prog w = .ok (.slice (some ⟨w.heap.size, 0, none⟩) 2000 2000) (w.alloc (.cells (madeCells #[.bool false] 2000) 4)) := run_make_row' (P := Try.prog) 47 4 (.bool false) 1 Try.underlying47 Try.info4 rfl .i64 .i64 2000 (by omega) (by omega)
  go_enter Try.func39, Try.ntmps39
  go_wp2
  have R0 : RowB (w.alloc (.cells (madeCells #[.bool false] 2000) 4)) w.heap.size (ptB (rights (xs.take 0))) := World.rowIs_made _ _ _ _
  have hB0 : Below w.heap.size w (w.alloc (.cells (madeCells #[.bool false] 2000) 4)) := below1 _ _
  generalize w.alloc (.cells (madeCells #[.bool false] 2000) 4) = w1 at *
  go_loopw [4] (fun i wr => ∃ k : Nat, k ≤ n ∧ i = .int .i64 k ∧ RowB wr w.heap.size (ptB (rights (xs.take k))) ∧ Below w.heap.size w wr) (fun i _ => n - (intOf i).toNat)
  case atStart => exact ⟨0, Nat.zero_le _, rfl, R0, hB0⟩
  case round =>
    clear R0 hB0
    obtain ⟨k, hk, rfl, hrow, hnx⟩ := hrel
    have hsz := hnx.size
    by_cases hlt : k < n
    · have hkx : k < xs.length := by rw [HN.out]; exact hlt
      obtain ⟨bb, off, hpe, hbl, d1, d2⟩ := HF.out k hkx
      subst hpe
      have HS := hidA (rights_snoc xs k hkx)
      have c1 := (bc hnx _ _ hbl).trans d1
      have c2 := (bc hnx _ _ hbl).trans d2
      have e1 := fun o => (bc (below1 wr o) bb (off + k * 2) (by omega)).trans c1
      have e2 := fun o => (bc (below1 wr o) bb (off + k * 2 + 1) (by omega)).trans c2
      obtain ⟨y1, hy1⟩ : ∃ y, xs[k].1 = y := ⟨_, rfl⟩
      obtain ⟨y2, hy2⟩ : ∃ y, xs[k].2 = y := ⟨_, rfl⟩
      have hy : xs[k] = (y1, y2) := Prod.ext hy1 hy2
      rw [hy] at HS
      rw [hy1] at c1 e1
      rw [hy2] at c2 e2 d2
      clear d1 hy hy1 hy2 HF HN
      cases hr : rightB y1 y2
      · have HR : Hid (RowB (wr.alloc (.cells #[.int .i64 y1, .int .i64 y2] 23)) w.heap.size (ptB (rights (xs.take (k + 1))))) := by
          unfold Hid
          rw [HS.out, if_neg (by simp [hr])]
          exact hrow.alloc _
        clear HS hrow
        go_wp2_with (go_at_call 13; refine (right13 _ _ _).mono ?_; rintro e w' ⟨rfl, rfl⟩; rw [hr])
        go_roundw
        case rel => exact ⟨k + 1, by omega, by go_num, HR.out, hnx.alloc hsz _⟩
        case measure => simp [intOf]; omega
      · obtain ⟨r1, r2, r3⟩ := (rightB_iff _ _).1 hr
        have hrow2 := hrow.alloc (.cells #[.int .i64 y1, .int .i64 y2] 23)
        have hnx2 := hnx.alloc hsz (.cells #[.int .i64 y1, .int .i64 y2] 23)
        rw [hr, if_pos rfl] at HS
        have HNX : Hid (∀ x, -1000 ≤ x → x < 1000 → (ptB (rights (xs.take k)) x || (decide (y1 ≤ x) && decide (x < y2))) = ptB (rights (xs.take (k + 1))) x) := fun x _ _ => by
          rw [HS.out, ptB_snoc]
        obtain ⟨f, hff⟩ : ∃ f, ptB (rights (xs.take k)) = f := ⟨_, rfl⟩
        rw [hff] at hrow2 HNX
        have e1' := e1 (.cells #[.int .i64 y1, .int .i64 y2] 23)
        clear HS hrow hff e1 e2
        go_wp2_with (go_at_call 13; refine (right13 _ _ _).mono ?_; rintro e w' ⟨rfl, rfl⟩; rw [hr])
        generalize wr.alloc (.cells #[.int .i64 y1, .int .i64 y2] 23) = W at *
        go_loopw [5] (fun pv wi => ∃ m : Nat, y1 + 1000 ≤ m ∧ (m : Int) ≤ y2 + 1000 ∧ pv = .int .i64 ((m : Int) - 1000) ∧ RowB wi w.heap.size (fun x => f x || (decide (y1 ≤ x) && decide (x < (m : Int) - 1000))) ∧ Below w.heap.size w wi) (fun pv _ => (y2 - intOf pv).toNat)
        case atStart =>
          refine ⟨(y1 + 1000).toNat, by omega, by omega, by congr 1; omega, hrow2.congr (fun x _ _ => ?_), hnx2⟩
          have : ¬ (y1 ≤ x ∧ x < (((y1 + 1000).toNat : Nat) : Int) - 1000) := by omega
          rw [← Bool.decide_and, decide_eq_false this, Bool.or_false]
        case round =>
          clear hrow2 hnx2 hnx hsz
          obtain ⟨m, hm1, hm2, rfl, hrow, hnx⟩ := hrel
          have hsz := hnx.size
          have c2 := (bc hnx _ _ hbl).trans d2
          by_cases hmy : (m : Int) - 1000 < y2
          · have hm3 : m < 2000 := by omega
            have hcc := hrow.cell hm3
            have hfz := World.rowIs.frozen hrow m
            have hi1 : (m : Int) < 2000 := by omega
            have hi2 : (0 : Int) ≤ (m : Int) := by omega
            have hwr : IntKind.i64.wrap (m : Int) = m := by simp [IntKind.wrap, IntKind.bits, IntKind.signed]; omega
            generalize (f ((m : Int) - 1000) || (decide (y1 ≤ (m : Int) - 1000) && decide ((m : Int) - 1000 < (m : Int) - 1000))) = old at hcc
            have HR : Hid (RowB (wr.setCell ⟨w.heap.size, m, none⟩ (.bool true)) w.heap.size (fun x => f x || (decide (y1 ≤ x) && decide (x < ((m + 1 : Nat) : Int) - 1000)))) := (hrow.set m true).congr fun x _ _ => by
              by_cases h1 : x = (m : Int) - 1000
              · subst h1; simp; omega
              · rw [if_neg h1]
                congr 2
                simp only [decide_eq_decide]; omega
            have HB : Hid (Below w.heap.size w (wr.setCell ⟨w.heap.size, m, none⟩ (.bool true))) := hnx.setCell (Nat.le_refl _) _
            clear hrow hnx
            go_wp2
            go_roundw
            case rel => exact ⟨m + 1, by omega, by omega, by go_num, HR.out, HB.out⟩
            case measure => simp [intOf]; omega
          · have hme : (m : Int) - 1000 = y2 := by omega
            rw [hme] at hrow ⊢
            have HR : Hid (RowB wr w.heap.size (ptB (rights (xs.take (k + 1))))) := hrow.congr HNX.out
            clear hrow HNX
            go_wp2
            go_roundw
            case rel => exact ⟨k + 1, by omega, by go_num, HR.out, hnx⟩
            case measure => simp [intOf]; omega
    · have hkn : xs.take k = xs := List.take_of_length_le (by have := HN.out; omega)
      rw [hkn] at hrow
      clear HF HN hkn
      go_wp2
      go_ret
      exact ⟨_, rfl, Nat.le_refl _, hrow, hnx⟩

end Go.Proofs.Ytgkkknjkgpdcjaa
