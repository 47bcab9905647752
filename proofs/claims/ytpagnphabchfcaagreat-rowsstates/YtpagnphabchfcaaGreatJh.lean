/- The document's marks, of, Join. -/
import Derived.Test.YtpagnphabchfcaaGreatJg
import Derived.Deep.OwnRows
namespace Go.Proofs.YtpagnphabchfcaaGreat.Sp
open Go.RowKit Go.Shelf
set_option maxRecDepth 100000
theorem hidA {p : Prop} (h : p) : Hid p := h
def ptB (ys : List (Int × Int)) (p : Int) : Bool := ys.any fun y => decide (y.1 ≤ p) && decide (p < y.2)
theorem ptB_iff (ys : List (Int × Int)) (p : Int) : ptB ys p = true ↔ Pt ys p := by
  simp only [ptB, List.any_eq_true, Bool.and_eq_true, decide_eq_true_eq, Pt]


theorem Tryz.underlying73 : Tryz.prog.underlying 73 = some (.slice 4) := by kernel_rfl
theorem Tryz.info4 : (Tryz.prog.info? 4).map (fun i => (i.zero, i.size, i.bytes)) = some (some (.bool false), 1, 1) := by kernel_rfl

/-- a row of 2000 marks, by points -/
def RowB (W : World) (g : Nat) (f : Int → Bool) : Prop := W.rowIs g 4 2000 fun i => .bool (f ((i : Int) - 1000))
theorem RowB.congr {W : World} {g : Nat} {f h : Int → Bool} (hr : RowB W g f) (e : ∀ p, -1000 ≤ p → p < 1000 → f p = h p) : RowB W g h :=
  World.rowIs.congr hr fun i hi => by rw [e _ (by omega) (by omega)]
theorem RowB.cell {W : World} {g : Nat} {f : Int → Bool} (hr : RowB W g f) {m : Nat} (hm : m < 2000) : W.cell? ⟨g, m, none⟩ = some (.bool (f ((m : Int) - 1000))) := World.rowIs.cell hr hm
theorem RowB.set {W : World} {g : Nat} {f : Int → Bool} (hr : RowB W g f) (m : Nat) (b : Bool) : RowB (W.setCell ⟨g, m, none⟩ (.bool b)) g (fun p => if p = (m : Int) - 1000 then b else f p) :=
  World.rowIs.congr (World.rowIs.set hr m _) fun i hi => by
    by_cases h : i = m
    · subst h; simp
    · rw [if_neg h]; simp only; rw [if_neg (by omega)]
theorem RowB.below {W W' : World} {g : Nat} {f : Int → Bool} (hr : RowB W g f) {B : Nat} (hb : Below B W W') (hB : g < B) : RowB W' g f :=
  World.rowIs.of_block hr (hb.block _ hB)
theorem RowB.alloc {W : World} {g : Nat} {f : Int → Bool} (hr : RowB W g f) (o : Obj) : RowB (W.alloc o) g f := World.rowIs.alloc hr o

theorem ptB_snoc (xs : List (Int × Int)) (y : Int × Int) (p : Int) : ptB (xs ++ [y]) p = (ptB xs p || (decide (y.1 ≤ p) && decide (p < y.2))) := by
  simp [ptB]

set_option maxHeartbeats 1000000 in
theorem marks39 (v : Value) (xs : List (Int × Int)) (w : World) (hl : xs.length ≤ 100000) (h : SRow w v xs) :
    Calls Tryz.prog 91 #[v] w fun e w' => ∃ g, e = .returned (.slice (some ⟨g, 0, none⟩) 2000 2000) ∧ w.heap.size ≤ g ∧ RowB w' g (ptB (rights xs)) ∧ Below w.heap.size w w' := by
  obtain ⟨p, cap, rfl, hf⟩ := h.form
  obtain ⟨n, hn⟩ : ∃ n, xs.length = n := ⟨_, rfl⟩
  have HN := hidA hn
  have HF := hidA hf
  rw [hn] at hl ⊢
  clear h hn hf
  have hmk : ∀ w : World, (Instr.makeSlice 73 (.int .i64 2000) (.int .i64 2000)).run Tryz.prog w = .ok (.slice (some ⟨w.heap.size, 0, none⟩) 2000 2000) (w.alloc (.cells (madeCells #[.bool false] 2000) 4)) := run_make_row' (P := Tryz.prog) 73 4 (.bool false) 1 Tryz.underlying73 Tryz.info4 rfl .i64 .i64 2000 (by omega) (by omega)
  go_enter Tryz.func91, Tryz.ntmps91
  go_wp2
  have R0 : RowB (w.alloc (.cells (madeCells #[.bool false] 2000) 4)) w.heap.size (ptB (rights (xs.take 0))) := World.rowIs_made _ _ _ _
  have hB0 : Below w.heap.size w (w.alloc (.cells (madeCells #[.bool false] 2000) 4)) := below1 _ _
  generalize w.alloc (.cells (madeCells #[.bool false] 2000) 4) = w1 at *
  go_loopw [4] (fun i wr => ∃ k : Nat, k ≤ n ∧ i = .int .i64 k ∧ RowB wr w.heap.size (ptB (rights (xs.take k))) ∧ Below w.heap.size w wr) (fun i _ => n - (intOf i).toNat)
  case atStart => exact ⟨0, Nat.zero_le _, rfl, R0, hB0⟩
  case round =>
    clear R0 hB0
    obtain ⟨k, hk, rfl, hrow, hnx⟩ := hrel
    have hsz := hnx.size
    by_cases hlt : k < n
    · have hkx : k < xs.length := by rw [HN.out]; exact hlt
      obtain ⟨bb, off, hpe, hbl, d1, d2⟩ := HF.out k hkx
      subst hpe
      have HS := hidA (rights_snoc xs k hkx)
      have c1 := (bc hnx _ _ hbl).trans d1
      have c2 := (bc hnx _ _ hbl).trans d2
      have e1 := fun o => (bc (below1 wr o) bb (off + k * 2) (by omega)).trans c1
      have e2 := fun o => (bc (below1 wr o) bb (off + k * 2 + 1) (by omega)).trans c2
      obtain ⟨y1, hy1⟩ : ∃ y, xs[k].1 = y := ⟨_, rfl⟩
      obtain ⟨y2, hy2⟩ : ∃ y, xs[k].2 = y := ⟨_, rfl⟩
      have hy : xs[k] = (y1, y2) := Prod.ext hy1 hy2
      rw [hy] at HS
      rw [hy1] at c1 e1
      rw [hy2] at c2 e2 d2
      clear d1 hy hy1 hy2 HF HN
      cases hr : rightB y1 y2
      · have HR : Hid (RowB (wr.alloc (.cells #[.int .i64 y1, .int .i64 y2] 39)) w.heap.size (ptB (rights (xs.take (k + 1))))) := by
          unfold Hid
          rw [HS.out, if_neg (by simp [hr])]
          exact hrow.alloc _
        clear HS hrow
        go_wp2_with (go_at_call 55; refine (right13 _ _ _).mono ?_; rintro e w' ⟨rfl, rfl⟩; rw [hr])
        go_roundw
        case rel => exact ⟨k + 1, by omega, by go_num, HR.out, hnx.alloc hsz _⟩
        case measure => simp [intOf]; omega
      · obtain ⟨r1, r2, r3⟩ := (rightB_iff _ _).1 hr
        have hrow2 := hrow.alloc (.cells #[.int .i64 y1, .int .i64 y2] 39)
        have hnx2 := hnx.alloc hsz (.cells #[.int .i64 y1, .int .i64 y2] 39)
        rw [hr, if_pos rfl] at HS
        have HNX : Hid (∀ x, -1000 ≤ x → x < 1000 → (ptB (rights (xs.take k)) x || (decide (y1 ≤ x) && decide (x < y2))) = ptB (rights (xs.take (k + 1))) x) := fun x _ _ => by
          rw [HS.out, ptB_snoc]
        obtain ⟨f, hff⟩ : ∃ f, ptB (rights (xs.take k)) = f := ⟨_, rfl⟩
        rw [hff] at hrow2 HNX
        have e1' := e1 (.cells #[.int .i64 y1, .int .i64 y2] 39)
        clear HS hrow hff e1 e2
        go_wp2_with (go_at_call 55; refine (right13 _ _ _).mono ?_; rintro e w' ⟨rfl, rfl⟩; rw [hr])
        generalize wr.alloc (.cells #[.int .i64 y1, .int .i64 y2] 39) = W at *
        go_loopw [5] (fun pv wi => ∃ m : Nat, y1 + 1000 ≤ m ∧ (m : Int) ≤ y2 + 1000 ∧ pv = .int .i64 ((m : Int) - 1000) ∧ RowB wi w.heap.size (fun x => f x || (decide (y1 ≤ x) && decide (x < (m : Int) - 1000))) ∧ Below w.heap.size w wi) (fun pv _ => (y2 - intOf pv).toNat)
        case atStart =>
          refine ⟨(y1 + 1000).toNat, by omega, by omega, by congr 1; omega, hrow2.congr (fun x _ _ => ?_), hnx2⟩
          have : ¬ (y1 ≤ x ∧ x < (((y1 + 1000).toNat : Nat) : Int) - 1000) := by omega
          rw [← Bool.decide_and, decide_eq_false this, Bool.or_false]
        case round =>
          clear hrow2 hnx2 hnx hsz
          obtain ⟨m, hm1, hm2, rfl, hrow, hnx⟩ := hrel
          have hsz := hnx.size
          have c2 := (bc hnx _ _ hbl).trans d2
          by_cases hmy : (m : Int) - 1000 < y2
          · have hm3 : m < 2000 := by omega
            have hcc := hrow.cell hm3
            have hfz := World.rowIs.frozen hrow m
            have hi1 : (m : Int) < 2000 := by omega
            have hi2 : (0 : Int) ≤ (m : Int) := by omega
            have hwr : IntKind.i64.wrap (m : Int) = m := by simp [IntKind.wrap, IntKind.bits, IntKind.signed]; omega
            generalize (f ((m : Int) - 1000) || (decide (y1 ≤ (m : Int) - 1000) && decide ((m : Int) - 1000 < (m : Int) - 1000))) = old at hcc
            have HR : Hid (RowB (wr.setCell ⟨w.heap.size, m, none⟩ (.bool true)) w.heap.size (fun x => f x || (decide (y1 ≤ x) && decide (x < ((m + 1 : Nat) : Int) - 1000)))) := (hrow.set m true).congr fun x _ _ => by
              by_cases h1 : x = (m : Int) - 1000
              · subst h1; simp; omega
              · rw [if_neg h1]
                congr 2
                simp only [decide_eq_decide]; omega
            have HB : Hid (Below w.heap.size w (wr.setCell ⟨w.heap.size, m, none⟩ (.bool true))) := hnx.setCell (Nat.le_refl _) _
            clear hrow hnx
            go_wp2
            go_roundw
            case rel => exact ⟨m + 1, by omega, by omega, by go_num, HR.out, HB.out⟩
            case measure => simp [intOf]; omega
          · have hme : (m : Int) - 1000 = y2 := by omega
            rw [hme] at hrow ⊢
            have HR : Hid (RowB wr w.heap.size (ptB (rights (xs.take (k + 1))))) := hrow.congr HNX.out
            clear hrow HNX
            go_wp2
            go_roundw
            case rel => exact ⟨k + 1, by omega, by go_num, HR.out, hnx⟩
            case measure => simp [intOf]; omega
    · have hkn : xs.take k = xs := List.take_of_length_le (by have := HN.out; omega)
      rw [hkn] at hrow
      clear HF HN hkn
      go_wp2
      go_ret
      exact ⟨_, rfl, Nat.le_refl _, hrow, hnx⟩



/-- what has been made of the first m marks -/
structure Ofd (f : Int → Bool) (m : Nat) (l : List (Int × Int)) : Prop where
  canon : Canon l
  pts : ∀ p, Pt l p ↔ -1000 ≤ p ∧ p < (m : Int) - 1000 ∧ p < 1000 ∧ f p = true
  ends : ∀ y, y ∈ l → y.2 < (m : Int) - 1000
  len : l.length ≤ m

theorem Ofd.start (f : Int → Bool) : Ofd f 0 [] := ⟨⟨by simp, by simp⟩, fun p => by simp [pt_nil]; omega, by simp, by simp⟩
theorem Ofd.skip {f : Int → Bool} {m : Nat} {l : List (Int × Int)} (h : Ofd f m l) (hf : f ((m : Int) - 1000) = false) : Ofd f (m + 1) l := by
  refine ⟨h.canon, fun p => ?_, fun y hy => by have := h.ends y hy; push_cast; omega, by have := h.len; omega⟩
  rw [h.pts]
  constructor
  · rintro ⟨h1, h2, h3, h4⟩; exact ⟨h1, by push_cast; omega, h3, h4⟩
  · rintro ⟨h1, h2, h3, h4⟩
    refine ⟨h1, ?_, h3, h4⟩
    by_cases e : p = (m : Int) - 1000
    · rw [e, hf] at h4; simp at h4
    · push_cast at h2; omega
theorem Ofd.add {f : Int → Bool} {m k : Nat} {l : List (Int × Int)} (h : Ofd f m l) (hmk : m < k) (hk : k ≤ 2000)
    (hall : ∀ x, (m : Int) - 1000 ≤ x → x < (k : Int) - 1000 → f x = true) (hend : k < 2000 → f ((k : Int) - 1000) = false) : Ofd f (k + 1) (l ++ [((m : Int) - 1000, (k : Int) - 1000)]) := by
  refine ⟨⟨?_, ?_⟩, fun p => ?_, ?_, ?_⟩
  · intro x hx
    rcases List.mem_append.1 hx with hx | hx
    · exact h.canon.1 x hx
    · rw [List.mem_singleton.1 hx, rightB_iff]; simp only; omega
  · rw [List.pairwise_append]
    refine ⟨h.canon.2, by simp, fun x hx y hy => ?_⟩
    rw [List.mem_singleton.1 hy]
    exact h.ends x hx
  · rw [pt_append, h.pts, pt_cons]
    simp only [pt_nil, or_false]
    constructor
    · rintro (⟨h1, h2, h3, h4⟩ | ⟨h1, h2⟩)
      · exact ⟨h1, by push_cast; omega, h3, h4⟩
      · exact ⟨by omega, by push_cast; omega, by omega, hall p h1 h2⟩
    · rintro ⟨h1, h2, h3, h4⟩
      by_cases e : p < (m : Int) - 1000
      · exact .inl ⟨h1, e, h3, h4⟩
      · right
        refine ⟨by omega, ?_⟩
        by_cases e2 : p = (k : Int) - 1000
        · rw [e2, hend (by omega)] at h4; simp at h4
        · push_cast at h2; omega
  · intro y hy
    rcases List.mem_append.1 hy with hy | hy
    · have := h.ends y hy; push_cast; omega
    · rw [List.mem_singleton.1 hy]; push_cast; omega
  · have := h.len; simp; omega

set_option maxHeartbeats 1000000 in
theorem of38_n (g n : Nat) (f : Int → Bool) (w : World) (hr : RowB w g f) (hn : Hid (n = 2000)) (hn3 : n ≤ 3000) :
    Calls Tryz.prog 90 #[.slice (some ⟨g, 0, none⟩) n n] w fun e w' => ∃ v' ys, e = .returned v' ∧ Canon ys ∧ (∀ p, Pt ys p ↔ -1000 ≤ p ∧ p < 1000 ∧ f p = true) ∧ ys.length ≤ 2001 ∧ Own w' w.heap.size v' ys ∧ Below w.heap.size w w' := by
  obtain ⟨i0, hi, hz0, hz1, hz2⟩ := info_parts' Tryz.info39
  have hg : g < w.heap.size := World.rowIs.lt hr
  have HR := hidA hr
  clear hr
  go_enter Tryz.func90, Tryz.ntmps90
  go_wp2
  go_loopw [3, 4] (fun vg i wr => ∃ (m : Nat) (l : List (Int × Int)), m ≤ n + 1 ∧ i = .int .i64 m ∧ Own wr w.heap.size vg l ∧ Ofd f m l ∧ Below w.heap.size w wr) (fun _ i _ => n + 1 - (intOf i).toNat)
  case atStart => exact ⟨0, [], by omega, rfl, Own.nil _ _, Ofd.start _, Below.refl _ _⟩
  case round =>
    obtain ⟨m, l, hm, rfl, hown, hc0, hnx⟩ := hrel
    have HC := hidA hc0
    have hll := hc0.len
    clear hc0
    have hsz := hnx.size
    by_cases hlt : m < n
    · have c1 := (bc hnx _ _ hg).trans (HR.out.cell (m := m) (by have := hn.out; omega))
      cases hfm : f ((m : Int) - 1000)
      · rw [hfm] at c1
        have H1 := hidA (HC.out.skip hfm)
        clear HC
        go_wp2
        go_roundw
        case rel => exact ⟨m + 1, l, by omega, by go_num, hown, H1.out, hnx⟩
        case measure => simp [intOf]; omega
      · rw [hfm] at c1
        go_wp2_with fail
        go_loop [5] (fun kv => ∃ k : Nat, m ≤ k ∧ k ≤ n ∧ kv = .int .i64 k ∧ ∀ x, (m : Int) - 1000 ≤ x → x < (k : Int) - 1000 → f x = true) (fun kv => n - (intOf kv).toNat)
        case atStart => exact ⟨m, Nat.le_refl _, by omega, rfl, fun x _ _ => by omega⟩
        case round =>
          obtain ⟨k, hk1, hk2, rfl, hall0⟩ := hrel
          have HA := hidA hall0
          clear hall0
          by_cases hk3 : k < n
          · have c2 := (bc hnx _ _ hg).trans (HR.out.cell (m := k) (by have := hn.out; omega))
            cases hfk : f ((k : Int) - 1000)
            · rw [hfk] at c2
              have hmk : m < k := by
                rcases (show m = k ∨ m < k by omega) with e | e
                · rw [e, hfk] at hfm; simp at hfm
                · exact e
              have H1 := hidA (HC.out.add hmk (by have := hn.out; omega) HA.out (fun _ => hfk))
              clear HC HA hfm hfk
              go_wp2_with (at_builtin; refine wpList_append_own _ rfl _ _ 80 rfl w.heap.size 39 i0 (.agg #[.int .i64 0, .int .i64 0]) 2 16 Tryz.underlying80 hi hz0 hz1 hz2 rfl (by decide) _ _ _ rfl (World.ownsRow.alloc hown _) ⟨wr.heap.size, 0, none⟩ 1 1 [.int .i64 (-1000 + (m : Int)), .int .i64 (-1000 + (k : Int))] rfl rfl ?c1 ?c2 ?c3 ?c4 ?c5 ?_)
              case c2 => first | exact ⟨rfl, rfl⟩ | (intro u hu; simp at hu; rcases hu with rfl | rfl <;> rfl)
              case c3 => unfold maxLen; omega
              case c4 => omega
              case c5 => first | omega | (simp; omega)
              · intro v' w2 hown' hgrow _
                have R1 : Own w2 w.heap.size v' (l ++ [((m : Int) - 1000, (k : Int) - 1000)]) := by
                  rw [show ((m : Int) - 1000, (k : Int) - 1000) = (-1000 + (m : Int), -1000 + (k : Int)) by rw [Prod.mk.injEq]; omega]
                  unfold Own; rw [cells2_append]; simpa [cells2, enc2] using hown'
                have R2 : Below w.heap.size w w2 := (hnx.alloc hsz _).grown hgrow (by simp; omega) (fun j hj => (World.ownsRow.lt hown j hj).1)
                clear hown' hgrow hown
                go_wp2
                go_roundw
                case rel => exact ⟨k + 1, _, by omega, by go_num, R1, H1.out, R2⟩
                case measure => simp [intOf]; omega
            · rw [hfk] at c2
              have H1 : Hid (∀ x, (m : Int) - 1000 ≤ x → x < ((k + 1 : Nat) : Int) - 1000 → f x = true) := fun x h1 h2 => by
                by_cases e : x = (k : Int) - 1000
                · rw [e]; exact hfk
                · exact HA.out x h1 (by push_cast at h2; omega)
              clear HC HA hfm hfk
              go_wp2
              go_round
              case rel => exact ⟨k + 1, by omega, by omega, by go_num, H1.out⟩
              case measure => simp [intOf]; omega
          · have hmk : m < k := by omega
            have H1 := hidA (HC.out.add hmk (by have := hn.out; omega) HA.out (fun h => by have := hn.out; omega))
            clear HC HA hfm
            go_wp2_with (at_builtin; refine wpList_append_own _ rfl _ _ 80 rfl w.heap.size 39 i0 (.agg #[.int .i64 0, .int .i64 0]) 2 16 Tryz.underlying80 hi hz0 hz1 hz2 rfl (by decide) _ _ _ rfl (World.ownsRow.alloc hown _) ⟨wr.heap.size, 0, none⟩ 1 1 [.int .i64 (-1000 + (m : Int)), .int .i64 (-1000 + (k : Int))] rfl rfl ?c1 ?c2 ?c3 ?c4 ?c5 ?_)
            case c2 => first | exact ⟨rfl, rfl⟩ | (intro u hu; simp at hu; rcases hu with rfl | rfl <;> rfl)
            case c3 => unfold maxLen; omega
            case c4 => omega
            case c5 => first | omega | (simp; omega)
            · intro v' w2 hown' hgrow _
              have R1 : Own w2 w.heap.size v' (l ++ [((m : Int) - 1000, (k : Int) - 1000)]) := by
                rw [show ((m : Int) - 1000, (k : Int) - 1000) = (-1000 + (m : Int), -1000 + (k : Int)) by rw [Prod.mk.injEq]; omega]
                unfold Own; rw [cells2_append]; simpa [cells2, enc2] using hown'
              have R2 : Below w.heap.size w w2 := (hnx.alloc hsz _).grown hgrow (by simp; omega) (fun j hj => (World.ownsRow.lt hown j hj).1)
              clear hown' hgrow hown
              go_wp2
              go_roundw
              case rel => exact ⟨k + 1, _, by omega, by go_num, R1, H1.out, R2⟩
              case measure => simp [intOf]; omega
    · have H1 : Hid (∀ p, Pt l p ↔ -1000 ≤ p ∧ p < 1000 ∧ f p = true) := fun p => by
        rw [HC.out.pts]
        constructor
        · rintro ⟨h1, h2, h3, h4⟩; exact ⟨h1, h3, h4⟩
        · rintro ⟨h1, h3, h4⟩; exact ⟨h1, by have := hn.out; omega, h3, h4⟩
      have H2 := hidA HC.out.canon
      clear HC
      go_wp2
      go_ret
      exact ⟨_, l, rfl, H2.out, H1.out, by have := hn.out; omega, hown, hnx⟩

theorem of38 (g : Nat) (f : Int → Bool) (w : World) (hr : RowB w g f) :
    Calls Tryz.prog 90 #[.slice (some ⟨g, 0, none⟩) 2000 2000] w fun e w' => ∃ v' ys, e = .returned v' ∧ Canon ys ∧ (∀ p, Pt ys p ↔ -1000 ≤ p ∧ p < 1000 ∧ f p = true) ∧ ys.length ≤ 2001 ∧ Own w' w.heap.size v' ys ∧ Below w.heap.size w w' :=
  of38_n g 2000 f w hr rfl (by omega)

theorem has_bd {xs : List (Int × Int)} {p : Int} (h : Has xs p) : -1000 ≤ p ∧ p < 1000 := by
  obtain ⟨x, hx, h1, h2⟩ := h
  have r := (rightB_iff _ _).1 (by simpa using (List.mem_filter.1 hx).2)
  omega

theorem join25 (v : Value) (xs : List (Int × Int)) (w : World) (hl : xs.length ≤ 100000) (h : SRow w v xs) :
    Calls Tryz.prog 64 #[v] w fun e w' => ∃ v' ys, e = .returned v' ∧ Canon ys ∧ (∀ p, Pt ys p ↔ Has xs p) ∧ ys.length ≤ 2001 ∧ Own w' w.heap.size v' ys ∧ Below w.heap.size w w' := by
  have hmarks := marks39 v xs w hl h
  clear h
  go_enter Tryz.func64, Tryz.ntmps64
  go_wp2_with (go_at_call 91; refine hmarks.mono ?_; rintro e w1 ⟨g, rfl, hg1, hR, hb1⟩)
  refine (of38 g _ w1 hR).mono ?_
  rintro e w2 ⟨v2, ys, rfl, hc, hp, hlen, ho, hb2⟩
  go_wp2
  go_ret
  refine ⟨v2, ys, rfl, hc, fun p => ?_, hlen, ho.base hb1.size, hb1.trans (hb2.mono hb1.size)⟩
  rw [hp, ptB_iff]
  exact ⟨fun h => h.2.2, fun h => ⟨(has_bd h).1, (has_bd h).2, h⟩⟩

end Go.Proofs.YtpagnphabchfcaaGreat.Sp
