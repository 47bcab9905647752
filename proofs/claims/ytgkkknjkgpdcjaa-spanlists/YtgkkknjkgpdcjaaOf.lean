/- The reference's of: the spans of the points that are marked. -/
import Derived.Test.YtgkkknjkgpdcjaaMarks
namespace Go.Proofs.Ytgkkknjkgpdcjaa
open Go.RowKit

/-- what has been made of the first m marks -/
structure Ofd (f : Int → Bool) (m : Nat) (l : List (Int × Int)) : Prop where
  canon : Canon l
  pts : ∀ p, Pt l p ↔ -1000 ≤ p ∧ p < (m : Int) - 1000 ∧ p < 1000 ∧ f p = true
  ends : ∀ y, y ∈ l → y.2 < (m : Int) - 1000
  len : l.length ≤ m

theorem Ofd.start (f : Int → Bool) : Ofd f 0 [] := ⟨⟨by simp, by simp⟩, fun p => by simp [pt_nil]; omega, by simp, by simp⟩
theorem Ofd.skip {f : Int → Bool} {m : Nat} {l : List (Int × Int)} (h : Ofd f m l) (hf : f ((m : Int) - 1000) = false) : Ofd f (m + 1) l := by
  refine ⟨h.canon, fun p => ?_, fun y hy => by have := h.ends y hy; push_cast; omega, by have := h.len; omega⟩
  rw [h.pts]
  constructor
  · rintro ⟨h1, h2, h3, h4⟩; exact ⟨h1, by push_cast; omega, h3, h4⟩
  · rintro ⟨h1, h2, h3, h4⟩
    refine ⟨h1, ?_, h3, h4⟩
    by_cases e : p = (m : Int) - 1000
    · rw [e, hf] at h4; simp at h4
    · push_cast at h2; omega
theorem Ofd.add {f : Int → Bool} {m k : Nat} {l : List (Int × Int)} (h : Ofd f m l) (hmk : m < k) (hk : k ≤ 2000)
    (hall : ∀ x, (m : Int) - 1000 ≤ x → x < (k : Int) - 1000 → f x = true) (hend : k < 2000 → f ((k : Int) - 1000) = false) : Ofd f (k + 1) (l ++ [((m : Int) - 1000, (k : Int) - 1000)]) := by
  refine ⟨⟨?_, ?_⟩, fun p => ?_, ?_, ?_⟩
  · intro x hx
    rcases List.mem_append.1 hx with hx | hx
    · exact h.canon.1 x hx
    · rw [List.mem_singleton.1 hx, rightB_iff]; simp only; omega
  · rw [List.pairwise_append]
    refine ⟨h.canon.2, by simp, fun x hx y hy => ?_⟩
    rw [List.mem_singleton.1 hy]
    exact h.ends x hx
  · rw [pt_append, h.pts, pt_cons]
    simp only [pt_nil, or_false]
    constructor
    · rintro (⟨h1, h2, h3, h4⟩ | ⟨h1, h2⟩)
      · exact ⟨h1, by push_cast; omega, h3, h4⟩
      · exact ⟨by omega, by push_cast; omega, by omega, hall p h1 h2⟩
    · rintro ⟨h1, h2, h3, h4⟩
      by_cases e : p < (m : Int) - 1000
      · exact .inl ⟨h1, e, h3, h4⟩
      · right
        refine ⟨by omega, ?_⟩
        by_cases e2 : p = (k : Int) - 1000
        · rw [e2, hend (by omega)] at h4; simp at h4
        · push_cast at h2; omega
  · intro y hy
    rcases List.mem_append.1 hy with hy | hy
    · have := h.ends y hy; push_cast; omega
    · rw [List.mem_singleton.1 hy]; push_cast; omega
  · have := h.len; simp; omega

set_option maxHeartbeats 1000000 in
theorem of38_n (g n : Nat) (f : Int → Bool) (w : World) (hr : RowB w g f) (hn : Hid (n = 2000)) (hn3 : n ≤ 3000) :
    Calls Try.prog 38 #[.slice (some ⟨g, 0, none⟩) n n] w fun e w' => ∃ v' ys, e = .returned v' ∧ Canon ys ∧ (∀ p, Pt ys p ↔ -1000 ≤ p ∧ p < 1000 ∧ f p = true) ∧ ys.length ≤ 2001 ∧ Own w' w.heap.size v' ys ∧ Below w.heap.size w w' := by
  obtain ⟨i0, hi, hz0, hz1, hz2⟩ := info_parts Try.info23
  have hg : g < w.heap.size := World.rowIs.lt hr
  have HR := hidA hr
  clear hr
  go_enter Try.func38, Try.ntmps38
  go_wp2
  go_loopw [3, 4] (fun vg i wr => ∃ (m : Nat) (l : List (Int × Int)), m ≤ n + 1 ∧ i = .int .i64 m ∧ Own wr w.heap.size vg l ∧ Ofd f m l ∧ Below w.heap.size w wr) (fun _ i _ => n + 1 - (intOf i).toNat)
  case atStart => exact ⟨0, [], by omega, rfl, Own.nil _ _, Ofd.start _, Below.refl _ _⟩
  case round =>
    obtain ⟨m, l, hm, rfl, hown, hc0, hnx⟩ := hrel
    have HC := hidA hc0
    have hll := hc0.len
    clear hc0
    have hsz := hnx.size
    by_cases hlt : m < n
    · have c1 := (bc hnx _ _ hg).trans (HR.out.cell (m := m) (by have := hn.out; omega))
      cases hfm : f ((m : Int) - 1000)
      · rw [hfm] at c1
        have H1 := hidA (HC.out.skip hfm)
        clear HC
        go_wp2
        go_roundw
        case rel => exact ⟨m + 1, l, by omega, by go_num, hown, H1.out, hnx⟩
        case measure => simp [intOf]; omega
      · rw [hfm] at c1
        go_wp2_with fail
        go_loop [5] (fun kv => ∃ k : Nat, m ≤ k ∧ k ≤ n ∧ kv = .int .i64 k ∧ ∀ x, (m : Int) - 1000 ≤ x → x < (k : Int) - 1000 → f x = true) (fun kv => n - (intOf kv).toNat)
        case atStart => exact ⟨m, Nat.le_refl _, by omega, rfl, fun x _ _ => by omega⟩
        case round =>
          obtain ⟨k, hk1, hk2, rfl, hall0⟩ := hrel
          have HA := hidA hall0
          clear hall0
          by_cases hk3 : k < n
          · have c2 := (bc hnx _ _ hg).trans (HR.out.cell (m := k) (by have := hn.out; omega))
            cases hfk : f ((k : Int) - 1000)
            · rw [hfk] at c2
              have hmk : m < k := by
                rcases (show m = k ∨ m < k by omega) with e | e
                · rw [e, hfk] at hfm; simp at hfm
                · exact e
              have H1 := hidA (HC.out.add hmk (by have := hn.out; omega) HA.out (fun _ => hfk))
              clear HC HA hfm hfk
              go_wp2_with (at_builtin; refine wpList_append_own _ rfl _ _ 31 rfl w.heap.size 23 i0 (.agg #[.int .i64 0, .int .i64 0]) 2 16 Try.underlying31 hi hz0 hz1 hz2 rfl (by decide) _ _ _ rfl (World.ownsRow.alloc hown _) ⟨wr.heap.size, 0, none⟩ 1 1 [.int .i64 (-1000 + (m : Int)), .int .i64 (-1000 + (k : Int))] rfl rfl ?c1 ?c2 ?c3 ?c4 ?c5 ?_)
              case c2 => first | exact ⟨rfl, rfl⟩ | (intro u hu; simp at hu; rcases hu with rfl | rfl <;> rfl)
              case c3 => unfold maxLen; omega
              case c4 => omega
              case c5 => first | omega | (simp; omega)
              · intro v' w2 hown' hgrow _
                have R1 : Own w2 w.heap.size v' (l ++ [((m : Int) - 1000, (k : Int) - 1000)]) := by
                  rw [show ((m : Int) - 1000, (k : Int) - 1000) = (-1000 + (m : Int), -1000 + (k : Int)) by rw [Prod.mk.injEq]; omega]
                  unfold Own; rw [cells2_append]; simpa [cells2, enc2] using hown'
                have R2 : Below w.heap.size w w2 := (hnx.alloc hsz _).grown hgrow (by simp; omega) (fun j hj => (World.ownsRow.lt hown j hj).1)
                clear hown' hgrow hown
                go_wp2
                go_roundw
                case rel => exact ⟨k + 1, _, by omega, by go_num, R1, H1.out, R2⟩
                case measure => simp [intOf]; omega
            · rw [hfk] at c2
              have H1 : Hid (∀ x, (m : Int) - 1000 ≤ x → x < ((k + 1 : Nat) : Int) - 1000 → f x = true) := fun x h1 h2 => by
                by_cases e : x = (k : Int) - 1000
                · rw [e]; exact hfk
                · exact HA.out x h1 (by push_cast at h2; omega)
              clear HC HA hfm hfk
              go_wp2
              go_round
              case rel => exact ⟨k + 1, by omega, by omega, by go_num, H1.out⟩
              case measure => simp [intOf]; omega
          · have hmk : m < k := by omega
            have H1 := hidA (HC.out.add hmk (by have := hn.out; omega) HA.out (fun h => by have := hn.out; omega))
            clear HC HA hfm
            go_wp2_with (at_builtin; refine wpList_append_own _ rfl _ _ 31 rfl w.heap.size 23 i0 (.agg #[.int .i64 0, .int .i64 0]) 2 16 Try.underlying31 hi hz0 hz1 hz2 rfl (by decide) _ _ _ rfl (World.ownsRow.alloc hown _) ⟨wr.heap.size, 0, none⟩ 1 1 [.int .i64 (-1000 + (m : Int)), .int .i64 (-1000 + (k : Int))] rfl rfl ?c1 ?c2 ?c3 ?c4 ?c5 ?_)
            case c2 => first | exact ⟨rfl, rfl⟩ | (intro u hu; simp at hu; rcases hu with rfl | rfl <;> rfl)
            case c3 => unfold maxLen; omega
            case c4 => omega
            case c5 => first | omega | (simp; omega)
            · intro v' w2 hown' hgrow _
              have R1 : Own w2 w.heap.size v' (l ++ [((m : Int) - 1000, (k : Int) - 1000)]) := by
                rw [show ((m : Int) - 1000, (k : Int) - 1000) = (-1000 + (m : Int), -1000 + (k : Int)) by rw [Prod.mk.injEq]; omega]
                unfold Own; rw [cells2_append]; simpa [cells2, enc2] using hown'
              have R2 : Below w.heap.size w w2 := (hnx.alloc hsz _).grown hgrow (by simp; omega) (fun j hj => (World.ownsRow.lt hown j hj).1)
              clear hown' hgrow hown
              go_wp2
              go_roundw
              case rel => exact ⟨k + 1, _, by omega, by go_num, R1, H1.out, R2⟩
              case measure => simp [intOf]; omega
    · have H1 : Hid (∀ p, Pt l p ↔ -1000 ≤ p ∧ p < 1000 ∧ f p = true) := fun p => by
        rw [HC.out.pts]
        constructor
        · rintro ⟨h1, h2, h3, h4⟩; exact ⟨h1, h3, h4⟩
        · rintro ⟨h1, h3, h4⟩; exact ⟨h1, by have := hn.out; omega, h3, h4⟩
      have H2 := hidA HC.out.canon
      clear HC
      go_wp2
      go_ret
      exact ⟨_, l, rfl, H2.out, H1.out, by have := hn.out; omega, hown, hnx⟩

theorem of38 (g : Nat) (f : Int → Bool) (w : World) (hr : RowB w g f) :
    Calls Try.prog 38 #[.slice (some ⟨g, 0, none⟩) 2000 2000] w fun e w' => ∃ v' ys, e = .returned v' ∧ Canon ys ∧ (∀ p, Pt ys p ↔ -1000 ≤ p ∧ p < 1000 ∧ f p = true) ∧ ys.length ≤ 2001 ∧ Own w' w.heap.size v' ys ∧ Below w.heap.size w w' :=
  of38_n g 2000 f w hr rfl (by omega)

end Go.Proofs.Ytgkkknjkgpdcjaa
