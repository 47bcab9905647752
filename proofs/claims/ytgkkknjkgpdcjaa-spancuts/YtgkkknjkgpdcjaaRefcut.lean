/- The reference's Cut. -/
import Derived.Test.YtgkkknjkgpdcjaaInner
namespace Go.Proofs.Ytgkkknjkgpdcjaa
open Go.RowKit

theorem Rcut.len2 {at_ : List Int} {a b p f : Int} {l : List (Int × Int)} (h : Rcut at_ a b p l f) (ha : -1000 ≤ a) (hp : p ≤ 1001) : l.length ≤ 2000 := by
  have := h.len; omega

set_option maxHeartbeats 2000000 in
theorem cut35 (v : Value) (zs : List Int) (a b : Int) (w : World) (hl : zs.length ≤ 50000) (h : IRow w v zs) :
    Calls Try.prog 35 #[.agg #[.int .i64 a, .int .i64 b], v] w fun e w' => ∃ v' l, e = .returned v' ∧ CutIs a b zs l ∧ Own w' w.heap.size v' l ∧ Below w.heap.size w w' := by
  cases hr : rightB a b
  · go_enter Try.func35, Try.ntmps35
    go_wp2_with (go_at_call 13; refine (right13 _ _ _).mono ?_; rintro e w' ⟨rfl, rfl⟩; rw [hr])
    go_ret
    exact ⟨_, [], rfl, .inl ⟨hr, rfl⟩, Own.nil _ _, below_alloc (below1 _ _) _⟩
  · obtain ⟨i0, hi, hz0, hz1, hz2⟩ := info_parts Try.info23
    have hB : IRow (w.alloc (.cells #[.int .i64 a, .int .i64 b] 23)) v zs := h.below (below1 w _) h.lt
    have hB2 : IRow ((w.alloc (.cells #[.int .i64 a, .int .i64 b] 23)).alloc (.cells #[.int .i64 a, .int .i64 b] 23)) v zs := hB.below (below1 _ _) hB.lt
    obtain ⟨r1, r2, r3⟩ := (rightB_iff _ _).1 hr
    obtain ⟨pv, cap, rfl, hf⟩ := hB2.form
    obtain ⟨n, hn⟩ : ∃ n, zs.length = n := ⟨_, rfl⟩
    have HN := hideP' hn
    have HFO := hideP' hf
    rw [hn] at hl ⊢
    clear hB hB2 hn hf h
    go_enter Try.func35, Try.ntmps35
    go_wp2_with (go_at_call 13; refine (right13 _ _ _).mono ?_; rintro e w' ⟨rfl, rfl⟩; rw [hr])
    have ka := (bc (below1 (w.alloc (.cells #[.int .i64 a, .int .i64 b] 23)) (.cells #[.int .i64 a, .int .i64 b] 23)) w.heap.size 0 (by simp)).trans (box1 _ _ _).1
    have kb := (bc (below1 (w.alloc (.cells #[.int .i64 a, .int .i64 b] 23)) (.cells #[.int .i64 a, .int .i64 b] 23)) w.heap.size 1 (by simp)).trans (box1 _ _ _).2
    have hbw : Below w.heap.size w ((w.alloc (.cells #[.int .i64 a, .int .i64 b] 23)).alloc (.cells #[.int .i64 a, .int .i64 b] 23)) := below_alloc (below1 _ _) _
    have z1 : w.heap.size < ((w.alloc (.cells #[.int .i64 a, .int .i64 b] 23)).alloc (.cells #[.int .i64 a, .int .i64 b] 23)).heap.size := by simp; omega
    generalize (w.alloc (.cells #[.int .i64 a, .int .i64 b] 23)).alloc (.cells #[.int .i64 a, .int .i64 b] 23) = w1 at *
    go_loopw [5, 6, 7] (fun vg f p wr => ∃ (q : Int) (l : List (Int × Int)) (ff : Int), a + 1 ≤ q ∧ q ≤ b + 1 ∧ p = .int .i64 q ∧ f = .int .i64 ff ∧ Own wr w1.heap.size vg l ∧ Rcut zs a b q l ff ∧ Below w1.heap.size w1 wr) (fun _ _ p _ => (b + 1 - intOf p).toNat)
    case atStart => exact ⟨a + 1, [], a, Int.le_refl _, by omega, rfl, rfl, Own.nil _ _, Rcut.start _ _ _, Below.refl _ _⟩
    case round =>
      obtain ⟨q, l, ff, hq1, hq2, rfl, rfl, hown, hc, hnx⟩ := hrel
      have hsz := hnx.size
      have c3 := (bc hnx w.heap.size 0 z1).trans ka
      have c4 := (bc hnx w.heap.size 1 z1).trans kb
      by_cases hqb : q ≤ b
      · go_wp2_with fail
        go_loop [8, 9] (fun c i => ∃ (k : Nat) (cc : Bool), k ≤ n ∧ i = .int .i64 k ∧ c = .bool cc ∧ (cc = true ↔ q = b ∨ q ∈ zs.take k)) (fun _ i => n - (intOf i).toNat)
        case atStart => exact ⟨0, q == b, Nat.zero_le _, rfl, rfl, by simp⟩
        case round =>
          obtain ⟨k, cc, hk, rfl, rfl, hcc⟩ := hrel
          by_cases hlt : k < n
          · have hkz : k < zs.length := by rw [HN.out]; exact hlt
            obtain ⟨bb, off, hpe, hbl, d1⟩ := HFO.out k hkz
            subst hpe
            have c1 := (bc hnx bb (off + k) hbl).trans d1
            have HTS : Hid (∀ x, x ∈ zs.take (k + 1) ↔ x ∈ zs.take k ∨ x = zs[k]) := fun x => by
              rw [List.take_succ_eq_append_getElem hkz, List.mem_append, List.mem_singleton]
            obtain ⟨z, hz⟩ : ∃ y, zs[k] = y := ⟨_, rfl⟩
            rw [hz] at c1 HTS
            have HCC := hideP' hcc
            clear d1 hz hcc hc
            cases hcv : cc
            · rw [hcv] at HCC
              go_wp2
              go_round
              case rel => exact ⟨k + 1, z == q, by omega, by go_num, rfl, by
                  rw [HTS.out, beq_iff_eq]
                  have := HCC.out
                  constructor
                  · intro e; exact .inr (.inr e.symm)
                  · rintro (e | e | e)
                    · exact absurd (this.2 (.inl e)) (by simp)
                    · exact absurd (this.2 (.inr e)) (by simp)
                    · exact e.symm⟩
              case measure => simp [intOf]; omega
            · rw [hcv] at HCC
              go_wp2
              go_round
              case rel => exact ⟨k + 1, true, by omega, by go_num, rfl, by
                  rw [HTS.out]
                  have := HCC.out.1 rfl
                  exact ⟨fun _ => by rcases this with e | e; exact .inl e; exact .inr (.inl e), fun _ => rfl⟩⟩
              case measure => simp [intOf]; omega
          · have hkn : zs.take k = zs := List.take_of_length_le (by have := HN.out; omega)
            rw [hkn] at hcc
            have hll := hc.len2 r1 (by omega)
            cases hcv : cc
            · have G1 := hideP' (hc.no (fun e => by have := hcc.2 e; rw [hcv] at this; simp at this))
              clear hcc hkn hc
              go_wp2
              go_roundw
              case rel => exact ⟨q + 1, l, ff, by omega, by omega, rfl, rfl, hown, G1.out, hnx⟩
              case measure => simp [intOf]; omega
            · have G1 := hideP' (hc.yes (hcc.1 hcv) (by omega))
              clear hcc hkn hc
              go_wp2_with (at_builtin; refine wpList_append_own _ rfl _ _ 31 rfl w1.heap.size 23 i0 (.agg #[.int .i64 0, .int .i64 0]) 2 16 Try.underlying31 hi hz0 hz1 hz2 rfl (by decide) _ _ _ rfl (World.ownsRow.alloc hown _) ⟨wr.heap.size, 0, none⟩ 1 1 [.int .i64 ff, .int .i64 q] rfl rfl ?c1 ?c2 ?c3 ?c4 ?c5 ?_)
              case c2 => first | exact ⟨rfl, rfl⟩ | (intro u hu; simp at hu; rcases hu with rfl | rfl <;> rfl)
              case c3 => unfold maxLen; omega
              case c4 => omega
              case c5 => first | omega | (simp; omega)
              · intro v' w2 hown' hgrow _
                have R1 : Own w2 w1.heap.size v' (l ++ [(ff, q)]) := by
                  unfold Own; rw [cells2_append]; simpa [cells2, enc2] using hown'
                have R2 : Below w1.heap.size w1 w2 := (hnx.alloc hsz _).grown hgrow (by simp; omega) (fun j hj => (World.ownsRow.lt hown j hj).1)
                clear hown' hgrow hown
                go_wp2
                go_roundw
                case rel => exact ⟨q + 1, _, q, by omega, by omega, rfl, rfl, R1, G1.out, R2⟩
                case measure => simp [intOf]; omega
      · have hqe : q = b + 1 := by omega
        rw [hqe] at hc
        have hfin := hc.finish r2
        clear hc HN HFO
        go_wp2
        go_ret
        exact ⟨_, rfl, l, .inr ⟨hr, hfin.1, hfin.2⟩, hown.base (Nat.le_of_lt z1), hbw.trans (hnx.mono (Nat.le_of_lt z1))⟩

end Go.Proofs.Ytgkkknjkgpdcjaa
