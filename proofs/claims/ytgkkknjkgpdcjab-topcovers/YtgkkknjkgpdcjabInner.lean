/- span.innerPoints and span.Cut. -/
import Derived.Test.YtgkkknjkgpdcjabInts
import Derived.Shelf.SlSortCmp.QuietGrown
namespace Go.Proofs.Ytgkkknjkgpdcjab
open Go.RowKit

theorem hideP' {p : Prop} (h : p) : Hid p := h

open Go.Sort in
set_option maxHeartbeats 400000 in
/-- Has, and that it lays blocks alone -/
theorem has14g (a b p : Int) (w : World) (hno : hasB a b p = false) :
    Calls Try.prog 12 #[.agg #[.int .i64 a, .int .i64 b], .int .i64 p] w fun e w' => e = .returned (.bool false) ∧ ∃ q os', w' = grow (w.drewN q) os' := by
  cases h1 : rightB a b
  · clear hno
    go_enter Try.func12, Try.ntmps12
    go_wp2_with (go_at_call 5; refine (right12 _ _ _).mono ?_; rintro e w' ⟨rfl, rfl⟩; first | rw [h1])
    go_ret
    exact ⟨rfl, 0, _, by rw [alloc_eq_grow, alloc_eq_grow, grow_grow]; rfl⟩
  · by_cases h2 : a ≤ p
    · have h3 : ¬ p < b := fun h3 => by simp [hasB, h1, h2, h3] at hno
      clear hno
      replace h3 : decide (p < b) = false := by simpa using h3
      go_enter Try.func12, Try.ntmps12
      go_wp2_with (go_at_call 5; refine (right12 _ _ _).mono ?_; rintro e w' ⟨rfl, rfl⟩; first | rw [h1])
      go_ret
      exact ⟨rfl, 0, _, by rw [alloc_eq_grow, alloc_eq_grow, grow_grow]; rfl⟩
    · clear hno
      go_enter Try.func12, Try.ntmps12
      go_wp2_with (go_at_call 5; refine (right12 _ _ _).mono ?_; rintro e w' ⟨rfl, rfl⟩; first | rw [h1])
      go_ret
      exact ⟨rfl, 0, _, by rw [alloc_eq_grow, alloc_eq_grow, grow_grow]; rfl⟩

open Go.Sort in
theorem below_grow (w : World) (n : Nat) (os : Array Obj) : Below w.heap.size w (grow (w.drewN n) os) :=
  ⟨rfl, rfl, rfl, by simp [grow], fun k hk => heap_grow_old (w.drewN n) os hk⟩
theorem mixedTry : Try.prog.follows .mixedOrders = true := by kernel_rfl

set_option maxHeartbeats 2000000 in
theorem inner40 (v : Value) (zs : List Int) (a b : Int) (w : World) (hl : zs.length ≤ 50000) (h : IRow w v zs) :
    Calls Try.prog 8 #[.agg #[.int .i64 a, .int .i64 b], v] w fun e w' => ∃ v' cs, e = .returned v' ∧ cs.Perm (inner a b zs) ∧ RisingI cs ∧ OwnI w' w.heap.size v' cs ∧ Below w.heap.size w w' := by
  obtain ⟨i0, hi, hz0, hz1, hz2⟩ := info_parts Try.info3
  have hB : IRow (w.alloc (.cells #[.int .i64 a, .int .i64 b] 23)) v zs := h.below (below1 w _) h.lt
  obtain ⟨p, cap, rfl, hf⟩ := hB.form
  obtain ⟨n, hn⟩ : ∃ n, zs.length = n := ⟨_, rfl⟩
  have HN := hideP' hn
  have HFO := hideP' hf
  rw [hn] at hl ⊢
  clear hn hf hB h
  go_enter Try.func8, Try.ntmps8
  go_wp2_with fail
  have a0 := (box1 w a b).1
  have b0 := (box1 w a b).2
  have z0 : w.heap.size < (w.alloc (.cells #[.int .i64 a, .int .i64 b] 23)).heap.size := by simp
  have hbw : Below w.heap.size w (w.alloc (.cells #[.int .i64 a, .int .i64 b] 23)) := below1 _ _
  generalize w.alloc (.cells #[.int .i64 a, .int .i64 b] 23) = w1 at *
  go_loopw [5, 9] (fun vg i wr => ∃ k : Nat, k ≤ n ∧ i = .int .i64 k ∧ OwnI wr w1.heap.size vg (inner a b (zs.take k)) ∧ Below w1.heap.size w1 wr) (fun _ i _ => n - (intOf i).toNat)
  case atStart => exact ⟨0, Nat.zero_le _, rfl, World.ownsRow_nil _ _ _ _, Below.refl _ _⟩
  case round =>
    obtain ⟨k, hk, rfl, hown, hnx⟩ := hrel
    have hsz := hnx.size
    by_cases hlt : k < n
    · have hkz : k < zs.length := by rw [HN.out]; exact hlt
      obtain ⟨bb, off, hpe, hbl, d1⟩ := HFO.out k hkz
      subst hpe
      have c1 := (bc hnx bb (off + k) hbl).trans d1
      have c3 := (bc hnx w.heap.size 0 z0).trans a0
      have c4 := (bc hnx w.heap.size 1 z0).trans b0
      have hA : FI w w1 bb (off + k) zs[k] a b u5 (inner a b (zs.take k)) wr := ⟨⟨c1, c3, c4⟩, by omega, by omega, hsz, hown, hnx⟩
      have HY := hideP' (inner_snoc a b zs k hkz)
      obtain ⟨z, hz⟩ : ∃ y, zs[k] = y := ⟨_, rfl⟩
      rw [hz] at c1 hA HY
      have hlen := inner_len a b (zs.take k)
      have htk : (zs.take k).length ≤ k := List.length_take_le _ _
      have hk1 : FI w w1 bb (off + k) z a b u5 (inner a b (zs.take k)) wr.drew := hA.step (Below.refl _ _).drew
      clear d1 hz hA
      cases hh : hasB a b z
      · have hcg := fun n' os' => has14g a b z (Go.Sort.grow (wr.drewN n') os') hh
        have s1 := fun n' os' => cell_grown (a := ⟨bb, off + k, none⟩) (Nat.lt_of_lt_of_le hbl hsz) c1 n' os'
        have s2 := fun n' os' => cell_grown (a := ⟨w.heap.size, 0, none⟩) (Nat.lt_of_lt_of_le z0 hsz) c3 n' os'
        have s3 := fun n' os' => cell_grown (a := ⟨w.heap.size, 1, none⟩) (Nat.lt_of_lt_of_le z0 hsz) c4 n' os'
        have mixed := mixedTry
        clear c1 c3 c4 hk1
        go_wp2_with fail
        go_quiet_grown (first | (go_at_call 12; refine Calls.grown_of (hcg _ _)))
        go_wp2
        go_roundw
        case rel => exact ⟨k + 1, by omega, by go_num, by rw [HY.out, if_neg (by simp [hh])]; exact hown.below (below_grow _ _ _) (fun j hj => (World.ownsRow.lt hown j hj).2), hnx.trans ((below_grow wr nq osq).mono hsz)⟩
        case measure => simp [intOf]; omega
      · cases hne : (z != a)
        · go_wp2_with fail
          go_region_held3 (fun w' => w'.cell? ⟨bb, off + k, none⟩ = some (.int .i64 z) ∧ w'.cell? ⟨w.heap.size, 0, none⟩ = some (.int .i64 a) ∧ w'.cell? ⟨w.heap.size, 1, none⟩ = some (.int .i64 b)) (first | exact hkk.1 | exact hk1.1)
            (first
            | (go_at_call 12; refine (kI14 _ hk1).mono ?_; rintro e wk ⟨rfl, hkk⟩; rw [hh]))
          go_wp2
          go_roundw
          case rel => exact ⟨k + 1, by omega, by go_num, by rw [HY.out, if_neg (by simp [hne])]; exact hkk.2.2.2.2.1, hkk.2.2.2.2.2⟩
          case measure => simp [intOf]; omega
        · go_wp2_with fail
          go_region_held3 (fun w' => w'.cell? ⟨bb, off + k, none⟩ = some (.int .i64 z) ∧ w'.cell? ⟨w.heap.size, 0, none⟩ = some (.int .i64 a) ∧ w'.cell? ⟨w.heap.size, 1, none⟩ = some (.int .i64 b)) (first | exact hkk.1 | exact hk1.1)
            (first
            | (go_at_call 12; refine (kI14 _ hk1).mono ?_; rintro e wk ⟨rfl, hkk⟩; rw [hh]))
          obtain ⟨⟨e1, e2, e3⟩, q1, q2, q3, q4, q5⟩ := hkk
          go_wp2_with (at_builtin; refine wpList_append_own _ rfl _ _ 24 rfl w1.heap.size 3 i0 (.int .i64 0) 1 8 Try.underlying24 hi hz0 hz1 hz2 rfl (by decide) _ _ _ rfl (World.ownsRow.alloc q4 _) ⟨wk.heap.size, 0, none⟩ 1 1 [.int .i64 z] rfl rfl ?c1 ?c2 ?c3 ?c4 ?c5 ?_)
          case c1 =>
            intro j u hj
            match j, hj with
            | 0, hj => simp at hj; subst hj; simp [Addr.add]
          case c2 => intro u hu; simp at hu; subst hu; rfl
          case c3 => unfold maxLen; omega
          case c4 => omega
          case c5 => simp; omega
          · intro v' w2 hown' hgrow _
            have R1 : OwnI w2 w1.heap.size v' (inner a b (zs.take (k + 1))) := by
              rw [HY.out, if_pos (by simp [hh, hne])]
              unfold OwnI; simpa using hown'
            have R2 : Below w1.heap.size w1 w2 := (q5.alloc q3 _).grown hgrow (by simp; omega) (fun j hj => (World.ownsRow.lt q4 j hj).1)
            clear hown' hgrow q4
            go_wp2
            go_roundw
            case rel => exact ⟨k + 1, by omega, by go_num, R1, R2⟩
            case measure => simp [intOf]; omega
    · have hkn : zs.take k = zs := List.take_of_length_le (by have := HN.out; omega)
      rw [hkn] at hown
      have hlen := inner_len a b zs
      have hlz := HN.out
      have hs := sort44 u5 _ wr w1.heap.size hown hsz (by omega)
      clear hkn HN HFO hlz
      go_wp2_with (go_at_call 13; refine hs.mono ?_; rintro e w2 ⟨rfl, cs, hp, hr, ho, hb2⟩)
      go_ret
      refine ⟨_, cs, rfl, hp, hr, ?_, hbw.trans ((hnx.trans hb2).mono (Nat.le_of_lt z0))⟩
      obtain ⟨o1, o2⟩ := ho
      rcases o2 with o2 | ⟨g, cp, cur, rr, hb, r⟩
      · exact ⟨o1, .inl o2⟩
      · exact ⟨o1, .inr ⟨g, cp, cur, rr, Nat.le_trans (Nat.le_of_lt z0) hb, r⟩⟩

theorem inner_mem (a b : Int) (zs : List Int) (z : Int) (hr : rightB a b = true) : z ∈ inner a b zs ↔ a < z ∧ z < b ∧ z ∈ zs := by
  unfold inner
  rw [List.mem_filter]
  simp only [hasB, hr, Bool.true_and, Bool.and_eq_true, decide_eq_true_eq, bne_iff_ne]
  constructor
  · rintro ⟨h1, ⟨h2, h3⟩, h4⟩; exact ⟨by omega, h3, h1⟩
  · rintro ⟨h1, h2, h3⟩; exact ⟨h3, ⟨by omega, h2⟩, by omega⟩

/-- what Cut is -/
def CutIs (a b : Int) (zs : List Int) (l : List (Int × Int)) : Prop :=
  (rightB a b = false ∧ l = []) ∨ (rightB a b = true ∧ Chn a l b ∧ ∀ p, E l p ↔ p = b ∨ (a < p ∧ p < b ∧ p ∈ zs))
theorem CutIs.same {a b : Int} {zs : List Int} {l m : List (Int × Int)} (h : CutIs a b zs l) (k : CutIs a b zs m) : l = m := by
  rcases h with ⟨h1, h2⟩ | ⟨h1, h2, h3⟩
  · rcases k with ⟨_, k2⟩ | ⟨k1, _⟩
    · rw [h2, k2]
    · rw [h1] at k1; simp at k1
  · rcases k with ⟨k1, _⟩ | ⟨_, k2, k3⟩
    · rw [h1] at k1; simp at k1
    · exact chn_unique _ _ _ _ h2 k2 (fun p => by rw [h3, k3])

set_option maxHeartbeats 2000000 in
theorem cut34 (v : Value) (zs : List Int) (a b : Int) (w : World) (hl : zs.length ≤ 50000) (h : IRow w v zs) :
    Calls Try.prog 4 #[.agg #[.int .i64 a, .int .i64 b], v] w fun e w' => ∃ v' l, e = .returned v' ∧ CutIs a b zs l ∧ l.length ≤ zs.length + 1 ∧ Own w' w.heap.size v' l ∧ Below w.heap.size w w' := by
  cases hr : rightB a b
  · go_enter Try.func4, Try.ntmps4
    go_wp2_with (go_at_call 5; refine (right12 _ _ _).mono ?_; rintro e w' ⟨rfl, rfl⟩; rw [hr])
    go_ret
    exact ⟨_, [], rfl, .inl ⟨hr, rfl⟩, by simp, Own.nil _ _, below_alloc (below1 _ _) _⟩
  · have hB : IRow (w.alloc (.cells #[.int .i64 a, .int .i64 b] 23)) v zs := h.below (below1 w _) h.lt
    have hB2 : IRow ((w.alloc (.cells #[.int .i64 a, .int .i64 b] 23)).alloc (.cells #[.int .i64 a, .int .i64 b] 23)) v zs := hB.below (below1 _ _) hB.lt
    have hin := inner40 v zs a b _ hl hB2
    obtain ⟨r1, r2, r3⟩ := (rightB_iff _ _).1 hr
    go_enter Try.func4, Try.ntmps4
    go_wp2_with (first | (go_at_call 5; refine (right12 _ _ _).mono ?_; rintro e w' ⟨rfl, rfl⟩; rw [hr]) | fail)
    refine hin.mono ?_
    rintro e w1 ⟨v1, cs, rfl, hp, hrs, ho, hb1⟩
    obtain ⟨p, cap, hv1, hf⟩ := ho.irow.form
    rw [hv1]
    have hcl : cs.length ≤ zs.length := by rw [hp.length_eq]; exact inner_len a b zs
    obtain ⟨n, hn⟩ : ∃ n, cs.length = n := ⟨_, rfl⟩
    have HN := hideP' hn
    have HFO := hideP' hf
    have HM := hideP' (fun c => (hp.mem_iff (a := c)).trans (inner_mem a b zs c hr))
    have HRS := hideP' hrs
    rw [hn] at hcl ⊢
    have hs1 := hb1.size
    simp only [World.size_alloc] at hs1
    have ka : w1.cell? ⟨w.heap.size, 0, none⟩ = some (.int .i64 a) := (bc hb1 w.heap.size 0 (by simp; omega)).trans ((bc (below1 _ _) w.heap.size 0 (by simp)).trans (box1 _ _ _).1)
    have kb : w1.cell? ⟨w.heap.size, 1, none⟩ = some (.int .i64 b) := (bc hb1 w.heap.size 1 (by simp; omega)).trans ((bc (below1 _ _) w.heap.size 1 (by simp)).trans (box1 _ _ _).2)
    have hbw : Below w.heap.size w w1 := (below_alloc (below1 _ _) _).trans (hb1.mono (by simp; omega))
    have hz1 : w.heap.size < w1.heap.size := by omega
    clear hin hB hB2 hb1 hs1 h hf hn hp hrs ho hv1
    go_wp2_with fail
    go_loopw [5, 6, 19] (fun vg f i wr => ∃ (k : Nat) (l : List (Int × Int)) (ff : Int), k ≤ n ∧ i = .int .i64 k ∧ f = .int .i64 ff ∧ Own wr w1.heap.size vg l ∧ Cutd cs a k l ff ∧ Below w1.heap.size w1 wr) (fun _ _ i _ => n - (intOf i).toNat)
    case atStart => exact ⟨0, [], a, Nat.zero_le _, rfl, rfl, Own.nil _ _, Cutd.start _ _, Below.refl _ _⟩
    case round =>
      obtain ⟨k, l, ff, hk, rfl, rfl, hown, hc, hnx⟩ := hrel
      have hsz := hnx.size
      by_cases hlt : k < n
      · have hkc : k < cs.length := by rw [HN.out]; exact hlt
        obtain ⟨bb, off, hpe, hbl, d1⟩ := HFO.out k hkc
        subst hpe
        have c1 := (bc hnx bb (off + k) hbl).trans d1
        have hmem := (HM.out cs[k]).1 (List.getElem_mem hkc)
        have G1 := hideP' (hc.step hkc hmem.1 (fun j hj => HRS.out j k hkc hj))
        obtain ⟨z, hz⟩ : ∃ y, cs[k] = y := ⟨_, rfl⟩
        rw [hz] at c1 G1
        have hll := hc.len
        clear d1 hz hmem hc
        have hbbw : bb < w1.heap.size := hbl
        go_wp2_with (go_at_call 9; refine (addPiece36 u5 l ff z _ w1.heap.size hown hsz (by omega)).mono ?_; rintro e w3 ⟨v3, rfl, ho3, hb3⟩; have c2 := (bc hb3 bb (off + k) hbbw).trans c1)
        go_roundw
        case rel => exact ⟨k + 1, _, z, by omega, by go_num, rfl, ho3, G1.out, hnx.trans hb3⟩
        case measure => simp [intOf]; omega
      · have hkn : k = cs.length := by have := HN.out; omega
        rw [hkn] at hc
        have hfin := hc.finish r2 (fun c hcm => ((HM.out c).1 hcm).2.1)
        have hll := hc.len
        have c3 := (bc hnx w.heap.size 0 hz1).trans ka
        have c4 := (bc hnx w.heap.size 1 hz1).trans kb
        have hll2 : l.length ≤ 100000 := by have := HN.out; omega
        have HFIN := hideP' (show CutIs a b zs (addP l ff b) ∧ (addP l ff b).length ≤ zs.length + 1 from ⟨.inr ⟨hr, hfin.1, fun p => by rw [hfin.2.1, HM.out]⟩, by have := hfin.2.2; have := HN.out; omega⟩)
        clear hfin hc hkn HM HN HFO HRS
        go_wp2_with (go_at_call 9; refine (addPiece36 u5 l ff b _ w1.heap.size hown hsz hll2).mono ?_; rintro e w3 ⟨v3, rfl, ho3, hb3⟩)
        go_ret
        exact ⟨_, _, rfl, HFIN.out.1, HFIN.out.2, ho3.base (by omega), hbw.trans ((hnx.trans hb3).mono (by omega))⟩

end Go.Proofs.Ytgkkknjkgpdcjab
