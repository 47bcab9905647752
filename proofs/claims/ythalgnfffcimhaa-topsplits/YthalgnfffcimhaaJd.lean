/- span.byStart: the right spans of a list, rising by their begins, in new memory. -/
import Derived.Test.YthalgnfffcimhaaJc
namespace Go.Proofs.Ythalgnfffcimhaa.Sp
open Go.Shelf Go.RowKit Go.Lib Go.Sort

/-- the right ones of a list -/
def rights (xs : List (Int × Int)) : List (Int × Int) := xs.filter fun x => rightB x.1 x.2
theorem rights_len (xs : List (Int × Int)) : (rights xs).length ≤ xs.length := List.length_filter_le _ _
theorem rights_snoc (xs : List (Int × Int)) (k : Nat) (h : k < xs.length) : rights (xs.take (k + 1)) = if rightB xs[k].1 xs[k].2 = true then rights (xs.take k) ++ [xs[k]] else rights (xs.take k) := by
  rw [List.take_succ_eq_append_getElem h]
  unfold rights
  rw [List.filter_append]
  by_cases hr : rightB xs[k].1 xs[k].2 = true <;> simp [hr]

set_option maxHeartbeats 1000000 in
theorem start37_nil (p : Option Addr) (cap : Nat) (w : World) :
    Calls Try.prog 27 #[.slice p 0 cap] w fun e w' => ∃ v ys, e = .returned v ∧ ys.Perm (rights []) ∧ Rising ys ∧ Own w' w.heap.size v ys ∧ Below w.heap.size w w' := by
  go_enter Try.func27, Try.ntmps27
  go_wp2
  refine wp_loop_rounds 1 ?_
  rw [rounds_succ]
  go_wp2_with (go_at_call 40; refine (sort41_none _ _).mono ?_; rintro e w' ⟨rfl, rfl⟩)
  go_ret
  exact ⟨_, [], rfl, List.Perm.refl _, fun i j hj => by simp at hj, Own.nil _ _, Below.refl _ _⟩

set_option maxHeartbeats 1000000 in
theorem start37_some (b off cap : Nat) (xs : List (Int × Int)) (w : World) (hl : xs.length ≤ 100000) (hb : b < w.heap.size)
    (hc : ∀ i, (h : i < xs.length) → w.cell? ⟨b, off + i * 2, none⟩ = some (.int .i64 xs[i].1) ∧ w.cell? ⟨b, off + i * 2 + 1, none⟩ = some (.int .i64 xs[i].2)) :
    Calls Try.prog 27 #[.slice (some ⟨b, off, none⟩) xs.length cap] w fun e w' => ∃ v ys, e = .returned v ∧ ys.Perm (rights xs) ∧ Rising ys ∧ Own w' w.heap.size v ys ∧ Below w.heap.size w w' := by
  obtain ⟨i0, hi, hz0, hz1, hz2⟩ := info_parts' Try.info27
  have HC : Hid (∀ i, (h : i < xs.length) → w.cell? ⟨b, off + i * 2, none⟩ = some (.int .i64 xs[i].1) ∧ w.cell? ⟨b, off + i * 2 + 1, none⟩ = some (.int .i64 xs[i].2)) := hc
  clear hc
  obtain ⟨n, hn⟩ : ∃ n, xs.length = n := ⟨_, rfl⟩
  have HN : Hid (xs.length = n) := hn
  rw [hn] at hl ⊢
  clear hn
  go_enter Try.func27, Try.ntmps27
  go_wp2
  go_loopw [3, 7] (fun v i wr => ∃ k : Nat, k ≤ n ∧ i = .int .i64 k ∧ Own wr w.heap.size v (rights (xs.take k)) ∧ Below w.heap.size w wr) (fun _ i _ => n - (intOf i).toNat)
  case atStart => exact ⟨0, Nat.zero_le _, rfl, Own.nil _ _, Below.refl _ _⟩
  case round =>
    obtain ⟨k, hk, rfl, hown, hnx⟩ := hrel
    have hsz := hnx.size
    by_cases hlt : k < n
    · have hkx : k < xs.length := by rw [HN.out]; exact hlt
      obtain ⟨y1, hy1⟩ : ∃ y, xs[k].1 = y := ⟨_, rfl⟩
      obtain ⟨y2, hy2⟩ : ∃ y, xs[k].2 = y := ⟨_, rfl⟩
      have hcc := HC.out k hkx
      rw [hy1, hy2] at hcc
      have c1 : wr.cell? ⟨b, off + k * 2, none⟩ = some (.int .i64 y1) := (hnx.cell (p := ⟨b, off + k * 2, none⟩) hb).trans hcc.1
      have c2 : wr.cell? ⟨b, off + k * 2 + 1, none⟩ = some (.int .i64 y2) := (hnx.cell (p := ⟨b, off + k * 2 + 1, none⟩) hb).trans hcc.2
      have HY : Hid (rights (xs.take (k + 1)) = if rightB y1 y2 = true then rights (xs.take k) ++ [(y1, y2)] else rights (xs.take k)) := by
        unfold Hid; rw [rights_snoc xs k hkx, hy1, hy2, show xs[k] = (y1, y2) from by rw [← hy1, ← hy2]]
      have hbw : b < wr.heap.size := by omega
      clear hcc hy1 hy2
      cases hr : rightB y1 y2
      · go_wp2_with (go_at_call 33; refine (right12 _ _ _).mono ?_; rintro e w' ⟨rfl, rfl⟩; rw [hr])
        go_roundw
        case rel => exact ⟨k + 1, by omega, by go_num, by rw [HY.out, if_neg (by simp [hr])]; exact hown.alloc _, hnx.alloc hsz _⟩
        case measure => simp [intOf]; omega
      · have hlen := rights_len (xs.take k)
        have htk : (xs.take k).length ≤ k := List.length_take_le _ _
        go_wp2_with (first | (go_at_call 33; refine (right12 _ _ _).mono ?_; rintro e w' ⟨rfl, rfl⟩; rw [hr]) | (at_builtin; refine wpList_append_own _ rfl _ _ 57 rfl w.heap.size 27 i0 (.agg #[.int .i64 0, .int .i64 0]) 2 16 Try.underlying57 hi hz0 hz1 hz2 rfl (by decide) _ _ _ rfl (World.ownsRow.alloc (World.ownsRow.alloc hown _) _) ⟨wr.heap.size + 1, 0, none⟩ 1 1 [.int .i64 y1, .int .i64 y2] rfl rfl ?c1 ?c2 ?c3 ?c4 ?c5 ?_))
        case c1 =>
          intro j u hj
          match j, hj with
          | 0, hj => simp at hj; subst hj; simp [Addr.add]
          | 1, hj => simp at hj; subst hj; simp [Addr.add]
        case c2 => intro u hu; simp at hu; rcases hu with rfl | rfl <;> rfl
        case c3 => unfold maxLen; omega
        case c4 => omega
        case c5 => simp; omega
        · intro v' w1 hown' hgrow _
          have R1 : Own w1 w.heap.size v' (rights (xs.take (k + 1))) := by
            rw [HY.out, if_pos hr]
            unfold Own; rw [cells2_append]; simpa [cells2, enc2] using hown'
          have R2 : RowKit.Below w.heap.size w w1 := ((hnx.alloc hsz _).alloc (by simp; omega) _).grown hgrow (by simp; omega) (fun j hj => (World.ownsRow.lt hown j hj).1)
          clear hown' hgrow hown c1 c2 hlen htk
          go_wp2
          go_roundw
          case rel => exact ⟨k + 1, by omega, by go_num, R1, R2⟩
          case measure => simp [intOf]; omega
    · have hkn : k = n := by omega
      subst hkn
      have hown2 : Own wr w.heap.size u3 (rights xs) := by rw [← HN.out, List.take_length] at hown; exact hown
      have hlen := rights_len xs
      rw [HN.out] at hlen
      clear hown
      go_wp2_with (go_at_call 40; refine (sort41 _ _ _ _ hown2 hsz (by omega)).mono ?_; rintro e w' ⟨rfl, ys, hp, hs, ho, hb2⟩)
      go_ret
      exact ⟨_, ys, rfl, hp, hs, ho, hnx.trans hb2⟩

theorem start37 (v : Value) (xs : List (Int × Int)) (w : World) (hl : xs.length ≤ 100000) (h : SRow w v xs) :
    Calls Try.prog 27 #[v] w fun e w' => ∃ v' ys, e = .returned v' ∧ ys.Perm (rights xs) ∧ Rising ys ∧ Own w' w.heap.size v' ys ∧ RowKit.Below w.heap.size w w' := by
  rcases h with ⟨⟨p, cap, rfl⟩, rfl⟩ | ⟨b, off, cap, rfl, h1, h2, h3, h4⟩
  · exact start37_nil p cap w
  · exact start37_some b off cap xs w hl h3 h4

end Go.Proofs.Ythalgnfffcimhaa.Sp
