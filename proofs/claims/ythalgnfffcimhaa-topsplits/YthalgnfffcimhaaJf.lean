/- span.Join: the points of all, as few spans. -/
import Derived.Test.YthalgnfffcimhaaJe
namespace Go.Proofs.Ythalgnfffcimhaa.Sp
open Go.RowKit

/-- an own slice that holds a last one -/
theorem Own.last {w : World} {B : Nat} {v : Value} {ini : List (Int × Int)} {a b : Int} (h : Own w B v (ini ++ [(a, b)])) :
    ∃ g cap, v = .slice (some ⟨g, 0, none⟩) (ini.length + 1) cap ∧ B ≤ g ∧ g < w.heap.size ∧ w.cell? ⟨g, ini.length * 2, none⟩ = some (.int .i64 a) ∧ w.cell? ⟨g, ini.length * 2 + 1, none⟩ = some (.int .i64 b) ∧ w.frozen? ⟨g, ini.length * 2 + 1, none⟩ = false ∧
      ∀ m, Own (w.setCell ⟨g, ini.length * 2 + 1, none⟩ (.int .i64 m)) B v (ini ++ [(a, m)]) := by
  obtain ⟨h1, h2⟩ := h
  rcases h2 with ⟨_, hn⟩ | ⟨g, cap, cur, rfl, hb, hg, hnc, hcm, hcs, htake⟩
  · simp at hn
  · have hl : (ini ++ [(a, b)]).length = ini.length + 1 := by simp
    rw [hl] at htake hnc
    have hlt : ini.length * 2 + 1 < cur.size := by rw [hcs]; omega
    have hc := cells2_get (ini ++ [(a, b)]) ini.length (by simp)
    rw [← htake, List.getElem?_take, if_pos (by omega), List.getElem?_take, if_pos (by omega)] at hc
    simp only [Array.getElem?_toList] at hc
    refine ⟨g, cap, by rw [hl], hb, (Array.getElem?_eq_some_iff.1 hg).1, ?_, ?_, by simp [World.frozen?, hg], fun m => ?_⟩
    · simp only [World.cell?, hg]; simpa using hc.1
    · simp only [World.cell?, hg]; simpa using hc.2
    · refine ⟨cells2_length _, .inr ⟨g, cap, cur.setIfInBounds (ini.length * 2 + 1) (.int .i64 m), by simp, hb, ?_, by simp; omega, hcm, by simp [hcs], ?_⟩⟩
      · simp only [World.setCell, Array.getElem?_modify, hg]
        simp
      · have e1 : (ini ++ [(a, m)]).length * 2 = ini.length * 2 + 1 + 1 := by simp; omega
        have e2 : (ini.length + 1) * 2 = ini.length * 2 + 1 + 1 := by omega
        rw [e2] at htake
        have hcl := cells2_length ini
        rw [e1]
        apply List.ext_getElem?
        intro j
        have hj := congrArg (fun l => l[j]?) htake
        simp only [cells2_append, List.getElem?_take, Array.getElem?_toList] at hj
        simp only [cells2_append, List.getElem?_take, Array.getElem?_toList, Array.getElem?_setIfInBounds]
        have e3 : cells2 [(a, m)] = [Value.int .i64 a, Value.int .i64 m] := rfl
        have e4 : cells2 [(a, b)] = [Value.int .i64 a, Value.int .i64 b] := rfl
        rw [e3]; rw [e4] at hj
        by_cases c1 : j < ini.length * 2
        · rw [List.getElem?_append_left (by omega)] at hj ⊢
          rw [if_pos (by omega)] at hj ⊢
          rw [if_neg (by omega)]; exact hj
        · rw [List.getElem?_append_right (by omega)] at hj ⊢
          rw [hcl] at hj ⊢
          by_cases c2 : j = ini.length * 2
          · subst c2
            rw [if_pos (by omega)] at hj ⊢
            rw [if_neg (by omega), hj]
            simp
          · by_cases c3 : j = ini.length * 2 + 1
            · subst c3
              rw [if_pos (by omega), if_pos rfl, if_pos (by omega)]
              simp
            · rw [if_neg (by omega)]
              rw [List.getElem?_eq_none (by simp; omega)]

theorem Own.setLast {w : World} {B g cg : Nat} {ini : List (Int × Int)} {a b : Int} (h : Own w B (.slice (some ⟨g, 0, none⟩) (ini.length + 1) cg) (ini ++ [(a, b)])) (m : Int) :
    Own (w.setCell ⟨g, ini.length * 2 + 1, none⟩ (.int .i64 m)) B (.slice (some ⟨g, 0, none⟩) (ini.length + 1) cg) (ini ++ [(a, m)]) := by
  obtain ⟨g', cap, hv, _, _, _, _, _, h4⟩ := h.last
  simp only [Value.slice.injEq, Option.some.injEq, Addr.mk.injEq] at hv
  obtain ⟨⟨rfl, _⟩, _⟩ := hv
  exact h4 m

theorem own_cases {w : World} {B : Nat} {v : Value} {xs : List (Int × Int)} (h : Own w B v xs) : (xs = [] ∧ ∃ p cap, v = .slice p 0 cap) ∨ ∃ ini a b, xs = ini ++ [(a, b)] := by
  rcases List.eq_nil_or_concat xs with rfl | ⟨ini, x, rfl⟩
  · left
    obtain ⟨_, h2⟩ := h
    rcases h2 with ⟨rfl, hn⟩ | ⟨g, cap, cur, rfl, _⟩
    · exact ⟨rfl, _, _, rfl⟩
    · exact ⟨rfl, _, _, rfl⟩
  · exact .inr ⟨ini, x.1, x.2, by simp⟩

theorem SRow.form {w : World} {v : Value} {xs : List (Int × Int)} (h : SRow w v xs) : ∃ p cap, v = .slice p xs.length cap ∧
    ∀ i, (hi : i < xs.length) → ∃ b off, p = some ⟨b, off, none⟩ ∧ b < w.heap.size ∧ w.cell? ⟨b, off + i * 2, none⟩ = some (.int .i64 xs[i].1) ∧ w.cell? ⟨b, off + i * 2 + 1, none⟩ = some (.int .i64 xs[i].2) := by
  rcases h with ⟨⟨p, cap, rfl⟩, rfl⟩ | ⟨b, off, cap, rfl, h1, h2, h3, h4⟩
  · exact ⟨p, cap, rfl, fun i hi => by simp at hi⟩
  · exact ⟨_, cap, rfl, fun i hi => ⟨b, off, rfl, h3, h4 i hi⟩⟩

theorem two_new (W : World) (y1 y2 : Int) (n : Nat) (hn : n = W.heap.size) : ∀ j u, [Value.int .i64 y1, Value.int .i64 y2][j]? = some u → (W.alloc (.cells #[.int .i64 y1, .int .i64 y2] 27)).cell? ((⟨n, 0, none⟩ : Addr).add j) = some u := by
  subst hn
  intro j u hj
  match j, hj with
  | 0, hj => simp at hj; subst hj; simp [Addr.add]
  | 1, hj => simp at hj; subst hj; simp [Addr.add]

theorem Own.same {w w' : World} {B : Nat} {v : Value} {xs : List (Int × Int)} (h : Own w B v xs) (he : w'.heap = w.heap) : Own w' B v xs := by
  unfold Own World.ownsRow at *; rw [he]; exact h
theorem drewN_heap (w : World) (n : Nat) : (w.drewN n).heap = w.heap := rfl

set_option maxHeartbeats 1000000 in
theorem join24 (v : Value) (xs : List (Int × Int)) (w : World) (hl : xs.length ≤ 100000) (h : SRow w v xs) :
    Calls Try.prog 12 #[v] w fun e w' => ∃ v' ys, e = .returned v' ∧ Canon ys ∧ (∀ p, Pt ys p ↔ Has xs p) ∧ ys.length ≤ xs.length ∧ Own w' w.heap.size v' ys ∧ Below w.heap.size w w' := by
  obtain ⟨i0, hi, hz0, hz1, hz2⟩ := info_parts' Try.info27
  have hstart : Calls Try.prog 27 #[v] w fun e w' => ∃ p cap n rs, e = .returned (.slice p n cap) ∧ n ≤ 100000 ∧ Hid (n = rs.length ∧ rs.length ≤ xs.length ∧ (∀ x, x ∈ rs → rightB x.1 x.2 = true) ∧ (∀ p, Pt rs p ↔ Has xs p) ∧ Rising rs ∧
      ∀ i, (hi : i < rs.length) → ∃ b off, p = some ⟨b, off, none⟩ ∧ b < w'.heap.size ∧ w'.cell? ⟨b, off + i * 2, none⟩ = some (.int .i64 rs[i].1) ∧ w'.cell? ⟨b, off + i * 2 + 1, none⟩ = some (.int .i64 rs[i].2)) ∧ Below w.heap.size w w' := by
    refine (start37 v xs w hl h).mono ?_
    rintro e w1 ⟨v1, rs, rfl, hp, hs, ho, hb1⟩
    obtain ⟨p, cap, rfl, hf⟩ := ho.srow.form
    have hlr : rs.length ≤ xs.length := by rw [hp.length_eq]; exact rights_len xs
    refine ⟨p, cap, _, rs, rfl, by omega, ⟨rfl, hlr, ?_, fun p => pt_perm hp p, hs, hf⟩, hb1⟩
    intro x hx
    have := hp.mem_iff.1 hx
    simpa [rights] using (List.mem_filter.1 this).2
  clear h
  go_enter Try.func12, Try.ntmps12
  go_wp2_with (go_at_call 27; refine hstart.mono ?_; rintro e w1 ⟨p, cap, n, rs, rfl, hn, HR, hb1⟩)
  clear hstart
  have hw1 := hb1.size
  go_loopw [3, 12] (fun v i wr => ∃ (k : Nat) (acc : List (Int × Int)), k ≤ n ∧ i = .int .i64 k ∧ Own wr w1.heap.size v acc ∧ Joined rs k acc ∧ Below w1.heap.size w1 wr) (fun _ i _ => n - (intOf i).toNat)
  case atStart => exact ⟨0, [], Nat.zero_le _, rfl, Own.nil _ _, Joined.start _, Below.refl _ _⟩
  case round =>
    obtain ⟨k, acc, hk, rfl, hown, hj, hnx⟩ := hrel
    have hsz := hnx.size
    by_cases hlt : k < n
    · obtain ⟨hnr, hlr, hr, hfin, hs, hf⟩ := HR.out
      have hkr : k < rs.length := by omega
      obtain ⟨b, off, hpe, hbl, hc1, hc2⟩ := hf k hkr
      subst hpe
      have c1 : wr.cell? ⟨b, off + k * 2, none⟩ = some (.int .i64 rs[k].1) := (hnx.cell (p := ⟨b, off + k * 2, none⟩) hbl).trans hc1
      have c2 : wr.cell? ⟨b, off + k * 2 + 1, none⟩ = some (.int .i64 rs[k].2) := (hnx.cell (p := ⟨b, off + k * 2 + 1, none⟩) hbl).trans hc2
      have hbw : b < wr.heap.size := by omega
      have hal := hj.len
      clear hc1 hc2 hf
      have JA := fun hlast => hj.add hkr hr hs hlast
      obtain ⟨y1, hy1⟩ : ∃ y, rs[k].1 = y := ⟨_, rfl⟩
      obtain ⟨y2, hy2⟩ : ∃ y, rs[k].2 = y := ⟨_, rfl⟩
      have hy : rs[k] = (y1, y2) := Prod.ext hy1 hy2
      rw [hy1] at c1 JA
      rw [hy2] at c2
      rw [hy] at JA
      rcases own_cases hown with ⟨rfl, q, cq, rfl⟩ | ⟨ini, a, d, rfl⟩
      · have J1 : Hid (Joined rs (k + 1) [(y1, y2)]) := JA (by simp)
        clear JA hj hy hy1 hy2 hr hs hfin HR hnr
        have hown3 : ∀ q', World.ownsRow ((wr.alloc (.cells #[.int .i64 y1, .int .i64 y2] 27)).drewN q') w1.heap.size 27 2 (.slice q 0 cq) 0 [] := fun q' => Own.same (xs := []) (World.ownsRow.alloc hown _) rfl
        go_wp2_with fail
        go_quiet (fail)
        go_wp2_with (at_builtin; refine wpList_append_own _ rfl _ _ 57 rfl w1.heap.size 27 i0 (.agg #[.int .i64 0, .int .i64 0]) 2 16 Try.underlying57 hi hz0 hz1 hz2 rfl (by decide) _ _ _ rfl (World.ownsRow.alloc (hown3 nq) _) ⟨wr.heap.size + 1, 0, none⟩ 1 1 [.int .i64 y1, .int .i64 y2] rfl rfl ?c1 ?c2 ?c3 ?c4 ?c5 ?_)
        case c1 => exact two_new _ _ _ _ (by simp)
        case c2 => intro u hu; simp at hu; rcases hu with rfl | rfl <;> rfl
        case c3 => unfold maxLen; first | omega | (simp; done) | (simp; omega)
        case c4 => first | omega | (simp; done) | (simp; omega)
        case c5 => simp; omega
        · intro v' w2 hown' hgrow _
          have R1 : Own w2 w1.heap.size v' ([] ++ [(y1, y2)]) := by
            unfold Own; rw [cells2_append]; simpa [cells2, enc2] using hown'
          have R2 : Below w1.heap.size w1 w2 := ((below_drewN (hnx.alloc hsz _) nq).alloc (by simp; omega) _).grown hgrow (by simp; omega) (fun j hj => (World.ownsRow.lt hown j hj).1)
          clear hown' hgrow hown hown3 c1 c2
          go_wp2
          go_roundw
          case rel => exact ⟨k + 1, _, by omega, by go_num, R1, J1.out, R2⟩
          case measure => simp [intOf]; omega
      · obtain ⟨g, cg, hve, hBg, hgl, g1, g2, g3, g4⟩ := hown.last
        have hgw : g < wr.heap.size := hgl
        subst hve
        have hgb : ¬ g = b := by omega
        by_cases hle : y1 ≤ d
        · have hd : decide (y1 ≤ d) = true := by simpa using hle
          have J1 : Hid (Joined rs (k + 1) (ini ++ [(a, max d y2)])) := hj.widen hkr hr (by rw [hy1]; exact hle) (by rw [hy2])
          clear JA hj hy hy1 hy2 hr hs hfin HR hnr g4
          simp at hal
          go_wp2_with fail
          go_quiet (fail)
          go_wp2_with fail
          go_region
          go_wp2
          go_roundw
          case rel => exact ⟨k + 1, _, by omega, by go_num, Own.setLast (Own.same (World.ownsRow.alloc hown (.cells #[.int .i64 y1, .int .i64 y2] 27)) rfl) _, J1.out, (below_drewN (hnx.alloc hsz _) _).setCell hBg _⟩
          case measure => simp [intOf]; omega
        · have hd : decide (y1 ≤ d) = false := by simpa using hle
          have J1 : Hid (Joined rs (k + 1) ((ini ++ [(a, d)]) ++ [(y1, y2)])) := JA (fun y hy => by
            have hc := hj.canon.2
            rw [List.pairwise_append] at hc
            have r1 := (rightB_iff _ _).1 (hj.canon.1 (a, d) (by simp))
            rcases List.mem_append.1 hy with hy | hy
            · have := hc.2.2 y hy (a, d) (by simp)
              simp only at *; omega
            · rw [List.mem_singleton.1 hy]; simp only; omega)
          have hown3 : ∀ q', World.ownsRow ((wr.alloc (.cells #[.int .i64 y1, .int .i64 y2] 27)).drewN q') w1.heap.size 27 2 (.slice (some ⟨g, 0, none⟩) (ini.length + 1) cg) (ini.length + 1) (cells2 (ini ++ [(a, d)])) := fun q' => by
            have := Own.same (w' := (wr.alloc (.cells #[.int .i64 y1, .int .i64 y2] 27)).drewN q') (World.ownsRow.alloc hown (.cells #[.int .i64 y1, .int .i64 y2] 27)) rfl
            unfold Own at this; simpa using this
          clear JA hj hy hy1 hy2 hr hs hfin HR hnr g4
          simp at hal
          go_wp2_with fail
          go_quiet (fail)
          go_wp2_with (at_builtin; refine wpList_append_own _ rfl _ _ 57 rfl w1.heap.size 27 i0 (.agg #[.int .i64 0, .int .i64 0]) 2 16 Try.underlying57 hi hz0 hz1 hz2 rfl (by decide) _ _ _ rfl (World.ownsRow.alloc (hown3 nq) _) ⟨wr.heap.size + 1, 0, none⟩ 1 1 [.int .i64 y1, .int .i64 y2] rfl rfl ?c1 ?c2 ?c3 ?c4 ?c5 ?_)
          case c1 => exact two_new _ _ _ _ (by simp)
          case c2 => intro u hu; simp at hu; rcases hu with rfl | rfl <;> rfl
          case c3 => unfold maxLen; first | omega | (simp; done) | (simp; omega)
          case c4 => first | omega | (simp; done) | (simp; omega)
          case c5 => simp; omega
          · intro v' w2 hown' hgrow _
            have R1 : Own w2 w1.heap.size v' ((ini ++ [(a, d)]) ++ [(y1, y2)]) := by
              unfold Own; rw [cells2_append]; simpa [cells2, enc2] using hown'
            have R2 : Below w1.heap.size w1 w2 := ((below_drewN (hnx.alloc hsz _) nq).alloc (by simp; omega) _).grown hgrow (by simp; omega) (fun j hj => (World.ownsRow.lt hown j hj).1)
            clear hown' hgrow hown hown3 c1 c2
            go_wp2
            go_roundw
            case rel => exact ⟨k + 1, _, by omega, by go_num, R1, J1.out, R2⟩
            case measure => simp [intOf]; omega
    · obtain ⟨hnr, hlr, hr, hfin, hs, hf⟩ := HR.out
      have hkn : k = rs.length := by omega
      have hfin2 : ∀ p, Pt acc p ↔ Has xs p := fun p => by rw [hj.pt p, hkn, List.take_length]; exact hfin p
      have hlen : acc.length ≤ xs.length := by have := hj.len; omega
      have hcan := hj.canon
      clear hr hs hf HR
      go_wp2
      go_ret
      exact ⟨_, acc, rfl, hcan, hfin2, hlen, hown.base (by omega), hb1.trans (hnx.mono (by omega))⟩

end Go.Proofs.Ythalgnfffcimhaa.Sp
