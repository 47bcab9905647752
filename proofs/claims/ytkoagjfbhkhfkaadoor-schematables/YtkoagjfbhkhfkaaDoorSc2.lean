/- The reference's Children, Tables. -/
import Derived.Test.YtkoagjfbhkhfkaaDoorSb
namespace Go.Proofs.YtkoagjfbhkhfkaaDoor
open Go.RowKit Go.Lib
set_option maxRecDepth 100000
variable {w w' : World} {Q : Nat → Prop} {r : Nat} {lv : Value} {L : List Tv}
def chR (L : List Tv) (s : Bs) : List ByteArray := if s = [] then [] else (L.filter (fun x => x.1.p == s)).map fun x => str x.1.n
theorem chR_nil (s : Bs) : chR [] s = [] := by simp [chR]
theorem chR_empty (L : List Tv) : chR L [] = [] := by simp [chR]
theorem chR_len (L : List Tv) (s : Bs) : (chR L s).length ≤ L.length := by
  unfold chR
  split
  · simp
  · rw [List.length_map]; exact List.length_filter_le _ _
theorem chR_yes (L : List Tv) {s : Bs} {x : Tv} (h0 : s ≠ []) (h : x.1.p = s) : chR (L ++ [x]) s = chR L s ++ [str x.1.n] := by simp [chR, h0, h]
theorem chR_no (L : List Tv) {s : Bs} {x : Tv} (h : ¬ x.1.p = s) : chR (L ++ [x]) s = chR L s := by simp [chR, h]
set_option maxHeartbeats 2000000 in
theorem rchildren31 (h : RCat Q w r lv L) (s : ByteArray) : Calls Tryd.prog 31 #[.pointer (some ⟨r, 0, none⟩), .string s] w (XPost w (chR L (bs s))) := by
  have hfew := h.few
  have e0 := h.blk.here (j := 0) rfl
  have HC : Hid (∀ w1, Below w.heap.size w w1 → RCat Q w1 r lv L) := fun w1 h1 => h.below h1
  obtain ⟨⟨a, cp, rfl, _, hat⟩, _⟩ := h.tl
  obtain ⟨N, hN⟩ : ∃ N, L.length = N := ⟨_, rfl⟩
  have HNN : Hid (L.length = N) := hN
  have HA : Hid (0 < L.length → ∃ g o, a = some ⟨g, o, none⟩ ∧ g < w.heap.size ∧ (g ≠ r ∧ Q g) ∧ TabsAt w g o L) := hat
  obtain ⟨i9, hi9, hzz⟩ := Option.map_eq_some_iff.1 info9
  simp only [Prod.mk.injEq] at hzz
  obtain ⟨hz9, hs9, hb9⟩ := hzz
  rw [hN] at e0 hfew
  have hrl := h.blk.lt
  clear hN hat
  go_enter Tryd.func31, Tryd.ntmps31
  go_wp2
  go_loopw [5, 6] (fun v q wr => ∃ (k : Nat) (va : Option Addr) (vn vc : Nat), k ≤ N ∧ q = .int .i64 (k : Int) ∧ v = .slice va vn vc ∧ Hid (vn = (chR (L.take k) (bs s)).length ∧ wr.ownsRow w.heap.size 9 1 (.slice va vn vc) (chR (L.take k) (bs s)).length ((chR (L.take k) (bs s)).map Value.string) ∧ Below w.heap.size w wr)) (fun _ q _ => N - (RowKit.intOf q).toNat)
  case atStart => exact ⟨0, none, 0, 0, by omega, rfl, rfl, by simp [chR], by simp only [List.take_zero, chR_nil]; exact ⟨rfl, .inl ⟨rfl, rfl⟩⟩, Below.refl _ _⟩
  case round =>
    obtain ⟨k, va, vn, vc, hk, rfl, rfl, HO⟩ := hrel
    have hB := HO.out.2.2
    have HOW : Hid (∀ w1, Below wr.heap.size wr w1 → w1.ownsRow w.heap.size 9 1 (.slice va vn vc) vn ((chR (L.take k) (bs s)).map Value.string)) := fun w1 hb => by
      have h7 := ownsRow_below HO.out.2.1 hb
      rwa [← HO.out.1] at h7
    have e1 := (HC.out wr hB).blk.here (j := 0) rfl
    rw [HNN.out] at e1
    by_cases hlt : k < N
    · have hlt1 : (k : Int) < (N : Int) := by omega
      have hlt0 : (0 : Int) ≤ (k : Int) := by omega
      obtain ⟨x, hx⟩ : ∃ x, L[k]? = some x := ⟨_, List.getElem?_eq_getElem (by rw [HNN.out]; exact hlt)⟩
      obtain ⟨g, o, rfl, hgl, _, hco⟩ := HA.out (by rw [HNN.out]; omega)
      have c0 := (hB.cell (p := ⟨g, o + k * 4, none⟩) hgl).trans (hco k x hx).1
      have c2 := (hB.cell (p := ⟨g, o + k * 4 + 2, none⟩) hgl).trans (hco k x hx).2.2.1
      have HT : Hid (L.take (k + 1) = L.take k ++ [x]) := by
        show _ = _
        have hk2 := List.getElem?_eq_some_iff.1 hx
        rw [List.take_succ_eq_append_getElem hk2.1, hk2.2]
      have HL : Hid ((chR (L.take k) (bs s)).length ≤ 3) := by
        show _ ≤ _
        have h1 := chR_len (L.take k) (bs s)
        rw [List.length_take, HNN.out] at h1
        omega
      have HVN : Hid (vn = (chR (L.take k) (bs s)).length) := HO.out.1
      clear hco hx
      by_cases hp : x.1.p = bs s
      · have hps : str x.1.p = s := by rw [hp, str_bs]
        rw [hps] at c2
        have HP : Hid (x.1.p = bs s) := hp
        clear hp hps
        by_cases hs0 : bs s = []
        · obtain rfl : s = ⟨#[]⟩ := by have := congrArg str hs0; rw [str_bs] at this; exact this
          have HS0 : Hid (bs ⟨#[]⟩ = []) := hs0
          clear hs0
          go_wp2
          go_roundw
          case rel =>
            refine ⟨k + 1, _, _, _, by omega, by simp, rfl, ?_⟩
            show _ ∧ _ ∧ _
            have h8 := HO.out
            simp only [HS0.out, chR_empty] at h8 ⊢
            exact h8
          case measure => simp [RowKit.intOf]; omega
        · have hem : s.toList.isEmpty = false := by
            rw [toList_data]
            cases hb : bs s with
            | nil => exact absurd hb hs0
            | cons x t => rw [show s.data.toList = x :: t from hb]; rfl
          have HS0 : Hid (bs s ≠ []) := hs0
          clear hs0
          obtain ⟨xs, hxs⟩ : ∃ xs, str x.1.n = xs := ⟨_, rfl⟩
          have HXS : Hid (str x.1.n = xs) := hxs
          rw [hxs] at c0
          clear hxs
          go_wp2_with (at_builtin; (refine wpList_append_lies _ rfl (.tmp 34) (.tmp 43) 51 rfl w.heap.size 9 i9 _ 1 16 Tryd.underlying51 hi9 hz9 hs9 hb9 rfl (by decide) (.slice va vn vc) vn _ rfl (HOW.out _ (al _ _)) ⟨wr.heap.size, 0, none⟩ 1 1 [.string xs] rfl rfl (World.news_of_block (blk_new wr [.string xs] 9)) (by simp [Value.oneCell']) (by decide) (by have := HL.out; have := HVN.out; unfold maxLen; omega) (by have := HL.out; have := HVN.out; omega) (bal hB _).size _ rfl ?_; intro g2 cap2 w2 hown2 hgr2 hat2 hlt2))
          go_roundw
          case rel =>
            refine ⟨k + 1, _, _, _, by omega, by simp, rfl, ?_⟩
            show _ ∧ _ ∧ _
            have hch : chR (L.take (k + 1)) (bs s) = chR (L.take k) (bs s) ++ [str x.1.n] := by rw [HT.out]; exact chR_yes _ HS0.out HP.out
            rw [hch, List.length_append, ← HVN.out, List.map_append]
            refine ⟨rfl, ?_, (bal hB _).grown hgr2 (bal hB _).size (fun k hk => (ownsRow_ge HO.out.2.1 hk).1)⟩
            rw [HXS.out]
            exact hown2
          case measure => simp [RowKit.intOf]; omega
      · have hps : str x.1.p ≠ s := fun e => hp (str_inj e)
        have hnd2 := ne_list hps
        have HP : Hid (¬ x.1.p = bs s) := hp
        clear hp hps
        generalize str x.1.p = xp at *
        go_wp2
        go_roundw
        case rel =>
          refine ⟨k + 1, _, _, _, by omega, by simp, rfl, ?_⟩
          show _ ∧ _ ∧ _
          have hch : chR (L.take (k + 1)) (bs s) = chR (L.take k) (bs s) := by rw [HT.out]; exact chR_no _ HP.out
          rw [hch]
          exact HO.out
        case measure => simp [RowKit.intOf]; omega
    · have hlt1 : ¬ (k : Int) < (N : Int) := by omega
      go_wp2
      go_ret
      obtain ⟨h1, h2, h3⟩ := HO.out
      rw [List.take_of_length_le (by rw [HNN.out]; omega)] at h2
      exact show XPost _ _ _ _ from ⟨⟨_, rfl, SX.own h2, _, h2⟩, h3⟩
end Go.Proofs.YtkoagjfbhkhfkaaDoor
