/- Both at once: same. -/
import Derived.Test.YtgimjjlkniplnaaUa
import Derived.Test.YtgimjjlkniplnaaUb
namespace Go.Proofs.Ytgimjjlkniplnaa
open Go.RowKit Go.Shelf
set_option maxRecDepth 100000
theorem range_len (kv : List Pr) (fr to : ByteArray) (mo : Int) : (rangeP kv fr to mo).length ≤ kv.length := by
  rw [range_eq, List.length_take]
  exact Nat.le_trans (Nat.min_le_right _ _) (List.length_filter_le _ _)
set_option maxHeartbeats 1000000 in
theorem same9 {w : World} {B x r : Nat} {kv : List Pr} (h : Two w B x r kv) : Calls Try.prog 9 #[.pointer (some ⟨x, 0, none⟩), .pointer (some ⟨r, 0, none⟩)] w fun e w' => e = .returned (.bool true) ∧ Below w.heap.size w w' := by
  have HT : Hid (Two w B x r kv) := h
  have HLn : Hid (kv.length ≤ 800) := h.tt.few
  obtain ⟨hh, n, y, htp⟩ := h.tt.tp
  have k17 := range17 htp ⟨#[]⟩ ⟨#[]⟩ 1000
  obtain ⟨a, c, hri⟩ := h.ri
  have HRI : Hid (RI w r a c kv) := hri
  have HK : Hid ((rangeP kv ⟨#[]⟩ ⟨#[]⟩ 1000).length ≤ 1000) := Nat.le_trans (range_len _ _ _ _) (Nat.le_trans HLn.out (by decide))
  generalize hL : rangeP kv ⟨#[]⟩ ⟨#[]⟩ 1000 = L at *
  have H18 : Hid (∀ W, Below w.heap.size w W → Calls Try.prog 18 #[.pointer (some ⟨r, 0, none⟩), .string ⟨#[]⟩, .string ⟨#[]⟩, .int .i64 1000] W (RgPost W L)) := fun W hW => by
    have := rrange18 (HRI.out.below hW) (Nat.le_trans HLn.out (by decide)) ⟨#[]⟩ ⟨#[]⟩ 1000
    rw [hL] at this
    exact this
  have H28 : Hid (∀ W, Below w.heap.size w W → Calls Try.prog 28 #[.pointer (some ⟨r, 0, none⟩)] W fun e w' => e = .returned (.int .i64 (kv.length : Int)) ∧ W = w') := fun W hW => rlen28 (HRI.out.below hW)
  clear h htp hri hL
  unfold RgPost at k17
  go_enter Try.func9, Try.ntmps9
  go_wp2_with (first
    | (go_at_call 17; (with_reducible refine k17.mono ?_); rintro e w1 ⟨v1, rfl, L1, B1⟩; have k18 := H18.out _ B1; unfold RgPost at k18; have HL1 : Hid (LV EP w1 v1 L) := L1; clear L1)
    | (go_at_call 18; (with_reducible refine k18.mono ?_); rintro e w2 ⟨v2, rfl, L2, B2⟩; have k16 := same16 (HL1.out.below B2) L2 HK.out; clear k18 k17)
    | (go_at_call 16; (with_reducible refine k16.mono ?_); rintro e w3 ⟨rfl, B3⟩; clear k16; have F3 := bmore (bmore B1 B2) B3)
    | (go_at_call 26; (with_reducible refine (len26 (HT.out.tt.below F3)).mono ?_); rintro e w4 ⟨rfl, B4⟩; have F4 := bmore F3 B4)
    | (go_at_call 28; (with_reducible refine (H28.out _ F4).mono ?_); rintro e w5 ⟨rfl, rfl⟩))
  go_ret
  exact ⟨by first | rfl | simp, F4⟩
end Go.Proofs.Ytgimjjlkniplnaa
