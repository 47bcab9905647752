/- live: what must be whatever is asked; short: at most so many bytes. -/
import Derived.Test.YtjppkhphdpbnfaaDoorFold
import Derived.Test.YtjppkhphdpbnfaaDoorName2
import Derived.Test.YtjppkhphdpbnfaaDoorUnq
import Derived.Deep.RegionHeld3
namespace Go.Proofs.YtjppkhphdpbnfaaDoor
open Go.RowKit Go.Lib

/-- The world is good, and what was there when the call began is as it was. -/
def St (w0 w : World) : Prop := Good w ∧ Below w0.heap.size w0 w
theorem St.start {w : World} (h : Good w) : St w w := ⟨h, Below.refl _ _⟩
theorem St.more {w0 w w' : World} (h : St w0 w) (b : Below w.heap.size w w') : St w0 w' := ⟨h.1.below b, bmore h.2 b⟩
theorem St.drew {w0 w : World} (h : St w0 w) : St w0 w.drew := h.more (Below.refl _ _).drew

theorem keep {P : Program} {f : Nat} {args : Array Value} {w0 w : World} {v : Value} (hst : St w0 w) (h : Calls P f args w fun e w' => e = .returned v ∧ Below w.heap.size w w') :
    Calls P f args w fun e w' => e = .returned v ∧ St w0 w' := h.mono (by rintro e w' ⟨h1, h2⟩; exact ⟨h1, hst.more h2⟩)
theorem keepSame {P : Program} {f : Nat} {args : Array Value} {w0 w : World} {v : Value} (hst : St w0 w) (h : Calls P f args w fun e w' => e = .returned v ∧ w' = w) :
    Calls P f args w fun e w' => e = .returned v ∧ St w0 w' := h.mono (by rintro e w' ⟨h1, rfl⟩; exact ⟨h1, hst⟩)

theorem live_len : lenR [195, 164, 98] = 2 := by kernel_rfl
theorem live_front : frontR 1 [195, 164, 98] = [195, 164] := by kernel_rfl
theorem live_key : keyR [115, 101, 108, 101, 99, 116] = true := by decide
theorem live_name : nameR [115, 101, 108, 101, 99, 116] = false := nameR_key live_key
theorem live_fold : foldR [97, 66] = [97, 98] := by decide
theorem live_quote : quoteR [105, 116, 39, 115] = ([39, 105, 116, 39, 39, 115, 39], 0) := by kernel_rfl
theorem live_unq : unq [39, 97, 39, 39, 98, 39, 99] = ([97, 39, 98], 6, 0) := by kernel_rfl

set_option maxRecDepth 100000 in
set_option maxHeartbeats 4000000 in
theorem live10 {w0 w : World} (hst : St w0 w) : Calls Tryd.prog 10 #[] w fun e w' => e = .returned (.bool true) ∧ St w0 w' := by
  have k25 : ∀ w, St w0 w → Calls Tryd.prog 25 #[.string ⟨#[105, 116, 39, 115]⟩] w fun e w' => e = .returned (.tuple #[.string ⟨#[39, 105, 116, 39, 39, 115, 39]⟩, .int .i64 0]) ∧ St w0 w' := fun w h => by
    have := keep h (quote25 ⟨#[105, 116, 39, 115]⟩ w (by decide) h.1)
    rw [show bs ⟨#[105, 116, 39, 115]⟩ = [105, 116, 39, 115] from rfl, live_quote] at this
    exact this
  have k27 : ∀ w, St w0 w → Calls Tryd.prog 27 #[.string ⟨#[39, 97, 39, 39, 98, 39, 99]⟩] w fun e w' => e = .returned (.tuple #[.string ⟨#[97, 39, 98]⟩, .int .i64 6, .int .i64 0]) ∧ St w0 w' := fun w h => by
    have := keep h (unquote27 ⟨#[39, 97, 39, 39, 98, 39, 99]⟩ w (by decide) h.1)
    rw [show bs ⟨#[39, 97, 39, 39, 98, 39, 99]⟩ = [39, 97, 39, 39, 98, 39, 99] from rfl, live_unq] at this
    exact this
  have k17 : ∀ w, St w0 w → Calls Tryd.prog 17 #[.string ⟨#[195, 164, 98]⟩] w fun e w' => e = .returned (.int .i64 2) ∧ St w0 w' := fun w h => by
    have := keep h (len17 ⟨#[195, 164, 98]⟩ w (by decide))
    rw [show bs ⟨#[195, 164, 98]⟩ = [195, 164, 98] from rfl, live_len] at this
    exact this
  have k21 : ∀ w, St w0 w → Calls Tryd.prog 21 #[.string ⟨#[195, 164, 98]⟩, .int .i64 1] w fun e w' => e = .returned (.string ⟨#[195, 164]⟩) ∧ St w0 w' := fun w h => by
    have := keep h (front21 ⟨#[195, 164, 98]⟩ 1 w (by decide))
    rw [show bs ⟨#[195, 164, 98]⟩ = [195, 164, 98] from rfl, show (1 : Int).toNat = 1 from rfl, live_front] at this
    exact this
  have k15 : ∀ w, St w0 w → Calls Tryd.prog 15 #[.string ⟨#[115, 101, 108, 101, 99, 116]⟩] w fun e w' => e = .returned (.bool true) ∧ St w0 w' := fun w h => by
    have := keep h (key15 ⟨#[115, 101, 108, 101, 99, 116]⟩ w (by decide))
    rw [show bs ⟨#[115, 101, 108, 101, 99, 116]⟩ = [115, 101, 108, 101, 99, 116] from rfl, live_key] at this
    exact this
  have k13 : ∀ w, St w0 w → Calls Tryd.prog 13 #[.string ⟨#[115, 101, 108, 101, 99, 116]⟩] w fun e w' => e = .returned (.bool false) ∧ St w0 w' := fun w h => by
    have := keep h (name13 ⟨#[115, 101, 108, 101, 99, 116]⟩ w (by decide))
    rw [show bs ⟨#[115, 101, 108, 101, 99, 116]⟩ = [115, 101, 108, 101, 99, 116] from rfl, live_name] at this
    exact this
  have k19 : ∀ w, St w0 w → Calls Tryd.prog 19 #[.string ⟨#[97, 66]⟩] w fun e w' => e = .returned (.string ⟨#[97, 98]⟩) ∧ St w0 w' := fun w h => by
    have := keep h (fold19 ⟨#[97, 66]⟩ w)
    rw [show bs ⟨#[97, 66]⟩ = [97, 66] from rfl, live_fold] at this
    exact this
  go_enter Tryd.func10, Tryd.ntmps10
  go_wp2_with (first
    | (go_at_call 25; refine (k25 _ hst).mono ?_; rintro e w1 ⟨rfl, hst⟩)
    | (go_at_call 27; refine (k27 _ hst).mono ?_; rintro e w1 ⟨rfl, hst⟩)
    | (go_at_call 17; refine (k17 _ hst).mono ?_; rintro e w1 ⟨rfl, hst⟩)
    | (go_at_call 21; refine (k21 _ hst).mono ?_; rintro e w1 ⟨rfl, hst⟩)
    | (go_at_call 15; refine (k15 _ hst).mono ?_; rintro e w1 ⟨rfl, hst⟩)
    | (go_at_call 13; refine (k13 _ hst).mono ?_; rintro e w1 ⟨rfl, hst⟩)
    | (go_at_call 19; refine (k19 _ hst).mono ?_; rintro e w1 ⟨rfl, hst⟩))
  go_ret
  exact ⟨rfl, hst⟩

set_option maxRecDepth 100000 in
theorem short9 (s : ByteArray) (w : World) : Calls Tryd.prog 9 #[.string s] w fun e w' => e = .returned (.string (str ((bs s).take 300))) ∧ w' = w := by
  by_cases h : 300 < s.size
  · have hz : (300 : Int) < (s.size : Int) := by omega
    go_enter Tryd.func9, Tryd.ntmps9
    go_wp2
    go_ret
    have he : s.extract 0 300 = str ((bs s).take 300) := ext_take s 0 300
    exact ⟨by rw [← he]; rfl, rfl⟩
  · have hz : ¬ ((300 : Int) < (s.size : Int)) := by omega
    rw [List.take_of_length_le (by rw [bs_length]; omega), str_bs]
    go_enter Tryd.func9, Tryd.ntmps9
    go_wp2
    go_ret
    exact ⟨rfl, rfl⟩

end Go.Proofs.YtjppkhphdpbnfaaDoor
