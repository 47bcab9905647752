/- Values: value.Right, value.Compare, and the reference's. -/
import Derived.Test.YtipnaphikbjhbaaDoorUnq
import Derived.Test.YtipnaphikbjhbaaDoorOrd
namespace Go.Proofs.YtipnaphikbjhbaaDoor
open Go.RowKit Go.Lib

/-- A value as the program holds it. -/
abbrev V (k n : Int) (s : ByteArray) : Value := .agg #[.int .u8 k, .int .i64 n, .string s]
/-- The world is good, and what was there when the call began is as it was. -/
def St (w0 w : World) : Prop := Good w ∧ Below w0.heap.size w0 w
theorem St.start {w : World} (h : Good w) : St w w := ⟨h, Below.refl _ _⟩
theorem St.more {w0 w w' : World} (h : St w0 w) (b : Below w.heap.size w w') : St w0 w' := ⟨h.1.below b, bmore h.2 b⟩
theorem St.alloc {w0 w : World} (h : St w0 w) (o : Obj) : St w0 (w.alloc o) := h.more ((Below.refl _ _).alloc (Nat.le_refl _) o)
theorem St.drew {w0 w : World} (h : St w0 w) : St w0 w.drew := h.more (Below.refl _ _).drew
theorem keep {P : Program} {f : Nat} {args : Array Value} {w0 w : World} {v : Value} (hst : St w0 w) (h : Calls P f args w fun e w' => e = .returned v ∧ Below w.heap.size w w') :
    Calls P f args w fun e w' => e = .returned v ∧ St w0 w' := h.mono (by rintro e w' ⟨h1, h2⟩; exact ⟨h1, hst.more h2⟩)
theorem keepSame {P : Program} {f : Nat} {args : Array Value} {w0 w : World} {v : Value} (hst : St w0 w) (h : Calls P f args w fun e w' => e = .returned v ∧ w' = w) :
    Calls P f args w fun e w' => e = .returned v ∧ St w0 w' := h.mono (by rintro e w' ⟨h1, rfl⟩; exact ⟨h1, hst⟩)

theorem empty_test (s : ByteArray) : s.toList.isEmpty = decide (bs s = []) := by
  rw [toList_data]
  cases h : bs s with
  | nil => rw [show s.data.toList = [] from h]; rfl
  | cons b t => rw [show s.data.toList = b :: t from h]; rfl

set_option maxRecDepth 100000 in
set_option maxHeartbeats 2000000 in
theorem rightv13 (k n : Int) (s : ByteArray) (w : World) (hs : s.size < 4611686018427387904) (hg : Good w) :
    Calls Tryd.prog 74 #[V k n s] w fun e w' => e = .returned (.bool (rightV k n (bs s))) ∧ Below w.heap.size w w' := by
  have hA : ∀ o, Below w.heap.size w (w.alloc o) := fun o => (Below.refl _ _).alloc (Nat.le_refl _) o
  have et := empty_test s
  by_cases h1 : k = 1
  · subst h1
    rw [rightV_int, ← et]
    clear et
    go_enter Tryd.func74, Tryd.ntmps74
    go_wp2
    go_ret
    exact ⟨rfl, hA _⟩
  · by_cases h2 : k = 2
    · subst h2
      rw [rightV_text]
      clear et
      by_cases hn : n = 0
      · subst hn
        have c28 : ∀ w1, Good w1 → Calls Tryd.prog 71 #[.string s] w1 fun e w' => e = .returned (.bool (rightR (bs s))) ∧ Below w1.heap.size w1 w' := fun w1 h => right12 s w1 hs h
        go_enter Tryd.func74, Tryd.ntmps74
        go_wp2_with (go_at_call 71; refine (c28 _ (hg.below (hA _))).mono ?_; rintro e w1 ⟨rfl, hb⟩)
        go_ret
        exact ⟨by simp, bmore (hA _) hb⟩
      · have hf : (decide (n = 0) && rightR (bs s)) = false := by simp [hn]
        rw [hf]
        have hnb : (n == 0) = false := by simpa using hn
        go_enter Tryd.func74, Tryd.ntmps74
        go_wp2
        go_ret
        exact ⟨rfl, hA _⟩
    · rw [rightV_none h1 h2]
      have b1 : (k == 1) = false := by simpa using h1
      have b2 : (k == 2) = false := by simpa using h2
      clear et
      go_enter Tryd.func74, Tryd.ntmps74
      go_wp2
      go_ret
      exact ⟨rfl, hA _⟩




end Go.Proofs.YtipnaphikbjhbaaDoor
