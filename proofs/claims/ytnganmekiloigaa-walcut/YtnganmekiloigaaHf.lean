/- For write: helpers in a round's fence; what a Write of a piece leaves. -/
import Derived.Test.YtnganmekiloigaaHe
namespace Go.Proofs.Ytnganmekiloigaa
open Go.RowKit
set_option maxRecDepth 100000
section
variable {P : Program} {ops : Array Oper} {Q : Exit → Act → World → Prop} {S : World → Prop}
/-- An operation in a round's fence, by what it comes to outside of one. -/
theorem wpListIn_of_step {l n : Nat} {rest : List Oper} {o : Oper} {a : Act} {w : World} (hg : o.guard = none) (hnd : ∀ c, o.op ≠ .defer c)
    (h : ∀ K : Act → World → Prop, (∀ a w, wpListIn (Fence.wide.inRound l) n P ops Q rest a w → K a w) → if Region.wanted o (yielded ops a.tmps) = true then Oper.wp P o a w K Q else True) : wpListIn (Fence.wide.inRound l) n P ops Q (o :: rest) a w :=
  wpListIn_plain hg fun K hK => Oper.wpIn_inRound hnd (by
    have := h K hK
    rw [if_pos (by simp [Region.wanted, hg])] at this
    exact this)
/-- A region that draws, in a round's fence. -/
theorem wpIn_region_held_round {l n id : Nat} {a : Act} {w : World} (hm : P.follows .mixedOrders = true) (hd : noDefer ops = true) (hno : ¬ LetsOut Q) (hS : S w.drew)
    (h : S w.drew → wpAnyH P .any ops Q S ops.size (Array.replicate ops.size false) a w.drew) : (Code.region id ops true).wpIn (Fence.wide.inRound l) n P Q a w :=
  wpIn_region_any hm (wpAnyIn_inRound hno (noDefer_spec hd) _ _ _ _ (wpAny_of_held _ _ _ _ (h hS)))
end
theorem pieceP_ok {l : Bs} {e p i : Nat} (he : e < 65536) (hp : p + i < 65536) (hi : i < np l) (hl : l.length ≤ 3648) : (pieceP l e p i).Ok := by
  have hn : np l ≤ 64 := by unfold np; omega
  have hpl : (partOf l i).length ≤ 57 := by rw [part_length]; omega
  exact ⟨he, hp, by show i < 256; omega, by show np l < 256; omega, by show (partOf l i).length < 256; omega, pad57_length hpl⟩
theorem secX_piece (l : Bs) (e p i : Nat) : secX (pieceP l e p i) = secOf e (p + i) i (np l) (partOf l i) := rfl
/-- A disk with more that waits. -/
def Dk.more (D : Dk) (b : Nat) (X : List Bs) : Dk := { D with wait := D.wait ++ waitOf b X }
theorem more_write {D : Dk} {b : Nat} {X : List Bs} {x : Bs} (hc : D.cut = false) (ho : D.off = false) (hx : x.length = 64) (hb : b + X.length < D.secs.length) : (D.more b X).write ((b + X.length : Nat) : Int) x = (0, D.more b (X ++ [x])) := by
  have hr : (D.more b X).reach ((b + X.length : Nat) : Int) = 0 := by
    unfold Dk.reach Dk.more
    simp only [ho, Bool.false_eq_true, if_false]
    rw [if_pos ⟨by omega, by omega⟩]
  have hsp : (D.more b X).spend = (true, D.more b X) := by unfold Dk.spend Dk.more; rw [if_neg (by simp [hc])]
  unfold Dk.write
  rw [if_pos hr, if_pos (by omega), hsp]
  simp only [if_true]
  unfold Dk.more
  simp [waitOf_append, waitOf, pad, hx]
  omega
theorem lay_take {e p i : Nat} {l : Bs} (hi : i < np l) : (layP e p l).take (i + 1) = (layP e p l).take i ++ [secOf e (p + i) i (np l) (partOf l i)] := take_step (lay_get hi)
/-- pieces: the function, and its boxes. -/
theorem pieces102 (a : Option Addr) (n c : Nat) (e p : Int) (W : World) : Calls Try.prog 102 #[.slice a n c, .int .i64 e, .int .i64 p] W fun e' w' => e' = .returned (.func (.func 110) #[] #[.pointer (some ⟨W.heap.size, 0, none⟩), .pointer (some ⟨W.heap.size + 1, 0, none⟩), .pointer (some ⟨W.heap.size + 2, 0, none⟩)]) ∧ w' = ((W.alloc (.cells #[.slice a n c] 33)).alloc (.cells #[.int .i64 e] 3)).alloc (.cells #[.int .i64 p] 3) := by
  go_enter Try.func102, Try.ntmps102
  go_wp2
  go_ret
  exact ⟨rfl, rfl⟩
end Go.Proofs.Ytnganmekiloigaa
