/- The law DiskSome, for every argument. -/
import Derived.Test.YtffkpomnbanaoaaSm
namespace Go.Proofs.Ytffkpomnbanaoaa
open Go.RowKit
set_option maxRecDepth 100000

theorem deed_ok {D : Dk} (h : D.Ok) (k i : Int) (hi : -9223372036854775808 ≤ i ∧ i ≤ 9223372036854775807) (l : Bs) (kl : List Bool) : (D.deed k i l kl).Ok := by
  unfold Dk.deed
  split
  · exact h.write i _
  · split
    · exact h.flush
    · split
      · exact h.doCut hi.2
      · split
        · exact h.crash _
        · exact h
theorem played_ok : ∀ (l : List Deed), (∀ x ∈ l, -9223372036854775808 ≤ x.2.1 ∧ x.2.1 ≤ 9223372036854775807) → (played l).Ok := by
  have : ∀ (l : List Deed) (D : Dk), D.Ok → (∀ x ∈ l, -9223372036854775808 ≤ x.2.1 ∧ x.2.1 ≤ 9223372036854775807) → (l.foldl (fun D x => D.deed x.1 x.2.1 x.2.2.1 x.2.2.2) D).Ok := by
    intro l
    induction l with
    | nil => intro D h _; exact h
    | cons x l ih =>
      intro D h hl
      exact ih _ (deed_ok h _ _ (hl x (by simp)) _ _) (fun y hy => hl y (by simp [hy]))
  exact fun l hl => this l _ (newDk_ok 4) hl
theorem InD.range {B0 : Nat} {W : World} {v : Value} {l : List Deed} (h : InD B0 W v l) : ∀ x ∈ l, -9223372036854775808 ≤ x.2.1 ∧ x.2.1 ≤ 9223372036854775807 := fun x hx => by
  obtain ⟨a, c, _, _, h3⟩ := h
  obtain ⟨j, hj⟩ := List.getElem?_of_mem hx
  obtain ⟨b, o, _, _, hall⟩ := h3 (List.length_pos_of_mem hx)
  obtain ⟨_, _, _, _, _, hr⟩ := hall j x hj
  exact hr
theorem crash_secs64 {D : Dk} (h : D.Ok) (kl : List Bool) : ∀ x ∈ (D.crash kl).secs, x.length = 64 := land_ok _ _ _ _ h.secs (fun x hx => (h.wait x hx).1)

theorem some5 (W : World) (v : Value) (l : List Deed) (hv : InD W.heap.size W v l) (x0 x1 : UInt8) (k0 k1 : Bool) :
    Calls Try.prog 5 #[v, .agg #[.int .u8 (x0.toNat : Int), .int .u8 (x1.toNat : Int)], .agg #[.bool k0, .bool k1]] W fun e w' => e = .returned (.bool true) ∧ Below W.heap.size W w' := by
  have hC := calm_crash (l.take 40)
  have hps := played_secs (l.take 40)
  have hpl : (l.take 40).length ≤ 40 := by rw [List.length_take]; omega
  have hok := played_ok (l.take 40) (fun x hx => hv.range x (List.mem_of_mem_take hx))
  have h64 := crash_secs64 hok []
  have c15 : ∀ w, Below W.heap.size W w → _ := fun w hB => play15 (W := w) v l (hv.up hB)
  obtain ⟨va, vc, rfl, _⟩ := hv
  generalize played (l.take 40) = Dq at *
  obtain ⟨D1, e1⟩ : ∃ D1, Dq.crash [] = D1 := ⟨_, rfl⟩
  rw [e1] at hC h64
  obtain ⟨f1, f2⟩ := some_sector hC x0 x1 k0 k1
  have hlb : (D1.secs.getD 2 []).length = 64 := by
    rw [List.getD_eq_getElem?_getD, List.getElem?_eq_getElem (by rw [hC.secs]; omega)]
    exact h64 _ (List.getElem_mem _)
  obtain ⟨y, hy⟩ : ∃ y : UInt8, (cellsB (D1.secs.getD 2 []))[0]? = some (.int .u8 (y.toNat : Int)) := ⟨_, cellsB_get _ 0 (by omega)⟩
  have w2 := calm_write hC.secs hC.off hC.cut x0
  rw [hC.wait] at w2
  have w3 := calm_write (D := { D1 with wait := [(2, pad [x0])] }) hC.secs hC.off hC.cut x1
  refine some_walk W va l.length vc x0 x1 k0 k1 Dq D1 { D1 with wait := [(2, pad [x0])] } { D1 with wait := [(2, pad [x0]), (2, pad [x1])] } _ (D1.secs.getD 2 []) _ y c15 e1 w2 w3 rfl (calm_reach hC.secs hC.off) f1 (calm_read hC.secs hC.off hC.wait) f2 hy ?_ (by omega) (by rw [hC.wait]; simp) (by simp) (by simp) (by simp [Dk.crash])
  cases k0 <;> cases k1
  · exact hy
  · exact pad_first x1
  · exact pad_first x0
  · exact pad_first x1
end Go.Proofs.Ytffkpomnbanaoaa
