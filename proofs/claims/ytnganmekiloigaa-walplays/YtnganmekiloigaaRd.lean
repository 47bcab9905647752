/- disk.Read. -/
import Derived.Test.YtnganmekiloigaaLat
namespace Go.Proofs.Ytnganmekiloigaa
open Go.RowKit
set_option maxRecDepth 100000
variable {W : World} {d s : Nat} {wv : Value} {D : Dk}

theorem wpList_alloc_row {P : Program} {ops : Array Oper} {rest : List Oper} {o : Oper} {a : Act} {w : World} {Q : Exit → Act → World → Prop} (hg : o.guard = none) (ty : TypeId) (hop : o.op = .alloc ty) (z : List Value) {m k : Nat} (hi : (P.info? ty).map (fun i => (i.zero, i.size, i.bytes)) = some (some (.agg z.toArray), m, k))
    (h : ∀ w', Blk w' w.heap.size z ty → Below w.heap.size w w' → w'.heap.size = w.heap.size + 1 → wpList P ops Q rest (a.put o.dst (.pointer (some ⟨w.heap.size, 0, none⟩))) w') : wpList P ops Q (o :: rest) a w := by
  refine wpList_plain hg fun K hK' => ?_
  unfold Oper.wp
  simp only [execOp, hop, Sem.run_bind, run_alloc_row w ty z hi, Result.andThen_ok, Sem.run_pure]
  exact hK' _ _ (h _ (blk_new w z ty) (al w _) (by simp))
theorem made64 : madeCells #[.int .u8 0] 64 = (cellsB Z64).toArray := by kernel_rfl
theorem info5z : (Try.prog.info? 5).map (fun i => (i.zero, i.size, i.bytes)) = some (some (.int .u8 0), 1, 1) := by kernel_rfl
/-- make([]byte, 64) -/
theorem wpList_make64 {ops : Array Oper} {rest : List Oper} {o : Oper} {a : Act} {w : World} {Q : Exit → Act → World → Prop} (hg : o.guard = none) (x y : Operand) (hop : o.op = .makeSlice 33 x y) (hx : a.eval x = .int .i64 64) (hy : a.eval y = .int .i64 64)
    (h : ∀ w', Blk w' w.heap.size (cellsB Z64) 5 → Below w.heap.size w w' → w'.heap.size = w.heap.size + 1 → wpList Try.prog ops Q rest (a.put o.dst (.slice (some ⟨w.heap.size, 0, none⟩) 64 64)) w') : wpList Try.prog ops Q (o :: rest) a w := by
  refine wpList_plain hg fun K hK' => ?_
  obtain ⟨i0, hi0, hz0, hz1, hz2⟩ := info_parts info5z
  have hmk := run_make (P := Try.prog) w 33 5 i0 _ Try.underlying33 hi0 hz0 .i64 .i64 64 64 (by omega) (Int.le_refl _) (by rw [hz2]; omega) (by omega)
  rw [hz1] at hmk
  unfold Oper.wp
  simp only [execOp, hop, hx, hy, Sem.run_bind, hmk, Result.andThen_ok, Sem.run_pure]
  refine hK' _ _ (h _ ?_ (al w _) (by simp))
  show Blk (w.alloc (.cells (madeCells #[.int .u8 0] 64) 5)) w.heap.size (cellsB Z64) 5
  rw [made64]
  exact blk_new w _ _

theorem latest_length (h : D.Ok) (i : Nat) (hi : i < D.secs.length) : (latest D.secs D.wait i).length = 64 := by
  have hs : (D.secs.getD i []).length = 64 := by
    rw [List.getD_eq_getElem?_getD, List.getElem?_eq_getElem hi]; exact h.secs _ (List.getElem_mem hi)
  have : ∀ l : List (Nat × Bs), (∀ x ∈ l, x.2.length = 64) → (latest D.secs l i).length = 64 := by
    intro l
    induction l with
    | nil => intro _; exact hs
    | cons x r ih =>
      intro h1
      unfold latest
      split
      · exact ih (fun y hy => h1 y (by simp [hy]))
      · split
        · exact h1 x (by simp)
        · exact hs
  exact this D.wait (fun x hx => (h.wait x hx).1)

/-- What a Read hands back: bytes in a block of their own, or none. -/
def Got (W : World) (v : Value) (l : Bs) (W' : World) : Prop := (v = .slice none 0 0 ∧ l = []) ∨ (∃ g, v = .slice (some ⟨g, 0, none⟩) 64 64 ∧ l.length = 64 ∧ Blk W' g (cellsB l) 5 ∧ W.heap.size ≤ g)

set_option maxHeartbeats 1000000 in
theorem read19 (h : PD W d s wv D) (i : Int) (hlen : D.wait.length ≤ 100000) :
    Calls Try.prog 19 #[.pointer (some ⟨d, 0, none⟩), .int .i64 i] W fun e w' => ∃ v, e = .returned (.tuple #[v, .int .i64 (D.read i).2]) ∧ Got W v (D.read i).1 w' ∧ Below W.heap.size W w' := by
  have c53 := reach53 h i
  by_cases hr : D.reach i = 0
  · have hii : 0 ≤ i ∧ i < D.secs.length := by
      unfold Dk.reach at hr
      split at hr
      · omega
      · split at hr
        · assumption
        · omega
    obtain ⟨k, rfl⟩ : ∃ k : Nat, i = (k : Int) := ⟨i.toNat, by omega⟩
    have hk : k < D.secs.length := by omega
    have c54 := callsIn_wide.1 (latest54 Fence.wide 6 trivial trivial trivial rfl (Nat.le_refl _) h k hk hlen)
    rw [show D.read k = (latest D.secs D.wait k, 0) by unfold Dk.read; rw [if_pos hr]; simp]
    have hl : (latest D.secs D.wait k).length = 64 := latest_length h.ok k hk
    generalize latest D.secs D.wait k = b at *
    rw [hr] at c53
    have hb1 : (cellsB b).length = 64 := by rw [cellsB_length, hl]
    have hb2 := cellsB_one b
    have hbi : (Try.prog.info? 91).map (·.size) = some (cellsB b).length := by rw [hb1]; exact info91s
    have hz : (cellsB Z64).length = 64 := by rw [cellsB_length, Z64_length]
    have hsp : splice (cellsB Z64) 0 (cellsB b) = cellsB b := by simp [splice, hz, hb1]
    have HS : Hid (splice (cellsB Z64) 0 (cellsB b) = cellsB b) := hsp
    clear hsp
    have HG : Hid (∀ w' g, Blk w' g (cellsB b) 5 → W.heap.size ≤ g → Got W (.slice (some ⟨g, 0, none⟩) 64 64) b w') := fun w' g h1 h2 => .inr ⟨g, rfl, hl, h1, h2⟩
    generalize cellsB b = cb at *
    go_enter Try.func19, Try.ntmps19
    go_wp2_with (first
      | (go_at_call 53; (refine c53.mono ?_; rintro e w1 ⟨rfl, rfl⟩))
      | (go_at_call 54; (refine c54.mono ?_; rintro e w2 ⟨rfl, hB2⟩))
      | (refine wpList_alloc_row rfl 91 rfl (cellsB Z64) info91z ?_; intro w3 hb3 hB3 hs3)
      | (refine wpList_store_whole rfl 91 (.tmp 7) (.tmp 17) rfl w2.heap.size cb rfl rfl (cellsB Z64) 91 hb3 (by omega) hbi hb2 ?_; intro w4 hb4 hk4 hs4)
      | (refine wpList_make64 rfl _ _ rfl rfl rfl ?_; intro w5 hb5 hB5 hs5; rw [hs4, hs3] at hb5)
      | (skip; (refine wpList_copy_splice (by rfl) (.tmp 19) (.tmp 20) 33 33 (by rfl) 5 Try.underlying33 info5s (some ⟨w2.heap.size + 1, 0, none⟩) (some ⟨w2.heap.size, 0, none⟩) 64 64 64 64 (by rfl) (by rfl) (w2.heap.size + 1) 0 (cellsB Z64) 5 hb5 cb (by rw [hb1]; rfl) (fun _ => ⟨rfl, _, rfl, World.news_of_block (hb4.below hB5)⟩) (by omega) hb2 w4.heap.size w4 hB5 (by omega) ?_; intro w6 hb6 hB6)))
    go_ret2
    have hb7 := hb6.out
    rw [HS.out] at hb7
    have hz2 := hB2.size
    exact ⟨_, rfl, HG.out _ _ hb7 (by omega), hB2.trans (((hB3.mono hz2).trans (hk4.below (by omega) (fun i e => by omega))).trans (hB6.mono (by omega)))⟩
  · rw [show D.read i = ([], D.reach i) by unfold Dk.read; rw [if_neg hr]]
    have HG : Hid (Got W (.slice none 0 0) [] W) := .inl ⟨rfl, rfl⟩
    generalize D.reach i = r at *
    go_enter Try.func19, Try.ntmps19
    go_wp2_with (go_at_call 53; (refine c53.mono ?_; rintro e w1 ⟨rfl, rfl⟩))
    go_ret2
    exact ⟨_, rfl, HG.out, Below.refl _ _⟩
end Go.Proofs.Ytnganmekiloigaa
