/- readAll, greatestEpoch, halfOf, sized. -/
import Derived.Test.YtnganmekiloigaaGn
namespace Go.Proofs.Ytnganmekiloigaa
open Go.RowKit
set_option maxRecDepth 100000
variable {w w' : World} {B d s : Nat} {D : Dk}

/-- All sectors, as they are read. -/
def rdS (D : Dk) : List Bs := (List.range D.secs.length).map fun i => latest D.secs D.wait i
theorem rdS_length (D : Dk) : (rdS D).length = D.secs.length := by simp [rdS]
theorem rdS_get {D : Dk} {m : Nat} (h : m < D.secs.length) : (rdS D)[m]? = some (latest D.secs D.wait m) := by simp [rdS, h]
theorem info141y : (Try.prog.info? 141).map (fun i => (i.zero, i.size)) = some (some (.agg (encPc zPc).toArray), 62) := by kernel_rfl
theorem pc_cells (x : Pc) : EPc.cells [x] = encPc x := by simp [Ety.cells, EPc]
theorem take_step {α : Type} {l : List α} {m : Nat} {x : α} (h : l[m]? = some x) : l.take (m + 1) = l.take m ++ [x] := by
  obtain ⟨h1, rfl⟩ := List.getElem?_eq_some_iff.1 h
  rw [List.take_succ_eq_append_getElem h1]

set_option maxHeartbeats 1000000 in
theorem readAll69 (h : Alone B w d s D []) (hoff : D.off = false) (hw : D.wait.length ≤ 100000) (hn : D.secs.length ≤ 128) :
    Calls Try.prog 69 #[.pointer (some ⟨d, 0, none⟩)] w fun e w' => ∃ u, e = .returned u ∧ RW EPc w.heap.size w' u (pcs (rdS D)) ∧ Below w.heap.size w w' := by
  have c28 : Calls Try.prog 28 #[.pointer (some ⟨d, 0, none⟩)] w fun e w' => e = .returned (.int .i64 (D.secs.length : Int)) ∧ w' = w := by obtain ⟨wv, h1, _⟩ := h; exact size28 h1
  have H19 : Hid (∀ W m, m < D.secs.length → Below w.heap.size w W → Calls Try.prog 19 #[.pointer (some ⟨d, 0, none⟩), .int .i64 (m : Int)] W fun e w' => ∃ g, e = .returned (.tuple #[.slice (some ⟨g, 0, none⟩) 64 64, .int .i64 0]) ∧ Blk w' g (cellsB (latest D.secs D.wait m)) 5 ∧ (latest D.secs D.wait m).length = 64 ∧ Below W.heap.size W w') := fun W m hm k => by
    have hr : D.reach (m : Int) = 0 := by unfold Dk.reach; rw [hoff]; simp; omega
    refine (alone19 (h.below k) (m : Int) hr hw).mono ?_
    rintro e w' ⟨g, rfl, _, _, h1, h2, h3⟩
    have e1 : (D.read (m : Int)).1 = latest D.secs D.wait m := by unfold Dk.read; rw [if_pos hr]; rfl
    rw [e1] at h1 h2
    exact ⟨g, rfl, h1, h2, h3⟩
  have HP : Hid (∀ m, m < D.secs.length → (pcs (rdS D)).take (m + 1) = (pcs (rdS D)).take m ++ [pcOf (latest D.secs D.wait m)]) := fun m hm => take_step (by simp [pcs, rdS_get hm])
  have HL : Hid ((pcs (rdS D)).length = D.secs.length) := by show _ = _; simp [pcs, rdS_length]
  clear h hoff hw
  generalize D.secs.length = n at *
  generalize pcs (rdS D) = L at *
  go_enter Try.func69, Try.ntmps69
  go_wp2_with (go_at_call 28; (refine c28.mono ?_; rintro e w0 ⟨rfl, rfl⟩))
  go_loopw [3, 9] (fun u p wr => ∃ m : Nat, m ≤ n ∧ p = .int .i64 (m : Int) ∧ Hid (RW EPc w0.heap.size wr u (L.take m)) ∧ Below w0.heap.size w0 wr) (fun _ p _ => n - (intOf p).toNat)
  case atStart => exact ⟨0, by omega, rfl, RW.nil _ _ _, Below.refl _ _⟩
  case round =>
    obtain ⟨m, hm, rfl, hU, hB⟩ := hrel
    by_cases hlt : m < n
    · have hlt1 : (m : Int) < (n : Int) := by omega
      have k19 := H19.out _ m hlt hB
      have HP1 : Hid _ := HP.out m hlt
      have HL2 : (L.take m).length ≤ 128 := by rw [List.length_take]; omega
      obtain ⟨ua, uc, rfl, _⟩ := hU.out.form
      generalize (L.take m).length = k at *
      have HA : Hid (∀ W x, Below wr.heap.size wr W → ∃ u' w', (Builtin.append_ #[106, 106] 106 #[.slice ua k uc, .slice (some ⟨W.heap.size, 0, none⟩) 1 1]).run Try.prog (W.alloc (.cells (encPc x).toArray 141)) = .ok u' w' ∧ RW EPc w0.heap.size w' u' (L.take m ++ [x]) ∧ Below w0.heap.size w0 w') := fun W x k => by
        obtain ⟨u', w', h1, h2, h3⟩ := rw_app ((hU.out.below k).below (al W (.cells (encPc x).toArray 141))) (lv_blk EPc (L := [x]) (by rw [pc_cells]; exact blk_new W (encPc x) 141) 1 (by simp)) (by simp; omega) (by have := k.size; have := hB.size; simp; omega)
        exact ⟨u', w', h1, h2, (hB.trans ((k.trans ((al W _).mono k.size)).mono hB.size)).trans h3⟩
      go_wp2_with (first
        | (go_at_call 19; (refine k19.mono ?_; rintro e w1 ⟨g, rfl, hb1, hl1, B1⟩; have k98 := accept98 w1; have k99 := pieceIn99 hl1 hb1))
        | (go_at_call 98; (refine k98.mono ?_; rintro e w2 ⟨rfl, rfl⟩))
        | (go_at_call 99; (refine k99.mono ?_; rintro e w3 ⟨rfl, B3⟩; have kA := HA.out _ (pcOf (latest D.secs D.wait m)) (bmore B1 B3)))
        | (refine wpList_buildSlice1 rfl 106 141 (.tmp 22) rfl (encPc (pcOf (latest D.secs D.wait m))) rfl (.agg (encPc zPc).toArray) und106 (by rw [encPc_length]; exact info141y) (by rw [encPc_length]; exact encPc_length _) (by rw [encPc_length]; omega) (by rw [encPc_length]; omega) ?_; rintro _ rfl)
        | (refine wpList_append_ex rfl (.tmp 20) (.tmp 23) 106 rfl _ _ rfl rfl kA ?_; rintro u5 w5 ⟨hU5, hB5⟩))
      go_roundw
      case rel => exact ⟨m + 1, by omega, by simp, by rw [HP1.out]; exact hU5, hB5⟩
      case measure => simp only [intOf]; omega
    · have hlt1 : ¬ (m : Int) < (n : Int) := by omega
      obtain rfl : m = n := by omega
      go_wp2
      go_ret
      refine ⟨_, rfl, ?_, hB⟩
      have := hU.out
      rw [List.take_of_length_le (by rw [HL.out]; omega)] at this
      exact this
end Go.Proofs.Ytnganmekiloigaa
