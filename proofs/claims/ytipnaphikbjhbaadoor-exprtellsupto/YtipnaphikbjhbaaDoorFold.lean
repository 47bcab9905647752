/- word.Fold and the reference's. -/
import Derived.Test.YtipnaphikbjhbaaDoorHlp
import Derived.Lib.OthersKept
import Derived.Lib.SmallJoins
namespace Go.Proofs.YtipnaphikbjhbaaDoor
open Go.RowKit Go.Lib Go.Joins

set_option maxRecDepth 100000 in
set_option maxHeartbeats 2000000 in
theorem fold20 (s : ByteArray) (w : World) (hs : s.size ≤ 100000) :
    Calls Tryd.prog 62 #[.string s] w fun e w' => e = .returned (.string (str (foldR (bs s)))) ∧ Below w.heap.size w w' := by
  obtain ⟨B, hBw⟩ : ∃ B, w.heap.size = B := ⟨_, rfl⟩
  rw [hBw]
  go_enter Tryd.func62, Tryd.ntmps62
  go_wp2
  go_loopw [3, 4] (fun v i wr => ∃ k : Nat, k ≤ s.size ∧ i = .int .i64 (k : Int) ∧ BRow B v (foldR ((bs s).take k)) wr ∧ Below B w wr) (fun _ i _ => s.size - (Lib.intOf i).toNat)
  case atStart => exact ⟨0, Nat.zero_le _, rfl, BRow.none _ _, Below.refl _ _⟩
  case round =>
    obtain ⟨k, hk, rfl, hown, hb⟩ := hrel
    have hB : B ≤ wr.heap.size := by have := hb.size; omega
    by_cases hp : k < s.size
    · have hpz : (k : Int) < (s.size : Int) := by omega
      obtain ⟨b, hbb⟩ : ∃ b, s[k]'hp = b := ⟨_, rfl⟩
      have hst := fold_step hp
      rw [hbb] at hst
      have hlen : (foldR ((bs s).take k)).length < 1000000 := by rw [foldR, List.length_map, List.length_take, bs_length]; omega
      obtain ⟨l, hl⟩ : ∃ l, foldR ((bs s).take k) = l := ⟨_, rfl⟩
      rw [hl] at hown hlen hst
      have hadd : wrap64 ((k : Int) + 1) = (k : Int) + 1 := by rw [IntWalk.wrap64_in _ ⟨by omega, by omega⟩]
      have hb256 := b.toNat_lt
      clear hl
      by_cases h65 : 65 ≤ b.toNat
      · have z65 : (65 : Int) ≤ (b.toNat : Int) := by omega
        by_cases h90 : b.toNat ≤ 90
        · have z90 : (b.toNat : Int) ≤ 90 := by omega
          have hf : ((foldB b).toNat : Int) = (b.toNat : Int) + 32 := by
            rw [foldB, if_pos ⟨h65, h90⟩, UInt8.toNat_add]
            simp only [UInt8.reduceToNat]
            omega
          go_wp2_with (at_builtin; refine push_own rfl (.tmp 23) (.tmp 25) rfl B _ l (foldB b) rfl (hown.alloc _) ⟨wr.heap.size, 0, none⟩ rfl (by rw [hf]; simp) hlen (by simp; omega) ?_; intro v' w1 hown' hgrow)
          have R := push_below hb hown hgrow hB
          clear hgrow hown hb
          go_wp2
          go_roundw
          case rel => exact ⟨k + 1, by omega, by simp, by rw [hst]; exact hown', R⟩
          case measure =>
            simp [Lib.intOf]
            omega
        · have z90 : ¬ ((b.toNat : Int) ≤ 90) := by omega
          have hf : foldB b = b := by rw [foldB, if_neg (by omega)]
          rw [hf] at hst
          go_wp2_with (at_builtin; refine push_own rfl (.tmp 23) (.tmp 25) rfl B _ l b rfl (hown.alloc _) ⟨wr.heap.size, 0, none⟩ rfl (by simp) hlen (by simp; omega) ?_; intro v' w1 hown' hgrow)
          have R := push_below hb hown hgrow hB
          clear hgrow hown hb
          go_wp2
          go_roundw
          case rel => exact ⟨k + 1, by omega, by simp, by rw [hst]; exact hown', R⟩
          case measure =>
            simp [Lib.intOf]
            omega
      · have z65 : ¬ ((65 : Int) ≤ (b.toNat : Int)) := by omega
        have hf : foldB b = b := by rw [foldB, if_neg (by omega)]
        rw [hf] at hst
        go_wp2_with (at_builtin; refine push_own rfl (.tmp 23) (.tmp 25) rfl B _ l b rfl (hown.alloc _) ⟨wr.heap.size, 0, none⟩ rfl (by simp) hlen (by simp; omega) ?_; intro v' w1 hown' hgrow)
        have R := push_below hb hown hgrow hB
        clear hgrow hown hb
        go_wp2
        go_roundw
        case rel => exact ⟨k + 1, by omega, by simp, by rw [hst]; exact hown', R⟩
        case measure =>
          simp [Lib.intOf]
          omega
    · have hpz : ¬ ((k : Int) < (s.size : Int)) := by omega
      rw [List.take_of_length_le (by rw [bs_length]; omega)] at hown
      have hcv := conv_own hown
      go_wp2
      go_ret
      exact ⟨rfl, hb⟩
/-- Block B holds the bytes l, the block behind it stands at place pos of s; what was there is as it was. -/
structure FS (w0 : World) (s : ByteArray) (pos : Nat) (l : Bs) (w : World) : Prop where
  cell : ∀ j, j < s.size → w.cell? ⟨w0.heap.size, j, none⟩ = some (.int .u8 ((l.getD j 0).toNat : Int))
  free : ∀ j, j < s.size → w.frozen? ⟨w0.heap.size, j, none⟩ = false
  iter : w.heap[w0.heap.size + 1]? = some (.stringIter s pos)
  bel : Below w0.heap.size w0 w
theorem FS.start (w : World) (s : ByteArray) : FS w s 0 (bs s) ((bytesWorld w 5 s).iter s 0) := by
  have hz := bytesWorld_size w 5 s
  have hn := bytesWorld_at_new w 5 s
  have hcs : (bytesCells w 5 s).size ≥ s.size := by
    simp [bytesCells]
  refine ⟨fun j hj => ?_, fun j hj => ?_, ?_, ?_⟩
  · unfold World.iter
    rw [World.cell?_alloc_old _ _ _ (by simp [hz])]
    exact bytesWorld_cell w 5 s j hj
  · unfold World.iter
    have hh : ((bytesWorld w 5 s).alloc (.stringIter s 0)).heap[w.heap.size]? = some (.cells (bytesCells w 5 s) 5 ((bytesCells w 5 s).size, (bytesCells w 5 s).size + 1)) := by
      rw [Below.heap_alloc _ _ _ (by rw [hz]; omega)]; exact hn
    simp [World.frozen?, hh]
    omega
  · rw [← hz]
    exact World.iter_heap _ _ _
  · unfold World.iter
    exact (below_bytesWorld _ _ _ _ (Nat.le_refl _)).alloc (by rw [hz]; omega) _
theorem FS.next {w0 w : World} {s : ByteArray} {pos : Nat} {l : Bs} (h : FS w0 s pos l w) (p : Nat) : FS w0 s p l (w.iterAt (w0.heap.size + 1) s p) := by
  have ho : (w.iterAt (w0.heap.size + 1) s p).heap[w0.heap.size]? = w.heap[w0.heap.size]? := iterAt_other _ _ _ _ _ (by omega)
  refine ⟨fun j hj => ?_, fun j hj => ?_, iterAt_heap _ _ _ _ _ h.iter, below_iterAt h.bel (by omega) _ _⟩
  · rw [World.cell?_of_block (w := w) (a := ⟨w0.heap.size, j, none⟩) ho]; exact h.cell j hj
  · rw [World.frozen?_of_block (w := w) (a := ⟨w0.heap.size, j, none⟩) ho]; exact h.free j hj
theorem FS.put {w0 w : World} {s : ByteArray} {pos : Nat} {l : Bs} (h : FS w0 s pos l w) {i : Nat} (hi : i < s.size) (b : UInt8) (hl : l.length = s.size) : FS w0 s pos (l.set i b) (w.setCell ⟨w0.heap.size, i, none⟩ (.int .u8 (b.toNat : Int))) := by
  refine ⟨fun j hj => ?_, fun j hj => ?_, ?_, h.bel.setCell (Nat.le_refl _) _⟩
  · by_cases hij : i = j
    · subst hij
      rw [World.cell?_setCell_same _ _ _ (h.cell i hi)]
      simp [hl, hj]
    · rw [World.cell?_setCell_other _ _ _ _ (by intro e; cases e; exact hij rfl), h.cell j hj]
      simp [hij]
  · rw [World.frozen?_setCell]; exact h.free j hj
  · rw [Below.heap_setCell _ _ _ _ (by simp)]; exact h.iter
/-- The bytes when place pos has been come to. -/
def mid (s : ByteArray) (pos : Nat) : Bs := foldR ((bs s).take pos) ++ (bs s).drop pos
theorem mid_length (s : ByteArray) (pos : Nat) : (mid s pos).length = s.size := by
  simp [mid, foldR]
  omega
theorem mid_start (s : ByteArray) : mid s 0 = bs s := by simp [mid, foldR]
theorem mid_end {s : ByteArray} {pos : Nat} (h : ¬ pos < s.size) : mid s pos = foldR (bs s) := by
  rw [mid, rest_nil h, List.append_nil, List.take_of_length_le (by rw [bs_length]; omega)]
theorem mid_high {s : ByteArray} {pos wd : Nat} (h : ∀ b ∈ ((bs s).drop pos).take wd, foldB b = b) : mid s (pos + wd) = mid s pos := by
  unfold mid
  rw [List.take_add, foldR, List.map_append, ← foldR, ← foldR, List.append_assoc]
  congr 1
  have e : foldR (((bs s).drop pos).take wd) = ((bs s).drop pos).take wd := by
    unfold foldR
    conv => rhs; rw [← List.map_id (((bs s).drop pos).take wd)]
    exact List.map_congr_left h
  rw [e, ← List.drop_drop, List.take_append_drop]
theorem mid_put {s : ByteArray} {pos : Nat} (h : pos < s.size) : mid s (pos + 1) = (mid s pos).set pos (foldB (s[pos]'h)) := by
  unfold mid
  have hl : (foldR ((bs s).take pos)).length = pos := by simp [foldR]; omega
  rw [fold_step h, rest_cons h, List.set_append_right _ _ (by omega), hl, Nat.sub_self, List.set_cons_zero]
  simp
end Go.Proofs.YtipnaphikbjhbaaDoor
