/- Switch, on a calm disk. -/
import Derived.Test.YtnganmekiloigaaHi
namespace Go.Proofs.Ytnganmekiloigaa
open Go.RowKit
set_option maxRecDepth 100000
variable {w w' : World} {B d s x : Nat} {D : Dk} {W : Wl} {G : List Nat}
theorem flush_calm (hcut : D.cut = false) (hoff : D.off = false) : D.flush = (0, { D with secs := land (fun _ => true) 0 D.wait D.secs, wait := [] }) := by
  have hsp : D.spend = (true, D) := by unfold Dk.spend; rw [if_neg (by rw [hcut]; simp)]
  unfold Dk.flush
  rw [if_neg (by rw [hoff]; simp), hsp]
  simp
/-- The disk behind a Switch. -/
def Dk.switched (D : Dk) (b : Nat) (X : List Bs) : Dk := (D.more b X).flush.2
theorem switch81 {R n c q0 q1 q2 o : Nat} {a : Option Addr} {l : Bs} (hA : LG B w d s D x W G) (hq0 : Blk w q0 [.pointer (some ⟨x, 0, none⟩)] 57) (hq1 : Blk w q1 [.int .i64 (o : Int)] 3) (hq2 : Blk w q2 [.slice a n c] 33) (h0 : q0 ∈ G) (hcut : D.cut = false) (hoff : D.off = false) (hw : D.wait.length ≤ 50000) (hS : D.secs.length = 2 * R) (hR : R ≤ 64) (ho : o = 0 ∨ o = 1) (he : W.e < 65536) (hlv : LV EB w (.slice a n c) l) (hl0 : 0 < l.length) (hl : l.length ≤ 3648) (hag : ∀ g o, a = some ⟨g, o, none⟩ → g ∈ G) (hfit : np l ≤ R) :
    Calls Try.prog 81 #[.pointer (some ⟨q0, 0, none⟩), .pointer (some ⟨q1, 0, none⟩), .pointer (some ⟨q2, 0, none⟩)] w fun e w' => e = .returned (.tuple #[]) ∧ LG B w' d s (D.switched (o * R + 0) (layP W.e 0 l)) x W G ∧ Kept G w w' ∧ Below B w w' := by
  have k82 := write82 (p := 0) hA hcut hoff hw hS hR ho he hlv hl0 hl hag hA.glt (by omega)
  have y0 := hq0.cell 0
  have y1 := hq1.cell 0
  have y2 := hq2.cell 0
  simp only [List.getElem?_cons_zero] at y0 y1 y2
  have HF : Hid (∀ w1, LG B w1 d s (D.more (o * R + 0) (layP W.e 0 l)) x W G → Kept G w w1 → Below B w w1 → w1.cell? ⟨q0, 0, none⟩ = some (.pointer (some ⟨x, 0, none⟩)) ∧ Calls Try.prog 77 #[.pointer (some ⟨x, 0, none⟩)] w1 fun e w' => e = .returned (.tuple #[]) ∧ LG B w' d s (D.switched (o * R + 0) (layP W.e 0 l)) x W G ∧ Kept G w w' ∧ Below B w w') := fun w1 A1 K1 B1 => by
    refine ⟨(hq0.block (K1 q0 h0)).cell 0, (settle77 A1.disk A1.wal ?_ ?_).mono ?_⟩
    · rw [flush_calm (D := D.more _ _) hcut hoff]
    · show (D.wait ++ waitOf _ _).length ≤ _
      rw [List.length_append, waitOf_length, lay_length]
      omega
    · rintro e w2 ⟨rfl, A2, K2, B2⟩
      exact ⟨rfl, ⟨A2, A1.wal.block (K2 x (by simp)), A1.nx, A1.bx⟩, fun g hg => (K2 g (List.mem_cons_of_mem _ hg)).trans (K1 g hg), B1.trans B2⟩
  clear hq0 hq1 hq2 hA hlv
  go_enter Try.func81, Try.ntmps81
  go_wp2_with (first
    | (go_at_call 82; (refine k82.mono ?_; rintro e w1 ⟨rfl, A1, K1, B1⟩; obtain ⟨y3, k77⟩ := HF.out w1 A1 K1 B1; clear A1 K1 B1))
    | (go_at_call 77; (refine k77.mono ?_; rintro e w2 ⟨rfl, A2, K2, B2⟩)))
  go_end0
  exact ⟨rfl, A2, K2, B2⟩
theorem switch41_range {n c : Nat} {a : Option Addr} (hx : Blk w x (wlC d W) 111) (hbr : W.br = false) (hn : n < 1 ∨ 3648 < n) :
    Calls Try.prog 41 #[.pointer (some ⟨x, 0, none⟩), .slice a n c] w fun e w' => e = .returned (.int .i64 2) ∧ Below w.heap.size w w' := by
  have k78 : ∀ W2, Below w.heap.size w W2 → Calls Try.prog 78 #[.pointer (some ⟨x, 0, none⟩), .slice a n c] W2 fun e w' => e = .returned (.int .i64 2) ∧ w' = W2 := fun W2 k => by
    have := takes78 (hx.below k) a n c
    unfold takesP at this
    rw [hbr, if_neg (by simp), if_pos hn] at this
    exact this
  clear hx
  go_enter Try.func41, Try.ntmps41
  go_wp2_with (go_at_call 78; (refine (k78 _ (bmore (al _ _) (al _ _))).mono ?_; rintro e w1 ⟨rfl, rfl⟩))
  go_ret
  exact ⟨rfl, bmore (al _ _) (al _ _)⟩
theorem switch41_full {R n c : Nat} {a : Option Addr} (hA : LG B w d s D x W G) (hbr : W.br = false) (hS : D.secs.length = 2 * R) (hR : R ≤ 64) (hn : 1 ≤ n ∧ n ≤ 3648) (hf : R < (n + 56) / 57) :
    Calls Try.prog 41 #[.pointer (some ⟨x, 0, none⟩), .slice a n c] w fun e w' => e = .returned (.int .i64 15) ∧ Below w.heap.size w w' := by
  have k78 : ∀ W2, Below w.heap.size w W2 → Calls Try.prog 78 #[.pointer (some ⟨x, 0, none⟩), .slice a n c] W2 fun e w' => e = .returned (.int .i64 0) ∧ w' = W2 := fun W2 k => by
    have := takes78 (hA.wal.below k) a n c
    unfold takesP at this
    rw [hbr, if_neg (by simp), if_neg (by omega)] at this
    exact this
  have k79 := pieces79 a n c (by omega)
  have b0 := blk_new w [.pointer (some ⟨x, 0, none⟩)] 57
  have b1 := blk_new (w.alloc (.cells #[.pointer (some ⟨x, 0, none⟩)] 57)) [.slice a n c] 33
  have kd : Below w.heap.size w ((w.alloc (.cells #[.pointer (some ⟨x, 0, none⟩)] 57)).alloc (.cells #[.slice a n c] 33)).drew := bmore (bmore (al _ _) (al _ _)) (Below.refl _ _).drew
  have e0 := ((b0.below (al _ (.cells #[.slice a n c] 33))).below (Below.refl _ _).drew).cell 0
  have e1 := (b1.below (Below.refl _ _).drew).cell 0
  simp only [World.size_alloc, List.getElem?_cons_zero] at e0 e1
  have k80 := room80 (hA.below kd).disk (hA.wal.below kd) hS hR
  have hlt : (R : Int) < (((n + 56) / 57 : Nat) : Int) := by omega
  have hlt2 : R < (n + 56) / 57 := by omega
  clear b0 b1 kd hA hS hf
  generalize (n + 56) / 57 = np at *
  go_enter Try.func41, Try.ntmps41
  go_wp2_with (go_at_call 78; (refine (k78 _ (bmore (al _ _) (al _ _))).mono ?_; rintro e w1 ⟨rfl, rfl⟩))
  go_region_held3 (fun W2 => W2.cell? ⟨w.heap.size, 0, none⟩ = some (.pointer (some ⟨x, 0, none⟩)) ∧ W2.cell? ⟨w.heap.size + 1, 0, none⟩ = some (.slice a n c)) (exact ⟨e0, e1⟩) (first
    | (go_at_call 79; (refine (k79 _).mono ?_; rintro e w1 ⟨rfl, rfl⟩))
    | (go_at_call 80; (refine k80.mono ?_; rintro e w1 ⟨rfl, rfl⟩)))
  go_wp2
  go_ret
  exact ⟨rfl, bmore (bmore (al _ _) (al _ _)) (Below.refl _ _).drew⟩
end Go.Proofs.Ytnganmekiloigaa
