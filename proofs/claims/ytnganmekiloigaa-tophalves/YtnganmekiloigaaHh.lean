/- Append, on a calm disk. -/
import Derived.Test.YtnganmekiloigaaHg
namespace Go.Proofs.Ytnganmekiloigaa
open Go.RowKit
set_option maxRecDepth 100000
variable {w w' : World} {B d s x : Nat} {D : Dk} {W : Wl} {G : List Nat}
theorem LG.below (h : LG B w d s D x W G) (k : Below w.heap.size w w') : LG B w' d s D x W G := ⟨h.disk.below k, h.wal.below k, h.nx, h.bx⟩
theorem LG.new (h : LG B w d s D x W G) (o : Obj) : LG B (w.alloc o) d s D x W (w.heap.size :: G) := by
  refine ⟨(h.disk.new o).less (fun g hg => ?_), h.wal.below (al w o), fun hm => ?_, h.bx⟩
  · simp only [List.mem_cons] at hg ⊢
    rcases hg with rfl | rfl | hg
    · exact .inr (.inl rfl)
    · exact .inl rfl
    · exact .inr (.inr hg)
  · rcases List.mem_cons.1 hm with e | hm
    · have := h.wal.lt; omega
    · exact h.nx hm
theorem LG.less {G' : List Nat} (h : LG B w d s D x W G) (hG : ∀ g ∈ G', g ∈ G) : LG B w d s D x W G' := ⟨h.disk.less (fun g hg => by rcases List.mem_cons.1 hg with rfl | hg; exact List.mem_cons_self; exact List.mem_cons_of_mem _ (hG g hg)), h.wal, fun hm => h.nx (hG x hm), h.bx⟩
theorem LG.glt (h : LG B w d s D x W G) : ∀ g ∈ G, g < w.heap.size := fun g hg => by obtain ⟨_, _, h2, _⟩ := h.disk; exact (h2 g (List.mem_cons_of_mem _ hg)).2
theorem LG.size (h : LG B w d s D x W G) : B ≤ w.heap.size := by obtain ⟨_, _, _, _, h2⟩ := h.disk; exact h2
theorem LG.alone (h : LG B w d s D x W G) : Alone B w d s D G := h.disk.less (fun _ hg => List.mem_cons_of_mem _ hg)
/-- Cells of the log are turned. -/
theorem LG.turn (h : LG B w d s D x W G) {o : Nat} {v : Value} {W2 : Wl} (e : (wlC d W).set o v = wlC d W2) : LG B (w.setCell ⟨x, o, none⟩ v) d s D x W2 G ∧ Kept G w (w.setCell ⟨x, o, none⟩ v) ∧ Below B w (w.setCell ⟨x, o, none⟩ v) := by
  have kk : Keep (fun b => b = x) w (w.setCell ⟨x, o, none⟩ v) := (Keep.refl (fun b => b = x) w).set (.inr rfl) _
  refine ⟨⟨h.disk.keepOne kk, ?_, h.nx, h.bx⟩, fun g hg => Below.heap_setCell _ _ _ _ (fun e => h.nx (by rw [← show g = x from e]; exact hg)), bset (Below.refl _ _) h.bx _⟩
  have := h.wal.set (o := o) v
  rw [e] at this
  exact this
/-- A block that is neither the log's nor the disk's. -/
theorem LG.keepBlk {g : Nat} (h : LG B w d s D x W (g :: G)) (k : Keep (fun b => b = g) w w') (hB : B ≤ g) : LG B w' d s D x W G ∧ Kept G w w' ∨ g ∈ G := by
  by_cases hg : g ∈ G
  · exact .inr hg
  have hxg : x ≠ g := fun e => h.nx (by rw [e]; exact List.mem_cons_self)
  refine .inl ⟨⟨(Alone.keepOne (g := g) (G := x :: G) (h.disk.less (fun g' hg' => ?_)) k).less (fun g' hg' => List.mem_cons_of_mem _ hg'), h.wal.block (k.block x h.wal.lt hxg), fun hm => h.nx (List.mem_cons_of_mem _ hm), h.bx⟩, fun g' hg' => k.block g' (h.glt g' (List.mem_cons_of_mem _ hg')) (fun e => hg (e ▸ hg'))⟩
  simp only [List.mem_cons] at hg' ⊢
  rcases hg' with rfl | rfl | hg'
  · exact .inr (.inl rfl)
  · exact .inl rfl
  · exact .inr (.inr hg')
theorem left47 {R : Nat} (h : Alone B w d s D G) (hx : Blk w x (wlC d W) 111) (hR : D.secs.length = 2 * R) (hR2 : R ≤ 64) (hen : W.en ≤ R) : Calls Try.prog 47 #[.pointer (some ⟨x, 0, none⟩)] w fun e w' => e = .returned (.int .i64 ((R - W.en : Nat) : Int)) ∧ w' = w.drew := by
  have k80 := room80 (h.below (Below.refl _ w).drew) (hx.below (Below.refl _ w).drew) hR hR2
  have y4 : w.cell? ⟨x, 4, none⟩ = some (.int .i64 (W.en : Int)) := hx.cell 4
  have e1 : (R : Int) - (W.en : Int) = ((R - W.en : Nat) : Int) := by omega
  clear h hx hR
  have H : Hid ((R - W.en : Nat) < 1000) := by show _ < _; omega
  generalize (R - W.en : Nat) = m at *
  generalize W.en = n at *
  clear hen
  have hw : IntKind.i64.wrap ((R : Int) - (n : Int)) = (m : Int) := by rw [e1]; exact wrap_small _ (by omega) (by have := H.out; omega)
  clear e1
  go_enter Try.func47, Try.ntmps47
  go_wp2_with fail
  go_region_held3 (fun W' => W'.cell? ⟨x, 4, none⟩ = some (.int .i64 (n : Int))) (exact y4) ((go_at_call 80; refine k80.mono ?_; rintro e w1 ⟨rfl, rfl⟩))
  go_wp2
  go_ret
  exact ⟨rfl, rfl⟩
theorem broken49 (hx : Blk w x (wlC d W) 111) : Calls Try.prog 49 #[.pointer (some ⟨x, 0, none⟩)] w fun e w' => e = .returned (.bool W.br) ∧ w' = w := by
  have y : w.cell? ⟨x, 5, none⟩ = some (.bool W.br) := hx.cell 5
  clear hx
  go_enter Try.func49, Try.ntmps49
  go_wp2
  go_ret
  exact ⟨rfl, rfl⟩
theorem append83 {R n c q0 q1 : Nat} {a : Option Addr} {l : Bs} (hA : LG B w d s D x W G) (hq0 : Blk w q0 [.pointer (some ⟨x, 0, none⟩)] 57) (hq1 : Blk w q1 [.slice a n c] 33) (h0 : q0 ∈ G) (h1 : q1 ∈ G) (hcut : D.cut = false) (hoff : D.off = false) (hw : D.wait.length ≤ 50000) (hS : D.secs.length = 2 * R) (hR : R ≤ 64) (hh : W.half = 0 ∨ W.half = 1) (he : W.e < 65536) (hlv : LV EB w (.slice a n c) l) (hl0 : 0 < l.length) (hl : l.length ≤ 3648) (hag : ∀ g o, a = some ⟨g, o, none⟩ → g ∈ G) (hfit : W.en + np l ≤ R) :
    Calls Try.prog 83 #[.pointer (some ⟨q0, 0, none⟩), .pointer (some ⟨q1, 0, none⟩)] w fun e w' => e = .returned (.tuple #[]) ∧ LG B w' d s (D.more (W.half * R + W.en) (layP W.e W.en l)) x W G ∧ Kept G w w' ∧ Below B w w' := by
  have kd := (Below.refl w.heap.size w).drew
  have k82 := write82 (hA.below kd) hcut hoff hw hS hR hh he (hlv.below kd) hl0 hl hag (fun g hg => by simpa using hA.glt g hg) hfit
  have HK : Hid (∀ W2, Kept G w.drew W2 → Blk W2 x (wlC d W) 111 → W2.cell? ⟨q0, 0, none⟩ = some (.pointer (some ⟨x, 0, none⟩)) ∧ W2.cell? ⟨q1, 0, none⟩ = some (.slice a n c) ∧ W2.cell? ⟨x, 1, none⟩ = some (.int .i64 (W.half : Int)) ∧ W2.cell? ⟨x, 4, none⟩ = some (.int .i64 (W.en : Int))) := fun W2 k hb => ⟨((hq0.below kd).block (k q0 h0)).cell 0, ((hq1.below kd).block (k q1 h1)).cell 0, hb.cell 1, hb.cell 4⟩
  have hs0 := HK.out w.drew (fun _ _ => rfl) (hA.wal.below kd)
  clear hq0 hq1 hlv hA hh
  go_enter Try.func83, Try.ntmps83
  go_region_held3 (fun W2 => W2.cell? ⟨q0, 0, none⟩ = some (.pointer (some ⟨x, 0, none⟩)) ∧ W2.cell? ⟨q1, 0, none⟩ = some (.slice a n c) ∧ W2.cell? ⟨x, 1, none⟩ = some (.int .i64 (W.half : Int)) ∧ W2.cell? ⟨x, 4, none⟩ = some (.int .i64 (W.en : Int))) (first | exact hs0 | exact hs1) ((go_at_call 82; refine k82.mono ?_; rintro e w1 ⟨rfl, A1, K1, B1⟩; have hs1 := HK.out w1 K1 A1.wal))
  go_end0
  exact ⟨rfl, A1, K1, ((Below.refl B w).drew).trans B1⟩
end Go.Proofs.Ytnganmekiloigaa
