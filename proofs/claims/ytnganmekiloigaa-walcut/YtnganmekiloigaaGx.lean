/- Open. -/
import Derived.Test.YtnganmekiloigaaGw
namespace Go.Proofs.Ytnganmekiloigaa
open Go.RowKit
set_option maxRecDepth 100000
variable {w w' : World} {B d s : Nat} {D : Dk}
theorem cf68 (caps : Array Value) : ∀ W, Sem.run Try.prog (callFunc 68 caps) W = .ok (.enter 68 caps) W := fun W => enters_of Try.func68 (by kernel_rfl) rfl caps W
set_option maxHeartbeats 1000000 in
theorem read68 {b1 b5 : Nat} {v5 : Value} (h : Alone B w d s D []) (hoff : D.off = false) (hw : D.wait.length ≤ 100000) (hn : D.secs.length ≤ 128) (h1 : Blk w b1 [.pointer (some ⟨d, 0, none⟩)] 23) (h5 : Blk w b5 [v5] 106) :
    Calls Try.prog 68 #[.pointer (some ⟨b1, 0, none⟩), .pointer (some ⟨b5, 0, none⟩)] w fun e w' => e = .returned (.tuple #[]) ∧ ∃ u, Blk w' b5 [u] 106 ∧ RW EPc w.heap.size w' u (pcs (rdS D)) ∧ Keep (fun k => k = b5) w w' := by
  have k69 := readAll69 h hoff hw hn
  have c1 := h1.cell 0
  have hb5 := h5.lt
  simp only [List.getElem?_cons_zero] at c1
  go_enter Try.func68, Try.ntmps68
  go_wp2_with (go_at_call 69; (refine k69.mono ?_; rintro e w1 ⟨u, rfl, hU, hB⟩; obtain ⟨ua, uc, rfl, -⟩ := hU.form; have z1 := (h5.below hB).frozen 0; have z0 := (h5.below hB).got (j := 0) (by simp)))
  go_end0
  refine ⟨rfl, _, (h5.below hB).set (o := 0) _, hU.keep fun k hk => Below.heap_setCell _ _ _ _ (by have := (hU.at hk).1; show k ≠ b5; omega), (Keep.of (F := fun k => k = b5) hB).set (.inr rfl) _⟩

/-- Behind region 12 of Open: the log, and the variable that holds it. -/
structure F12 (w2 W : World) (x y : Nat) (l : List Value) : Prop where
  bx : Blk W x l 111
  bv : Blk W y [.pointer (some ⟨x, 0, none⟩)] 57
  B : Below w2.heap.size w2 W
  lx : w2.heap.size ≤ x
  ly : w2.heap.size ≤ y
  ne : x ≠ y
theorem f12a {w2 w3 : World} {l : List Value} (hB : Below (w2.alloc (.cells #[.pointer none] 57)).drew.heap.size (w2.alloc (.cells #[.pointer none] 57)).drew w3) :
    F12 w2 ((w3.setCell ⟨w2.heap.size, 0, none⟩ (.pointer (some ⟨w3.heap.size, 0, none⟩))).alloc (.cells l.toArray 111)) w3.heap.size w2.heap.size l := by
  have h0 : Blk (w2.alloc (.cells #[.pointer none] 57)).drew w2.heap.size [.pointer none] 57 := blk_new w2 [.pointer none] 57
  have hs := hB.size
  simp at hs
  have h1 := blk_new (w3.setCell ⟨w2.heap.size, 0, none⟩ (.pointer (some ⟨w3.heap.size, 0, none⟩))) l 111
  have e1 : (w3.setCell ⟨w2.heap.size, 0, none⟩ (.pointer (some ⟨w3.heap.size, 0, none⟩))).heap.size = w3.heap.size := by simp [World.setCell]
  rw [e1] at h1
  exact ⟨h1, ((h0.below hB).set (o := 0) _).below (al _ _), bmore (bset (bmore (bmore (al _ _) (Below.refl _ _).drew) hB) (Nat.le_refl _) _) (al _ _), by omega, Nat.le_refl _, by omega⟩
theorem f12b {w2 w3 : World} {l : List Value} (hB : Below w2.drew.heap.size w2.drew w3) :
    F12 w2 ((w3.alloc (.cells #[.pointer (some ⟨w3.heap.size + 1, 0, none⟩)] 57)).alloc (.cells l.toArray 111)) (w3.heap.size + 1) w3.heap.size l := by
  have hs := hB.size
  simp at hs
  have h1 := blk_new (w3.alloc (.cells #[.pointer (some ⟨w3.heap.size + 1, 0, none⟩)] 57)) l 111
  simp only [World.size_alloc] at h1
  exact ⟨h1, (blk_new w3 [.pointer (some ⟨w3.heap.size + 1, 0, none⟩)] 57).below (al _ _), bmore (bmore (Below.refl _ _).drew hB) (bmore (al _ _) (al _ _)), by omega, hs, by omega⟩
theorem f12c {w2 w3 : World} {l : List Value} (hB : Below w2.drew.heap.size w2.drew w3) :
    F12 w2 ((w3.alloc (.cells l.toArray 111)).alloc (.cells #[.pointer (some ⟨w3.heap.size, 0, none⟩)] 57)) w3.heap.size (w3.heap.size + 1) l := by
  have hs := hB.size
  simp at hs
  have h1 := blk_new (w3.alloc (.cells l.toArray 111)) [.pointer (some ⟨w3.heap.size, 0, none⟩)] 57
  simp only [World.size_alloc] at h1
  exact ⟨(blk_new w3 l 111).below (al _ _), h1, bmore (bmore (Below.refl _ _).drew hB) (bmore (al _ _) (al _ _)), hs, by omega, by omega⟩
/-- Slices, one behind the other. -/
abbrev Sl := Option Addr × Nat × Nat
def slV (x : Sl) : Value := .slice x.1 x.2.1 x.2.2
def EV : Ety Sl := ⟨1, fun x => [slV x], 33, 62, .slice none 0 0, 24, fun _ => rfl, fun x u hu => by simp at hu; subst hu; rfl, Try.underlying62, by kernel_rfl, rfl, by decide, by decide⟩
/-- A log in memory. -/
structure Wl where
  half : Nat
  e : Nat
  cnt : Nat
  en : Nat
  br : Bool
def wlC (d : Nat) (W : Wl) : List Value := [.pointer (some ⟨d, 0, none⟩), .int .i64 (W.half : Int), .int .i64 (W.e : Int), .int .i64 (W.cnt : Int), .int .i64 (W.en : Int), .bool W.br]
theorem rdS_ok (h : D.Ok) : ∀ x ∈ rdS D, x.length = 64 := fun x hx => by
  simp only [rdS, List.mem_map, List.mem_range] at hx
  obtain ⟨i, hi, rfl⟩ := hx
  exact latest_length h i hi
theorem Alone.ok {G : List Nat} (h : Alone B w d s D G) : D.Ok := by obtain ⟨wv, h1, _⟩ := h; exact h1.ok
theorem pcs_ok {S : List Bs} (h : ∀ x ∈ S, x.length = 64) : ∀ x ∈ pcs S, x.Ok := fun x hx => by
  simp only [pcs, List.mem_map] at hx
  obtain ⟨s, hs, rfl⟩ := hx
  exact pcOf_ok (h s hs)
end Go.Proofs.Ytnganmekiloigaa
