/- Both at once: a deed. -/
import Derived.Test.YtgimjjlkniplnaaTe
namespace Go.Proofs.Ytgimjjlkniplnaa
open Go.RowKit Go.Shelf
set_option maxRecDepth 100000
theorem TT.other {A B : World} {x r : Nat} {kv : List Pr} {l : List Value} (h : TT A x kv) (hr : Blk A r l 55) (k : Keep (fun i => i = r) A B) : TT B x kv :=
  h.keep fun g l' ty hty q => q.keep k (fun e => Blk.ne q hr (by rcases hty with rfl | rfl | ⟨rfl, _⟩ <;> decide) e)
theorem RI.other {A B : World} {x r : Nat} {a : Option Addr} {c : Nat} {L : List Pr} {l : List Value} (h : RI A r a c L) (hx : Blk A x l 66) (k : Keep (fun i => i = x) A B) : RI B r a c L :=
  ⟨h.blk.keep k (fun e => Blk.ne h.blk hx (by decide) e), h.lv.keep fun g l' q => q.keep k (fun e => Blk.ne q hx (by decide) e)⟩
/-- The program's and the document's, with the same pairs, from the block B on. -/
structure Two (W : World) (B x r : Nat) (kv : List Pr) : Prop where
  tt : TT W x kv
  ri : ∃ a c, RI W r a c kv
  bx : B ≤ x
  br : B ≤ r
theorem Two.below {W W' : World} {B x r : Nat} {kv : List Pr} (h : Two W B x r kv) (k : Below W.heap.size W W') : Two W' B x r kv :=
  ⟨h.tt.below k, h.ri.imp fun _ i => i.imp fun _ i => i.below k, h.bx, h.br⟩
theorem TT.blk {W : World} {x : Nat} {kv : List Pr} (h : TT W x kv) : ∃ l, Blk W x l 66 := by
  obtain ⟨_, _, _, hb, _⟩ := h.ex
  exact ⟨_, hb⟩
def DoPost (W : World) (B x r : Nat) (kv : List Pr) (w' : World) : Prop := (∃ kv', Two w' B x r kv' ∧ kv'.length ≤ kv.length + 1) ∧ Keep (fun k => k = x ∨ k = r) W w'
set_option maxHeartbeats 2000000 in
theorem do_put {W : World} {x r : Nat} {p : Pr} {b : Int} {M M' : World → Prop} (hx : x < W.heap.size) (hr : r < W.heap.size)
    (h1 : Hid (∀ W1, Below W.heap.size W W1 → Calls Try.prog 31 #[.pointer (some ⟨x, 0, none⟩), .string p.1, .string p.2] W1 fun e w' => e = .returned (.int .i64 b) ∧ Keep (fun k => k = x) W1 w' ∧ Hid (M w')))
    (h2 : Hid (∀ w1, Keep (fun k => k = x) W w1 → M w1 → Calls Try.prog 38 #[.pointer (some ⟨r, 0, none⟩), .string p.1, .string p.2] w1 fun e w' => e = .returned (.int .i64 b) ∧ Keep (fun k => k = r) w1 w' ∧ Hid (M' w'))) :
    Calls Try.prog 23 #[.pointer (some ⟨x, 0, none⟩), .pointer (some ⟨r, 0, none⟩), .agg #[.int .i64 0, .string p.1, .string p.2]] W fun e w' => e = .returned (.bool true) ∧ Keep (fun k => k = x ∨ k = r) W w' ∧ M' w' := by
  have hA := al W (.cells #[.int .i64 0, .string p.1, .string p.2] 45)
  have b0 := blk_new W [.int .i64 0, .string p.1, .string p.2] 45
  change Blk (W.alloc (.cells #[.int .i64 0, .string p.1, .string p.2] 45)) _ _ _ at b0
  have HX : Hid (x < W.heap.size ∧ r < W.heap.size) := ⟨hx, hr⟩
  have HA : Hid (Below W.heap.size W (W.alloc (.cells #[.int .i64 0, .string p.1, .string p.2] 45))) := hA
  have HS : Hid (∀ w', Keep (fun k => k = x ∨ k = r) (W.alloc (.cells #[.int .i64 0, .string p.1, .string p.2] 45)) w' → w'.cell? ⟨W.heap.size, 1, none⟩ = some (.string p.1) ∧ w'.cell? ⟨W.heap.size, 2, none⟩ = some (.string p.2)) := fun w' k => by
    have hb := b0.keep k (fun e => by rcases e with e | e <;> omega)
    exact ⟨hb.cell 1, hb.cell 2⟩
  have c0 := b0.cell 0
  simp only [List.getElem?_cons_zero] at c0
  clear hA b0 hx hr
  go_enter Try.func23, Try.ntmps23
  go_wp2_with fail
  generalize W.alloc (.cells #[.int .i64 0, .string p.1, .string p.2] 45) = W1 at *
  have K0 : Below W1.heap.size W1 W1.drew := (Below.refl _ _).drew
  have hS0 := HS.out _ (Keep.of K0)
  clear c0
  go_region_held3 (fun w' => w'.cell? ⟨W.heap.size, 1, none⟩ = some (.string p.1) ∧ w'.cell? ⟨W.heap.size, 2, none⟩ = some (.string p.2)) (first | exact hS0 | exact HS.out _ G2 | exact HS.out _ G1) (first
    | (go_at_call 31; (with_reducible refine (h1.out _ (bmore HA.out K0)).mono ?_); rintro e w1 ⟨rfl, K1, hM⟩; have G1 : Keep (fun k => k = x ∨ k = r) W1 w1 := (Keep.of K0).trans (K1.mono (G := fun k => k = x ∨ k = r) (fun _ _ h => .inl h)) (fun _ _ h => h))
    | (go_at_call 38; (with_reducible refine (h2.out _ ((Keep.of (F := fun k => k = x) (bmore HA.out K0)).trans K1 (fun _ _ h => h)) hM.out).mono ?_); rintro e w2 ⟨rfl, K2, hM'⟩; have G2 : Keep (fun k => k = x ∨ k = r) W1 w2 := G1.trans (K2.mono (G := fun k => k = x ∨ k = r) (fun _ _ h => .inr h)) (fun _ _ h => h)))
  all_goals (
    go_wp2_with fail
    go_ret
    exact ⟨by simp, (Keep.of (F := fun k => k = x ∨ k = r) HA.out).trans G2 (fun _ _ h => h), hM'.out⟩)
set_option maxHeartbeats 2000000 in
theorem do_del {W : World} {x r : Nat} {p : Pr} {b : Bool} {M M' : World → Prop} (hx : x < W.heap.size) (hr : r < W.heap.size)
    (h1 : Hid (∀ W1, Below W.heap.size W W1 → Calls Try.prog 32 #[.pointer (some ⟨x, 0, none⟩), .string p.1] W1 fun e w' => e = .returned (.bool b) ∧ Keep (fun k => k = x) W1 w' ∧ Hid (M w')))
    (h2 : Hid (∀ w1, Keep (fun k => k = x) W w1 → M w1 → Calls Try.prog 39 #[.pointer (some ⟨r, 0, none⟩), .string p.1] w1 fun e w' => e = .returned (.bool b) ∧ Keep (fun k => k = r) w1 w' ∧ Hid (M' w'))) :
    Calls Try.prog 23 #[.pointer (some ⟨x, 0, none⟩), .pointer (some ⟨r, 0, none⟩), .agg #[.int .i64 1, .string p.1, .string p.2]] W fun e w' => e = .returned (.bool true) ∧ Keep (fun k => k = x ∨ k = r) W w' ∧ M' w' := by
  have hA := al W (.cells #[.int .i64 1, .string p.1, .string p.2] 45)
  have b0 := blk_new W [.int .i64 1, .string p.1, .string p.2] 45
  change Blk (W.alloc (.cells #[.int .i64 1, .string p.1, .string p.2] 45)) _ _ _ at b0
  have HX : Hid (x < W.heap.size ∧ r < W.heap.size) := ⟨hx, hr⟩
  have HA : Hid (Below W.heap.size W (W.alloc (.cells #[.int .i64 1, .string p.1, .string p.2] 45))) := hA
  have HS : Hid (∀ w', Keep (fun k => k = x ∨ k = r) (W.alloc (.cells #[.int .i64 1, .string p.1, .string p.2] 45)) w' → w'.cell? ⟨W.heap.size, 1, none⟩ = some (.string p.1)) := fun w' k => by
    have hb := b0.keep k (fun e => by rcases e with e | e <;> omega)
    exact hb.cell 1
  have c0 := b0.cell 0
  simp only [List.getElem?_cons_zero] at c0
  clear hA b0 hx hr
  go_enter Try.func23, Try.ntmps23
  go_wp2_with fail
  generalize W.alloc (.cells #[.int .i64 1, .string p.1, .string p.2] 45) = W1 at *
  have K0 : Below W1.heap.size W1 W1.drew := (Below.refl _ _).drew
  have hS0 := HS.out _ (Keep.of K0)
  clear c0
  go_region_held3 (fun w' => w'.cell? ⟨W.heap.size, 1, none⟩ = some (.string p.1)) (first | exact hS0 | exact HS.out _ G2 | exact HS.out _ G1) (first
    | (go_at_call 32; (with_reducible refine (h1.out _ (bmore HA.out K0)).mono ?_); rintro e w1 ⟨rfl, K1, hM⟩; have G1 : Keep (fun k => k = x ∨ k = r) W1 w1 := (Keep.of K0).trans (K1.mono (G := fun k => k = x ∨ k = r) (fun _ _ h => .inl h)) (fun _ _ h => h))
    | (go_at_call 39; (with_reducible refine (h2.out _ ((Keep.of (F := fun k => k = x) (bmore HA.out K0)).trans K1 (fun _ _ h => h)) hM.out).mono ?_); rintro e w2 ⟨rfl, K2, hM'⟩; have G2 : Keep (fun k => k = x ∨ k = r) W1 w2 := G1.trans (K2.mono (G := fun k => k = x ∨ k = r) (fun _ _ h => .inr h)) (fun _ _ h => h)))
  all_goals (
    go_wp2_with fail
    go_ret
    exact ⟨by simp, (Keep.of (F := fun k => k = x ∨ k = r) HA.out).trans G2 (fun _ _ h => h), hM'.out⟩)
theorem do_none {W : World} {v v' : Value} {n : Int} {p : Pr} (h0 : n ≠ 0) (h1 : n ≠ 1) : Calls Try.prog 23 #[v, v', .agg #[.int .i64 n, .string p.1, .string p.2]] W fun e w' => e = .returned (.bool true) ∧ Below W.heap.size W w' := by
  go_enter Try.func23, Try.ntmps23
  go_wp2
  go_ret
  exact ⟨rfl, al _ _⟩
theorem do23 {W : World} {B x r : Nat} {kv : List Pr} (h : Two W B x r kv) (hz : kv.length ≤ 700) (n : Int) (p : Pr) : Calls Try.prog 23 #[.pointer (some ⟨x, 0, none⟩), .pointer (some ⟨r, 0, none⟩), .agg #[.int .i64 n, .string p.1, .string p.2]] W fun e w' => e = .returned (.bool true) ∧ DoPost W B x r kv w' := by
  obtain ⟨lx, hbx⟩ := h.tt.blk
  obtain ⟨a, c, hri⟩ := h.ri
  have hs := h.tt.srt
  have same : ∀ w', Below W.heap.size W w' → DoPost W B x r kv w' := fun w' k => ⟨⟨kv, h.below k, Nat.le_succ _⟩, Keep.of k⟩
  by_cases n0 : n = 0
  · subst n0
    by_cases hk : p.1.size ≤ 64
    · refine (do_put (b := 0) (M := fun w => TT w x (put kv p)) (M' := fun w => Two w B x r (put kv p)) hbx.lt hri.blk.lt (fun W1 k => ?_) (fun w1 k hM => ?_)).mono (fun e w' ⟨he, k, hT⟩ => ⟨he, ⟨_, hT, by have := put_len hs p; omega⟩, k⟩)
      · exact (put31 (h.tt.below k) p hk (by omega)).mono (fun e w' ⟨he, hd⟩ => ⟨he, hd.2, hd.1⟩)
      · have ir1 := hri.other hbx k
        refine (rput38 ir1 hs (by omega) p hk).mono (fun e w' ⟨he, hi, hk⟩ => ⟨he, hk, ?_⟩)
        exact ⟨hM.other ir1.blk hk, hi, h.bx, h.br⟩
    · refine (do_put (b := 2) (M := Below W.heap.size W) (M' := Below W.heap.size W) hbx.lt hri.blk.lt (fun W1 k => ?_) (fun w1 _ k => ?_)).mono (fun e w' ⟨he, _, k⟩ => ⟨he, same w' k⟩)
      · exact (put_long p (by omega)).mono (fun e w' ⟨he, b⟩ => ⟨he, Keep.of b, bmore k b⟩)
      · exact (rput_long p (by omega)).mono (fun e w' ⟨he, b⟩ => ⟨he, by subst b; exact Keep.refl _ _, by subst b; exact k⟩)
  · by_cases n1 : n = 1
    · subst n1
      refine (do_del (b := has kv p.1) (M := fun w => TT w x (off kv p.1)) (M' := fun w => Two w B x r (off kv p.1)) hbx.lt hri.blk.lt (fun W1 k => ?_) (fun w1 k hM => ?_)).mono (fun e w' ⟨he, k, hT⟩ => ⟨he, ⟨_, hT, by have := off_len hs p.1; omega⟩, k⟩)
      · exact (delete32 (h.tt.below k) p.1).mono (fun e w' ⟨he, hd⟩ => ⟨he, hd.2, hd.1⟩)
      · have ir1 := hri.other hbx k
        refine (rdel39 ir1 hs (by omega) p.1).mono (fun e w' ⟨he, hi, hk⟩ => ⟨he, hk, ?_⟩)
        exact ⟨hM.other ir1.blk hk, hi, h.bx, h.br⟩
    · exact (do_none n0 n1).mono (fun e w' ⟨he, b⟩ => ⟨he, same w' b⟩)
end Go.Proofs.Ytgimjjlkniplnaa
