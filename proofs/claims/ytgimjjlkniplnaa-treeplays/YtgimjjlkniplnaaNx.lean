/- Next. -/
import Derived.Test.YtgimjjlkniplnaaRg
namespace Go.Proofs.Ytgimjjlkniplnaa
open Go.RowKit Go.Shelf
set_option maxRecDepth 100000
attribute [local go_sem] Oper.semAt_some
def nextP (kv : List Pr) (k : ByteArray) : Option Pr := (hi kv k).head?
theorem hi_ge (kv : List Pr) (k : ByteArray) : hi kv k = (ge kv k).filter fun p => lt k p.1 := by
  unfold hi ge
  rw [List.filter_filter]
  congr 1
  funext p
  cases h : lt k p.1
  · simp
  · simp [lt_not h]
theorem next_none {kv : List Pr} {k : ByteArray} (h : ∀ p ∈ ge kv k, p.1 = k) : nextP kv k = none := by
  unfold nextP
  rw [hi_ge, filter_none fun p hp => by rw [h p hp]; exact lt_irrefl _]
  rfl
theorem next_some {kv q rest : List Pr} {x : Pr} {k : ByteArray} (e : ge kv k = q ++ x :: rest) (h : ∀ p ∈ q, p.1 = k) (hx : x.1 ≠ k) : nextP kv k = some x := by
  have hge : lt x.1 k = false := by
    have : x ∈ ge kv k := by rw [e]; simp
    have := (List.mem_filter.1 this).2
    simpa using this
  have hlt : lt k x.1 = true := by
    rcases lt_three x.1 k with q | q | q
    · rw [q] at hge; cases hge
    · exact absurd q hx
    · exact q
  unfold nextP
  rw [hi_ge, e, List.filter_append, filter_none fun p hp => by rw [h p hp]; exact lt_irrefl _, List.nil_append, List.filter_cons, if_pos hlt]
  rfl
theorem results_cc {fn : Func} {t u : Tmp} (h : fn.results = #[.cell t 33, .cell u 4]) (tmps : Array Value) (w : World) (b c : Nat) (x y v : Value) (hb : Blk w b [x, y] 33) (hc : Blk w c [v] 4) (ht : tmps.getD t undef = .pointer (some ⟨b, 0, none⟩)) (hu : tmps.getD u undef = .pointer (some ⟨c, 0, none⟩)) :
    (results fn tmps).run Try.prog w = .ok (.tuple #[.agg #[x, y], v]) w := by
  have ht' : tmps[t]?.getD undef = .pointer (some ⟨b, 0, none⟩) := by simpa using ht
  have hu' : tmps[u]?.getD undef = .pointer (some ⟨c, 0, none⟩) := by simpa using hu
  have hr := run_loadVar_mid w b 0 33 [x, y] _ hb.whole Try.underlying33 rfl (by kernel_rfl)
  have c0 := hc.cell 0
  simp only [List.getElem?_cons_zero] at c0
  have hr2 : (loadVar 4 ⟨c, 0, none⟩).run Try.prog w = .ok v w := by simp [loadVar, go_sem, c0]
  simp [results, h, ht', hu', asAddr, hr, hr2]
/-- The boxes. -/
structure In (w : World) (k : ByteArray) (x y v : Value) (O' : Nat → Prop) (q : List Pr) (W' : World) : Prop where
  own : ∀ b, O' b ↔ b = w.heap.size + 1 ∨ b = w.heap.size + 1 + 1
  bk : Blk W' w.heap.size [.string k] 9
  bp : Blk W' (w.heap.size + 1) [x, y] 33
  bb : Blk W' (w.heap.size + 1 + 1) [v] 4
  below : Below w.heap.size w W'
  ok : ∀ p ∈ q, p.1 = k
theorem In.lt {w W' : World} {k : ByteArray} {x y v : Value} {O' : Nat → Prop} {q : List Pr} (h : In w k x y v O' q W') : ∀ b, O' b → b < W'.heap.size := fun b hb => by
  rcases (h.own b).1 hb with rfl | rfl
  · exact h.bp.lt
  · exact h.bb.lt
theorem In.keep {w : World} {k : ByteArray} {x y v : Value} {B : Nat} (hB : w.heap.size + 3 ≤ B) {O' : Nat → Prop} {q : List Pr} {W1 W2 : World} (h : In w k x y v O' q W1) (kk : Keep (fun b => ¬ O' b ∧ B ≤ b) W1 W2) : In w k x y v O' q W2 :=
  ⟨h.own, h.bk.keep kk (by omega), h.bp.keep kk (by omega), h.bb.keep kk (by omega), h.below.trans (kk.below (by have := h.below.size; omega) (fun i hi hn => by omega)), h.ok⟩
def Ixn (w : World) (k : ByteArray) (c : Code) (O' : Nat → Prop) (q : List Pr) (W' : World) : Prop := c = .ret ∧ ∃ q0 x0, q = q0 ++ [x0] ∧ In w k (.string x0.1) (.string x0.2) (.bool true) O' q0 W' ∧ x0.1 ≠ k
set_option maxHeartbeats 1000000 in
theorem next12 {w : World} {tp : Value} {h n : Nat} {x : Bx} {kv : List Pr} (ht : Tp w tp h n x kv) (k : ByteArray) : Calls Try.prog 12 #[tp, .string k] w (FPost w (nextP kv k)) := by
  have kA : Below w.heap.size w (((w.alloc (.cells #[.string k] 9)).alloc (.cells #[.string ⟨#[]⟩, .string ⟨#[]⟩] 33)).alloc (.cells #[.bool false] 4)) := bal (bal (al _ _) _) _
  have b0 : Blk (((w.alloc (.cells #[.string k] 9)).alloc (.cells #[.string ⟨#[]⟩, .string ⟨#[]⟩] 33)).alloc (.cells #[.bool false] 4)) w.heap.size [.string k] 9 := ((blk_new w [.string k] 9).below (al _ _)).below (al _ _)
  have b1 : Blk (((w.alloc (.cells #[.string k] 9)).alloc (.cells #[.string ⟨#[]⟩, .string ⟨#[]⟩] 33)).alloc (.cells #[.bool false] 4)) (w.heap.size + 1) [.string ⟨#[]⟩, .string ⟨#[]⟩] 33 := (blk_at (w.alloc (.cells #[.string k] 9)) [.string ⟨#[]⟩, .string ⟨#[]⟩] 33 (by simp)).below (al _ _)
  have b2 : Blk (((w.alloc (.cells #[.string k] 9)).alloc (.cells #[.string ⟨#[]⟩, .string ⟨#[]⟩] 33)).alloc (.cells #[.bool false] 4)) (w.heap.size + 1 + 1) [.bool false] 4 := blk_at ((w.alloc (.cells #[.string k] 9)).alloc (.cells #[.string ⟨#[]⟩, .string ⟨#[]⟩] 33)) [.bool false] 4 (by simp)
  have s1 : (((w.alloc (.cells #[.string k] 9)).alloc (.cells #[.string ⟨#[]⟩, .string ⟨#[]⟩] 33)).alloc (.cells #[.bool false] 4)).heap.size = w.heap.size + 3 := by simp
  have HT : Hid _ := ht
  refine (callsIn_wide (n := 0)).1 (callsIn_of_wp_marks Try.func12 rfl trivial (wpIn_wide.2 ?_) rfl)
  simp only [Try.ntmps12, List.size_toArray, List.length_cons, List.length_nil, Nat.reduceAdd, Nat.reduceSub, Array.replicate_succ, Array.replicate_zero, List.push_toArray, List.append_toArray, List.nil_append, List.cons_append]
  clear ht
  go_wp2_with fail
  generalize ((w.alloc (.cells #[.string k] 9)).alloc (.cells #[.string ⟨#[]⟩, .string ⟨#[]⟩] 33)).alloc (.cells #[.bool false] 4) = W2 at *
  have k35 := HT.out.top W2.drew kA.drew
  have hS0 : W2.drew.cell? ⟨w.heap.size, 0, none⟩ = some (.string k) := b0.cell 0
  have hS1 : ((W2.drew.alloc (.cells #[.iface x.1 x.2] 60)).alloc (.cells #[.string k] 9)).cell? ⟨w.heap.size, 0, none⟩ = some (.string k) := (Blk.below (W := W2) b0 (bmore (Below.refl _ _).drew (bal (al _ _) _))).cell 0
  go_region_held3 (fun W => W.cell? ⟨w.heap.size, 0, none⟩ = some (.string k)) (first | exact hS0 | exact hS1) (first
    | (go_at_call 35; (with_reducible refine k35.mono ?_); rintro e w1 ⟨rfl, rfl⟩)
    | (go_at_call 34; (with_reducible refine (pairs34 _ _ _).mono ?_); rintro e w1 ⟨rfl, rfl⟩))
  go_wp2_with fail
  have hB3 : Below W2.heap.size W2 ((W2.alloc (.cells #[.iface x.1 x.2] 60)).alloc (.cells #[.string k] 9)).drew := (bal (al _ _) _).drew
  have hbq3 : Bq ((W2.alloc (.cells #[.iface x.1 x.2] 60)).alloc (.cells #[.string k] 9)).drew W2.heap.size x k := (bq_new x k W2).keep (O := fun _ => False) ((Keep.refl _ _).drew) id id
  have hs3 : ((W2.alloc (.cells #[.iface x.1 x.2] 60)).alloc (.cells #[.string k] 9)).drew.heap.size = w.heap.size + 5 := by simp [s1]
  have c0 := b0.below hB3
  have c1 := b1.below hB3
  have c2 := b2.below hB3
  have kB := bmore kA hB3
  generalize ((W2.alloc (.cells #[.iface x.1 x.2] 60)).alloc (.cells #[.string k] 9)).drew = W3 at *
  obtain ⟨B3, hB3e⟩ : ∃ B3, w.heap.size + 3 = B3 := ⟨_, rfl⟩
  rw [s1, show w.heap.size + 3 = B3 from hB3e] at hbq3
  rw [hB3e]
  have HS3 : Hid (W3.heap.size = w.heap.size + 5) := hs3
  have HB3e : Hid (B3 = w.heap.size + 3) := (hB3e).symm
  have HBq3 : Hid _ := hbq3
  have HK3 : Hid (Below w.heap.size w W3) := kB
  have HI0 : Hid (In w k (.string ⟨#[]⟩) (.string ⟨#[]⟩) (.bool false) (fun b => b = w.heap.size + 1 ∨ b = w.heap.size + 1 + 1) [] W3) := ⟨fun b => Iff.rfl, c0, c1, c2, kB, by simp⟩
  have hag3 : Ag w W3 := ⟨kB.size, fun k hk => kB.block k hk⟩
  have HAg : Hid _ := hag3
  clear hs3 s1 hbq3 kB b0 b1 b2 c0 c1 c2 kA k35 hB3 hB3e hag3 hS0 hS1
  refine wpIn_wide.1 (wpIn_range (a := { tmps := #[tp, .string k, undef, .pointer (some ⟨w.heap.size, 0, none⟩), .pointer (some ⟨w.heap.size + 1, 0, none⟩), .pointer (some ⟨w.heap.size + 1 + 1, 0, none⟩), undef, tp, .iface x.1 x.2, .string k, .func (.func 47) #[] #[.pointer (some ⟨B3, 0, none⟩), .pointer (some ⟨B3 + 1, 0, none⟩)], undef, undef, undef, undef, undef, undef, undef], defers := [] }) (gf := 47) (lb := #[.pointer (some ⟨B3, 0, none⟩), .pointer (some ⟨B3 + 1, 0, none⟩)]) rfl eg47 rfl (enc := prV) (xs := ge kv k) (G := Gq w.heap.size B3)
    (fun W' k' => all47 h W' w n x kv B3 k HT.out.part HT.out.srt HT.out.few (HAg.out.keep (O := fun _ => False) (Keep.of k') (fun _ _ => id)) (by have := HB3e.out; omega) (Bq.keep (O := fun _ => False) HBq3.out (Keep.of k') id id)) (fun q hq => by have := HB3e.out; have := HS3.out; unfold Gq at hq; omega)
    (In w k (.string ⟨#[]⟩) (.string ⟨#[]⟩) (.bool false)) (Ixn w k) (fun O' q W' hv => hv.lt) (fun O' q W1 W2 hv kk => hv.keep (by have := HS3.out; omega) kk) (fun c => fun O' q W1 W2 ⟨hc, q0, x0, e, hv, hd⟩ kk => ⟨hc, q0, x0, e, hv.keep (by have := HS3.out; omega) kk, hd⟩)
    (fun b => b = w.heap.size + 1 ∨ b = w.heap.size + 1 + 1) (fun q hq => by have := HB3e.out; have := HS3.out; unfold Gq; omega) HI0.out (fun p blk => { tmps := #[tp, .string k, undef, .pointer (some ⟨w.heap.size, 0, none⟩), .pointer (some ⟨w.heap.size + 1, 0, none⟩), .pointer (some ⟨w.heap.size + 1 + 1, 0, none⟩), .pointer (some ⟨blk, 0, none⟩), tp, .iface x.1 x.2, .string k, .func (.func 47) #[] #[.pointer (some ⟨B3, 0, none⟩), .pointer (some ⟨B3 + 1, 0, none⟩)], prV p, undef, undef, undef, undef, undef, undef], defers := [] }) (fun p => [.string p.1, .string p.2]) 33 ?assign ?body ?done ?stop)
  case assign =>
    intro l' x' W' K hK
    gi_wp2
    exact hK
  case body =>
    intro l' O' pre p W' blk hI hnb hle hsz hblk hpre
    have hbl : Blk W' blk [.string p.1, .string p.2] 33 := hblk
    obtain ⟨z0, z1, -, -⟩ := Blk.c2 hbl
    have t0 := hI.bk.cell 0
    obtain ⟨t1, t2, f1, f2⟩ := Blk.c2 hI.bp
    have t3 := hI.bb.cell 0
    have f3 := hI.bb.frozen 0
    simp only [List.getElem?_cons_zero] at t0 t3
    have HI : Hid _ := hI
    clear hI hbl hblk hnb hle hsz hpre
    by_cases hpk : p.1 = k
    · have he : (p.1.toList == k.toList) = true := by rw [eq_str]; simpa using hpk
      have HPK : Hid _ := hpk
      have HN : Hid (In w k (.string ⟨#[]⟩) (.string ⟨#[]⟩) (.bool false) O' (pre ++ [p]) W') := ⟨HI.out.own, HI.out.bk, HI.out.bp, HI.out.bb, HI.out.below, fun q hq => (List.mem_append.1 hq).elim (HI.out.ok q) (fun hq => by simp at hq; subst hq; exact HPK.out)⟩
      clear hpk
      gi_wp2
      exact ⟨O', HN.out, Grew.refl _ _, Keep.refl _ _⟩
    · have he : (p.1.toList == k.toList) = false := by rw [eq_str]; simpa using hpk
      have HPK : Hid _ := hpk
      clear hpk
      gi_wp2
      have hi := HI.out
      have n01 : w.heap.size ≠ w.heap.size + 1 := by omega
      have n12 : w.heap.size + 1 ≠ w.heap.size + 1 + 1 := by omega
      have kk : Keep O' W' (((W'.setCell ⟨w.heap.size + 1, 0, none⟩ (.string p.1)).setCell ⟨w.heap.size + 1, 1, none⟩ (.string p.2)).setCell ⟨w.heap.size + 1 + 1, 0, none⟩ (.bool true)) := (((Keep.refl O' W').set (.inr ((hi.own _).2 (.inl rfl))) _).set (.inr ((hi.own _).2 (.inl rfl))) _).set (.inr ((hi.own _).2 (.inr rfl))) _
      refine ⟨O', ⟨rfl, pre, p, rfl, ⟨hi.own, hi.bk.keep kk (fun hq => by rcases (hi.own _).1 hq with e | e <;> omega), ((hi.bp.set (o := 0) _).set (o := 1) _).other n12 _, ?_, hi.below.trans (kk.below hi.below.size (fun i hi' hq => by rcases (hi.own _).1 hq with e | e <;> omega)), hi.ok⟩, HPK.out⟩, Grew.refl _ _, kk⟩
      exact ((hi.bb.other (p := ⟨w.heap.size + 1, 0, none⟩) (Ne.symm n12) _).other (p := ⟨w.heap.size + 1, 1, none⟩) (Ne.symm n12) _).set (o := 0) _
  case stop =>
    rintro D c O' pre W' hD nD hpre ⟨rfl, q0, x0, rfl, hI, hx0⟩ hgr hk hd
    have HR : Hid (nextP kv k = some x0) := by
      obtain ⟨rest, hrest⟩ := hpre
      rw [List.append_assoc] at hrest
      exact next_some hrest.symm hI.ok hx0
    have HI : Hid _ := hI
    have Hd : Hid _ := hd
    have HD : Hid _ := hD
    clear hI hgr hk hd hD hpre
    refine wpIn_wide.2 ?_
    go_wp2
    refine leave_marks [D] _ (fun w' kk => ⟨results_cc rfl _ _ (w.heap.size + 1) (w.heap.size + 1 + 1) _ _ _ (HI.out.bp.keep kk (by have := HD.out; have := HS3.out; simp; omega)) (HI.out.bb.keep kk (by have := HD.out; have := HS3.out; simp; omega)) rfl rfl, by rw [HR.out]; rfl, HI.out.below.trans (kk.below (by have := HI.out.below.size; omega) (fun i hi h => by have := HD.out; have := HS3.out; simp at h; omega))⟩) (fun D' h => by simp at h; subst h; exact Hd.out) (by simp)
  case done =>
    rintro D O' W' hD nD hI hgr hk hd
    have HR : Hid (nextP kv k = none) := next_none hI.ok
    obtain ⟨t1, t2, f1, f2⟩ := Blk.c2 hI.bp
    have t3 := hI.bb.cell 0
    have f3 := hI.bb.frozen 0
    simp only [List.getElem?_cons_zero] at t3
    have HI : Hid _ := hI
    have Hd : Hid _ := hd
    have HD : Hid _ := hD
    clear hI hgr hk hd hD
    go_wp2
    have hi := HI.out
    have n12 : w.heap.size + 1 ≠ w.heap.size + 1 + 1 := by omega
    have hD3 := HD.out
    have hS3 := HS3.out
    have kk : Keep (fun b => b = w.heap.size + 1 ∨ b = w.heap.size + 1 + 1) W' (((W'.setCell ⟨w.heap.size + 1, 0, none⟩ (.string ⟨#[]⟩)).setCell ⟨w.heap.size + 1, 1, none⟩ (.string ⟨#[]⟩)).setCell ⟨w.heap.size + 1 + 1, 0, none⟩ (.bool false)) := (((Keep.refl _ W').set (.inr (.inl rfl)) _).set (.inr (.inl rfl)) _).set (.inr (.inr rfl)) _
    have hb1 := ((hi.bp.set (o := 0) (.string ⟨#[]⟩)).set (o := 1) (.string ⟨#[]⟩)).other (p := ⟨w.heap.size + 1 + 1, 0, none⟩) n12 (.bool false)
    have hb2 := ((hi.bb.other (p := ⟨w.heap.size + 1, 0, none⟩) (Ne.symm n12) (.string ⟨#[]⟩)).other (p := ⟨w.heap.size + 1, 1, none⟩) (Ne.symm n12) (.string ⟨#[]⟩)).set (o := 0) (.bool false)
    have hbel := hi.below.trans (kk.below hi.below.size (fun i hi' hq => by omega))
    refine leave_marks [D] _ (fun w' k2 => ⟨results_cc rfl _ _ (w.heap.size + 1) (w.heap.size + 1 + 1) _ _ _ (hb1.keep k2 (by simp; omega)) (hb2.keep k2 (by simp; omega)) rfl rfl, by rw [HR.out]; rfl, hbel.trans (k2.below (by have := hbel.size; omega) (fun i hi h => by simp at h; omega))⟩) (fun D' h => by simp at h; subst h; exact (kk.block D' (Array.getElem?_eq_some_iff.1 Hd.out).1 (by omega)).trans Hd.out) (by simp)
end Go.Proofs.Ytgimjjlkniplnaa
