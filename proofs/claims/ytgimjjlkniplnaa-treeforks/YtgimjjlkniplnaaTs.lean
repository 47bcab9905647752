/- Floor, Get, Delete, Len, Height, Count, Fork. -/
import Derived.Test.YtgimjjlkniplnaaTr
namespace Go.Proofs.Ytgimjjlkniplnaa
open Go.RowKit Go.Shelf
set_option maxRecDepth 100000
attribute [local go_sem] ta64_64 ta72_64 ta72_72 ta64_72 tb64_64 tb72_72
set_option maxHeartbeats 400000 in
theorem floor14 {w : World} {t : Nat} {kv : List Pr} (ht : TT w t kv) (k : ByteArray) : Calls Try.prog 14 #[.pointer (some ⟨t, 0, none⟩), .string k] w (FPost w (floorP kv k)) := by
  obtain ⟨h, n, x, hb, hp, hr⟩ := ht.ex
  have hB := al w (.cells #[.string ⟨#[]⟩, .string ⟨#[]⟩] 33)
  have k35 := top35 (hb.below hB)
  have k36 := floor36 (k := k) (hp.below hB) ht.srt (by have := ht.few; omega)
  have hbk := blk_new w [.string ⟨#[]⟩, .string ⟨#[]⟩] 33
  have HBk : Hid (Blk (w.alloc (.cells #[.string ⟨#[]⟩, .string ⟨#[]⟩] 33)) w.heap.size [.string ⟨#[]⟩, .string ⟨#[]⟩] 33) := hbk
  have HB : Hid _ := hB
  unfold FPost at k36
  generalize hP : floorP kv k = P at *
  clear ht hp hb hr hB hbk hP
  go_enter Try.func14, Try.ntmps14
  go_wp2_with (first
    | (go_at_call 35; (with_reducible refine k35.mono ?_); rintro e w1 ⟨rfl, rfl⟩)
    | (go_at_call 36; (with_reducible refine k36.mono ?_); rintro e w2 ⟨rfl, hB2⟩; obtain ⟨e0, e1, f0, f1⟩ := Blk.c2 (HBk.out.below hB2); have HB2 : Hid _ := hB2; clear hB2))
  exact bodyPost_ret (results_cell2 rfl _ _ _ w.heap.size [.string (P.getD noP).1, .string (P.getD noP).2] 33 (Blk.set (o := 1) (Blk.set (o := 0) (HBk.out.below HB2.out) _) _) rfl _ Try.underlying33 rfl (by kernel_rfl)) rfl ⟨rfl, bset (bset (bmore HB.out HB2.out) (Nat.le_refl _) _) (Nat.le_refl _) _⟩
/-- What a key has. -/
def getP (kv : List Pr) (k : ByteArray) : Option ByteArray := (floorP kv k).bind fun p => if p.1 = k then some p.2 else none
def GetPost (w : World) (o : Option ByteArray) (e : Ending) (w' : World) : Prop := e = .returned (.tuple #[.string (o.getD ⟨#[]⟩), .bool o.isSome]) ∧ Below w.heap.size w w'
set_option maxHeartbeats 400000 in
theorem get10 {w : World} {t : Nat} {kv : List Pr} (ht : TT w t kv) (k : ByteArray) : Calls Try.prog 10 #[.pointer (some ⟨t, 0, none⟩), .string k] w (GetPost w (getP kv k)) := by
  have k14 := floor14 ht k
  unfold FPost at k14
  have HG : Hid (getP kv k = (floorP kv k).bind fun p => if p.1 = k then some p.2 else none) := rfl
  generalize floorP kv k = P at *
  cases P with
  | none =>
    have HG2 : Hid (getP kv k = none) := HG.out
    clear HG
    go_enter Try.func10, Try.ntmps10
    go_wp2_with (go_at_call 14; (with_reducible refine k14.mono ?_); rintro e w1 ⟨rfl, hB1⟩)
    go_ret2
    exact ⟨by rw [HG2.out]; rfl, bmore hB1 (al _ _)⟩
  | some p =>
    by_cases hpk : p.1 = k
    · have HG2 : Hid (getP kv k = some p.2) := by show _ = _; rw [HG.out]; simp [hpk]
      have hne : (p.1.toList != k.toList) = false := by rw [hpk]; simp
      have hne2 : (p.1.toList == k.toList) = true := by rw [hpk]; simp
      clear HG hpk
      go_enter Try.func10, Try.ntmps10
      go_wp2_with (go_at_call 14; (with_reducible refine k14.mono ?_); rintro e w1 ⟨rfl, hB1⟩)
      go_ret2
      exact ⟨by rw [HG2.out]; rfl, bmore hB1 (al _ _)⟩
    · have HG2 : Hid (getP kv k = none) := by show _ = _; rw [HG.out]; simp [hpk]
      have hne2 : (p.1.toList == k.toList) = false := by rw [eq_str]; simpa using hpk
      clear HG hpk
      go_enter Try.func10, Try.ntmps10
      go_wp2_with (go_at_call 14; (with_reducible refine k14.mono ?_); rintro e w1 ⟨rfl, hB1⟩)
      go_ret2
      exact ⟨by rw [HG2.out]; rfl, bmore hB1 (al _ _)⟩
end Go.Proofs.Ytgimjjlkniplnaa
