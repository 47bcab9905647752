/- The log that lives. -/
import Derived.Test.YtnganmekiloigaaHq
import Derived.Lib.SmallJoins
namespace Go.Proofs.Ytnganmekiloigaa
open Go.RowKit
set_option maxRecDepth 100000
variable {w w' : World} {B d s x : Nat} {D : Dk} {W : Wl} {G : List Nat}
theorem land_latest : ∀ (l : List (Nat × Bs)) (k : Nat) (S : List Bs) (i : Nat), i < S.length → (land (fun _ => true) k l S).getD i [] = latest S l i
  | [], _, _, _, _ => rfl
  | y :: r, k, S, i, hi => by
    rw [land, land_latest r (k + 1) _ i (by simpa using hi)]
    simp only [if_true]
    have key : ∀ (r : List (Nat × Bs)) (S T : List Bs), (r.any (fun z => z.1 == i) = false → S.getD i [] = T.getD i []) → latest S r i = latest T r i := by
      intro r
      induction r with
      | nil => intro S T h; exact h rfl
      | cons z r ih =>
        intro S T h
        unfold latest
        by_cases hz : r.any (fun z => z.1 == i) = true
        · rw [if_pos hz, if_pos hz]
          exact ih S T (fun h' => by rw [hz] at h'; cases h')
        · rw [if_neg hz, if_neg hz]
          by_cases hq : z.1 = i
          · rw [if_pos hq, if_pos hq]
          · rw [if_neg hq, if_neg hq]
            refine h ?_
            simp only [List.any_cons, Bool.or_eq_false_iff]
            exact ⟨by simpa using hq, Bool.eq_false_iff.2 hz⟩
    by_cases hy : r.any (fun z => z.1 == i) = true
    · rw [show latest S (y :: r) i = latest S r i by rw [latest, if_pos hy]]
      exact key r _ _ (fun h' => by rw [hy] at h'; cases h')
    · have hy' : r.any (fun z => z.1 == i) = false := Bool.eq_false_iff.2 hy
      have no : ∀ (r : List (Nat × Bs)) (T : List Bs), r.any (fun z => z.1 == i) = false → latest T r i = T.getD i [] := by
        intro r
        induction r with
        | nil => intro T _; rfl
        | cons z r ih =>
          intro T h
          simp only [List.any_cons, Bool.or_eq_false_iff] at h
          unfold latest
          rw [if_neg (by rw [h.2]; simp), if_neg (by simpa using h.1)]
      rw [no r _ hy', latest, if_neg hy]
      by_cases hq : y.1 = i
      · subst hq
        rw [if_pos rfl]
        simp [List.getD_eq_getElem?_getD, hi]
      · rw [if_neg hq]
        simp [List.getD_eq_getElem?_getD, hq]
theorem rdS_land : rdS D = land (fun _ => true) 0 D.wait D.secs := by
  apply List.ext_getElem
  · simp [rdS, land_length]
  · intro i h1 h2
    have hi : i < D.secs.length := by rw [← rdS_length D]; exact h1
    have h3 := rdS_get hi
    rw [List.getElem?_eq_getElem h1] at h3
    have h4 := land_latest D.wait 0 D.secs i hi
    rw [List.getD_eq_getElem?_getD, List.getElem?_eq_getElem h2, Option.getD_some] at h4
    rw [h4]
    exact Option.some.inj h3
/-- Open while something waits: it reads what was written last. -/
theorem open_wait {R h E cnt en u e1 : Nat} {sure more : List Bs} (hA : Alone B w d s D []) (i : Inv R D h E cnt en u e1 sure more) (hR : 2 ≤ R) (hR2 : R ≤ 64) :
    Calls Try.prog 35 #[.pointer (some ⟨d, 0, none⟩)] w fun e w' => ∃ x ua uc, e = .returned (.tuple #[.pointer (some ⟨x, 0, none⟩), .slice ua (sure ++ more).length uc, .int .i64 0]) ∧ Blk w' x (wlC d ⟨h, great (pcs (rdS D)) + 1, (sure ++ more).length, en, false⟩) 111 ∧ RL w' (.slice ua (sure ++ more).length uc) (sure ++ more) ∧ Below w.heap.size w w' ∧ w.heap.size ≤ x := by
  obtain ⟨f1, e', I2⟩ := i.flush (by omega)
  have hS : D.flush.2.secs = rdS D := by
    rw [rdS_land, flush_calm i.cut i.off]
  have hwl : D.wait.length ≤ 100000 := by rw [i.wait, waitOf_length]; have := i.en'; have := i.room; omega
  have hgr : great (pcs D.flush.2.secs) ≤ E := great_bound _ 0 E (Nat.zero_le _) I2.all
  obtain ⟨o1, o2, o3, o4⟩ := I2.opens
  rw [hS] at hgr o1 o2 o3 o4
  refine (open35 hA i.off hwl i.len hR hR2 (by have := i.ep.2; omega)).mono ?_
  rintro e w1 ⟨x, v, vs, rfl, hb, hu, hvs, hB, hx⟩
  rw [o1, o3, o4] at hb
  have hl := hvs.len
  rw [o4] at hl
  obtain ⟨ua, uc, rfl, _⟩ := hu.form
  rw [hl] at hu ⊢
  refine ⟨x, ua, uc, rfl, hb, ⟨vs, hu.read, hl, fun i y b hy hb => ?_⟩, hB, hx⟩
  obtain ⟨r, hr, rfl⟩ : ∃ r, (toldP (rdS D))[i]? = some r ∧ r.b = b := by
    rw [← o2, List.getElem?_map] at hb
    cases hq : (toldP (rdS D))[i]? with
    | none => rw [hq] at hb; cases hb
    | some r => rw [hq] at hb; exact ⟨r, rfl, by simpa using hb⟩
  exact (hvs.at' i y r hy hr).read
theorem lv_frozen (b : UInt8) (fr : Nat × Nat) : LV EB (w.alloc (.cells #[.int .u8 (b.toNat : Int)] 5 fr)) (.slice (some ⟨w.heap.size, 0, none⟩) 1 1) [b] := by
  refine ⟨_, 1, rfl, Nat.le_refl _, fun _ => ⟨w.heap.size, 0, [.int .u8 (b.toNat : Int)], 5, rfl, ⟨fr, World.alloc_heap_new w _⟩, fun j u hu => ?_⟩⟩
  rw [Nat.zero_add]
  exact hu
theorem made60 : ∃ Z : Array Value, Z.toList = cellsB (List.replicate 60 0) ∧ ∀ w : World, (Instr.makeSlice 33 (.int .i64 60) (.int .i64 60)).run Try.prog w = .ok (.slice (some ⟨w.heap.size, 0, none⟩) 60 60) (w.alloc (.cells Z 5)) := by
  obtain ⟨i0, hi0, hz0, hz1, hz2⟩ := info_parts info5z
  refine ⟨madeCells #[.int .u8 0] 60, by kernel_rfl, fun w => ?_⟩
  have h := run_make (P := Try.prog) w 33 5 i0 _ Try.underlying33 hi0 hz0 .i64 .i64 60 60 (by omega) (Int.le_refl _) (by rw [hz2]; omega) (by omega)
  rw [hz1] at h
  exact h
set_option maxHeartbeats 2000000 in
theorem live31 (W0 : World) : Calls Try.prog 31 #[] W0 fun e w' => e = .returned (.bool true) ∧ Below W0.heap.size W0 w' := by
  have c29 := new29 8 W0 (by omega) (by omega)
  obtain ⟨Z, hZ, hmk⟩ := made60
  have HZ : Hid (Z.toList = cellsB (List.replicate 60 0)) := hZ
  clear hZ
  have hcv : ∀ w : World, (convert 33 33 (.slice (some ⟨w.heap.size, 0, none⟩) 1 1)).run Try.prog (w.alloc (.cells #[.int .u8 97] 5)) = .ok (.slice (some ⟨w.heap.size, 0, none⟩) 1 1) (w.alloc (.cells #[.int .u8 97] 5 (1, 2))) := fun w => Joins.run_convert_bytes_const_at w 33 5 #[.int .u8 97] 1 1 _ rfl Try.underlying33 Try.underlying5
  have HAPP : Hid (∀ w2 x, LG W0.heap.size w2 (W0.heap.size + 1) W0.heap.size (newDk (2 * 4)) x ⟨0, 1, 0, 0, false⟩ [] → Below W0.heap.size W0 w2 → Calls Try.prog 42 #[.pointer (some ⟨x, 0, none⟩), .slice (some ⟨w2.heap.size, 0, none⟩) 1 1] (w2.alloc (.cells #[.int .u8 97] 5 (1, 2))) fun e w' => e = .returned (.tuple #[.int .i64 0, .int .i64 0]) ∧ (∃ D, LG W0.heap.size w' (W0.heap.size + 1) W0.heap.size D x ⟨0, 1, 1, 1, false⟩ [] ∧ Inv 4 D 0 1 1 1 0 0 [] [[97]]) ∧ Below W0.heap.size W0 w') := fun w2 x A B => by
    have A5 := A.add (al w2 (.cells #[.int .u8 97] 5 (1, 2))) (Nat.le_refl _) (by simp)
    have I := inv_new 4
    have hf : (0 : Nat) + np [97] ≤ 4 := by decide
    refine (append42_ok (R := 4) (l := [97]) A5 rfl I.cut I.off (by simp [newDk]) I.len (by omega) (.inl rfl) (by decide) (by decide) (lv_frozen 97 (1, 2)) (by decide) (by decide) (fun g o hg => by cases hg; simp) hf).mono ?_
    rintro e w3 ⟨rfl, A3, K3, B3⟩
    exact ⟨rfl, ⟨_, A3.less (by simp), I.append (b := [97]) (by decide) hf rfl⟩, B.trans ((((al w2 _).mono B.size)).trans B3)⟩
  have HFL : Hid (∀ w2 x D, LG W0.heap.size w2 (W0.heap.size + 1) W0.heap.size D x ⟨0, 1, 1, 1, false⟩ [] → Inv 4 D 0 1 1 1 0 0 [] [[97]] → Below W0.heap.size W0 w2 → Calls Try.prog 39 #[.pointer (some ⟨x, 0, none⟩)] w2 fun e w' => e = .returned (.int .i64 0) ∧ (∃ D e1, LG W0.heap.size w' (W0.heap.size + 1) W0.heap.size D x ⟨0, 1, 1, 1, false⟩ [] ∧ Inv 4 D 0 1 1 1 1 e1 [[97]] []) ∧ Below W0.heap.size W0 w') := fun w2 x D A I B => by
    obtain ⟨f1, e', I2⟩ := I.flush (by omega)
    refine (flush39 A rfl f1 (by rw [I.wait, waitOf_length]; have := I.en'; have := I.room; omega) A.glt).mono ?_
    rintro e w3 ⟨rfl, A3, K3, B3⟩
    exact ⟨rfl, ⟨_, e', A3, I2⟩, B.trans B3⟩
  have HAP2 : Hid (∀ w4 x, (∃ D e1, LG W0.heap.size w4 (W0.heap.size + 1) W0.heap.size D x ⟨0, 1, 1, 1, false⟩ [] ∧ Inv 4 D 0 1 1 1 1 e1 [[97]] []) → Below W0.heap.size W0 w4 → Calls Try.prog 42 #[.pointer (some ⟨x, 0, none⟩), .slice (some ⟨w4.heap.size, 0, none⟩) 60 60] (w4.alloc (.cells Z 5)) fun e w' => e = .returned (.tuple #[.int .i64 1, .int .i64 0]) ∧ (∃ D e1, LG W0.heap.size w' (W0.heap.size + 1) W0.heap.size D x ⟨0, 1, 2, 3, false⟩ [] ∧ Inv 4 D 0 1 2 3 1 e1 [[97]] [List.replicate 60 0]) ∧ Below W0.heap.size W0 w') := by
    rintro w4 x ⟨D, e1, A, I⟩ B
    have A5 := A.add (al w4 (.cells Z 5)) (Nat.le_refl _) (by simp)
    have hbk : Blk (w4.alloc (.cells Z 5)) w4.heap.size (cellsB (List.replicate 60 0)) 5 := by rw [← HZ.out]; exact World.alloc_heap_new w4 _
    have hlv : LV EB (w4.alloc (.cells Z 5)) (.slice (some ⟨w4.heap.size, 0, none⟩) 60 60) (List.replicate 60 0) := lv_blk EB (L := List.replicate 60 0) (by rw [EB_cells]; exact hbk) 60 (by decide)
    have hf : (1 : Nat) + np (List.replicate 60 0) ≤ 4 := by decide
    refine (append42_ok (R := 4) (l := List.replicate 60 0) A5 rfl I.cut I.off (by rw [I.wait, waitOf_length]; have := I.en'; have := I.room; omega) I.len (by omega) (.inl rfl) (by decide) (by decide) hlv (by decide) (by decide) (fun g o hg => by cases hg; simp) hf).mono ?_
    rintro e w5 ⟨rfl, A3, K3, B3⟩
    exact ⟨rfl, ⟨_, e1, A3.less (by simp), I.append (b := List.replicate 60 0) (by decide) hf rfl⟩, B.trans ((((al w4 _).mono B.size)).trans B3)⟩
  have HOP : Hid (∀ w5 x, (∃ D e1, LG W0.heap.size w5 (W0.heap.size + 1) W0.heap.size D x ⟨0, 1, 2, 3, false⟩ [] ∧ Inv 4 D 0 1 2 3 1 e1 [[97]] [List.replicate 60 0]) → Below W0.heap.size W0 w5 → Calls Try.prog 35 #[.pointer (some ⟨W0.heap.size + 1, 0, none⟩)] w5 fun e w' => ∃ x2 ua uc, e = .returned (.tuple #[.pointer (some ⟨x2, 0, none⟩), .slice ua 2 uc, .int .i64 0]) ∧
      (∀ W, Below w'.heap.size w' W → (Calls Try.prog 48 #[.pointer (some ⟨x2, 0, none⟩)] W fun e w' => e = .returned (.int .i64 2) ∧ w' = W) ∧ (Calls Try.prog 46 #[.pointer (some ⟨x, 0, none⟩)] W fun e w' => e = .returned (.int .i64 2) ∧ w' = W) ∧ (Calls Try.prog 47 #[.pointer (some ⟨x, 0, none⟩)] W fun e w' => e = .returned (.int .i64 1) ∧ w' = W.drew)) ∧ RL w' (.slice ua 2 uc) [[97], List.replicate 60 0] ∧ Below W0.heap.size W0 w') := by
    rintro w5 x ⟨D, e1, A, I⟩ B
    have hgr : great (pcs (rdS D)) = 1 := by
      obtain ⟨f1, e', I2⟩ := I.flush (by omega)
      have hS : D.flush.2.secs = rdS D := by rw [rdS_land, flush_calm I.cut I.off]
      have h1 : great (pcs D.flush.2.secs) ≤ 1 := great_bound _ 0 1 (Nat.zero_le _) I2.all
      have h2 : 1 ≤ great (pcs D.flush.2.secs) := by
        rcases I2.other with ⟨r, hr, _, _⟩ | ⟨h, _⟩
        · obtain ⟨f, q1, q2, q3, q4, q5, _⟩ := stand_some hr
          have := (great_le (pcs D.flush.2.secs) 0).2 f (mem_half (List.mem_of_getElem? q1))
          have h3 : f.e ≤ great (pcs D.flush.2.secs) := this
          omega
        · simp at h
      rw [hS] at h1 h2
      omega
    refine (open_wait (A.alone.less (by simp)) I (by omega) (by omega)).mono ?_
    rintro e w6 ⟨x2, ua, uc, rfl, hb, hr, B6, hx⟩
    rw [hgr] at hb
    exact ⟨x2, ua, uc, rfl, fun W k => ⟨epoch48 (hb.below k), len46 ((A.wal.below B6).below k), left47 (R := 4) (((A.below B6).below k).disk) ((A.wal.below B6).below k) I.len (by omega) (by decide)⟩, hr, B.trans (B6.mono B.size)⟩
  go_enter Try.func31, Try.ntmps31
  go_wp2_with (first
    | (go_at_call 29; (refine c29.mono ?_; rintro e w1 ⟨rfl, hPD, B1⟩; have k35 := open_new (R := 4) (alone_new29 hPD B1) (by omega) (by omega)))
    | (go_at_call 35; (refine k35.mono ?_; rintro e w2 ⟨x, ua, uc, rfl, A2, -, B2⟩; have k42 := HAPP.out w2 x A2 (B1.trans (B2.mono B1.size)); clear hPD B1 B2 A2 k35))
    | (go_at_call 35; (refine k35b.mono ?_; rintro e w6 ⟨x2, ra, rc, rfl, hc6, hr6, B6⟩; have k47 := (hc6 _ (Below.refl _ w6)).2.2; have k46 := (hc6 _ (Below.refl _ w6).drew).2.1; have k48 := (hc6 _ (Below.refl _ w6).drew).1; have hr7 := hr6.below (Below.refl _ w6).drew; obtain ⟨gr, or, p0, k0, q0, rfl, hc0, hl0⟩ := hr7.at (i := 0) rfl; obtain ⟨gr', or', p1, k1, q1, hra, hc1, hl1⟩ := hr7.at (i := 1) rfl; cases hra; obtain rfl : k1 = 60 := hl1.cap.1; have hs0 := conv_lv hl0 (by simp); rw [show strB [97] = (⟨#[97]⟩ : ByteArray) from rfl] at hs0; rw [Nat.add_zero] at hc0; have HB6 : Hid (Below W0.heap.size W0 w6) := B6; clear hc6 hr6 hr7 hl0 hl1 B6 k35b))
    | (go_at_call 47; (refine k47.mono ?_; rintro e w7 ⟨rfl, rfl⟩))
    | (go_at_call 46; (refine k46.mono ?_; rintro e w7 ⟨rfl, rfl⟩))
    | (go_at_call 48; (refine k48.mono ?_; rintro e w7 ⟨rfl, rfl⟩))
    | (go_at_call 42; (refine k42b.mono ?_; rintro e w5 ⟨rfl, h5, B5⟩; have k35b := HOP.out w5 x h5 B5; clear h5 B5 k42b))
    | (go_at_call 42; (refine k42.mono ?_; rintro e w3 ⟨rfl, ⟨D, A3, I3⟩, B3⟩; have k39 := HFL.out w3 x D A3 I3 B3; clear A3 I3 B3 k42))
    | (go_at_call 39; (refine k39.mono ?_; rintro e w4 ⟨rfl, h4, B4⟩; have k42b := HAP2.out w4 x h4 B4; clear h4 B4 k39)))
  go_ret
  exact ⟨rfl, HB6.out.trans (Below.refl _ _).drew⟩
end Go.Proofs.Ytnganmekiloigaa
