/- The law ValueBytes: in every good world it answers true. -/
import Derived.Test.YtolggmmlaohpdaaDoorReads
namespace Go.Proofs.YtolggmmlaohpdaaDoor
open Go.RowKit Go.Lib Go.Joins

set_option maxRecDepth 100000 in
set_option maxHeartbeats 4000000 in
/-- The law where the bytes are (none). -/
theorem bytes5_nil (k n : Int) (s : ByteArray) (a : Option Addr) (c : Nat) (w : World) (hn : inI64 n) (hz : s.size ≤ 140737488355328)  (hg : Good w) :
    Calls Tryd.prog 5 #[V k n s, .slice a 0 c] w fun e w' => e = .returned (.bool true) ∧ Below w.heap.size w w' := by
  have hsb : SB w (.slice a 0 c) [] := .inl ⟨_, _, rfl, rfl⟩
  have hk := One.start hg k n s hsb
  have kL : ∀ W, One w w.heap.size k n s (.slice a 0 c) [] W → Calls Tryd.prog 11 #[] W fun e w' => e = .returned (.bool true) ∧ One w w.heap.size k n s (.slice a 0 c) [] w' ∧ Below W.heap.size W w' := fun W h =>
    (live11 (St.start h.2.2.2.1)).mono (by rintro e w' ⟨h1, h2⟩; exact ⟨h1, h.below h2.2, h2.2⟩)
  have k23 : ∀ W, One w w.heap.size k n s (.slice a 0 c) [] W → Calls Tryd.prog 23 #[(.slice a 0 c)] W fun e w' => e = .returned (.tuple #[V (rdV ([])).1 (rdV ([])).2.1 (str (rdV ([])).2.2.1), .int .i64 ((rdV ([])).2.2.2.1 : Nat), .int .i64 ((rdV ([])).2.2.2.2 : Nat)]) ∧ One w w.heap.size k n s (.slice a 0 c) [] w' ∧ Below W.heap.size W w' := fun W h =>
    (read23 _ _ W (by simp) h.2.2.1 h.2.2.2.1).mono (by rintro e w' ⟨h1, h2⟩; exact ⟨h1, h.below h2, h2⟩)
  have k24 : ∀ W, One w w.heap.size k n s (.slice a 0 c) [] W → Calls Tryd.prog 24 #[(.slice a 0 c)] W fun e w' => e = .returned (.tuple #[V (rdV ([])).1 (rdV ([])).2.1 (str (rdV ([])).2.2.1), .int .i64 ((rdV ([])).2.2.2.1 : Nat), .int .i64 ((rdV ([])).2.2.2.2 : Nat)]) ∧ One w w.heap.size k n s (.slice a 0 c) [] w' ∧ Below W.heap.size W w' := fun W h =>
    (read24 _ _ W (by simp) h.2.2.1 h.2.2.2.1).mono (by rintro e w' ⟨h1, h2⟩; exact ⟨h1, h.below h2, h2⟩)
  generalize (rdV ([])).1 = rk at *
  generalize (rdV ([])).2.1 = rn at *
  generalize str (rdV ([])).2.2.1 = rs at *
  generalize (rdV ([])).2.2.2.1 = rc at *
  generalize (rdV ([])).2.2.2.2 = re at *
  cases hR : rightV k n (bs s)
  · have kA : ∀ W, One w w.heap.size k n s (.slice a 0 c) [] W → Calls Tryd.prog 21 #[V k n s] W fun e w' => e = .returned (.tuple #[.slice none 0 0, .int .i64 3]) ∧ One w w.heap.size k n s (.slice a 0 c) [] w' := fun W h =>
      (bytes_no k n s W (by omega) hR h.2.2.2.1).mono (by rintro e w' ⟨h1, h2⟩; exact ⟨h1, h.below h2⟩)
    have kB : ∀ W, One w w.heap.size k n s (.slice a 0 c) [] W → Calls Tryd.prog 22 #[V k n s] W fun e w' => e = .returned (.tuple #[.slice none 0 0, .int .i64 3]) ∧ One w w.heap.size k n s (.slice a 0 c) [] w' := fun W h =>
      (bytes22_no k n s W (by omega) hR h.2.2.2.1).mono (by rintro e w' ⟨h1, h2⟩; exact ⟨h1, h.below h2⟩)
    have cv : ∀ W, (convert 37 9 (.slice none 0 0)).run Tryd.prog W = .ok (.string ByteArray.empty) W := fun W => run_convert_bytes_nil W 37 5 Tryd.underlying37 Tryd.underlying5 0 0 9 Tryd.underlying9
    clear hR hg hn hz hsb
    generalize hB : w.heap.size = B at *
    obtain ⟨c0, c1, c2⟩ := hk.1
    go_enter Tryd.func5, Tryd.ntmps5
    go_wp2_with (first
      | (go_at_call 21; refine (kA _ hk).mono ?_; rintro e w1 ⟨rfl, hk1⟩; clear hk kA; obtain ⟨d0, d1, d2⟩ := hk1.1)
      | (go_at_call 22; refine (kB _ hk1).mono ?_; rintro e w2 ⟨rfl, hk2⟩; clear hk1 kB)
      | (go_at_call 23; refine (k23 _ hk2).mono ?_; rintro e w3 ⟨rfl, hk3, _⟩; clear hk2 k23; have hk3a : ∀ ob, One w B k n s (.slice a 0 c) [] (w3.alloc ob) := fun ob => hk3.below (al _ _))
      | (go_at_call 24; refine (k24 _ (hk3a _)).mono ?_; rintro e w4 ⟨rfl, hk4, hb4⟩; clear hk3 hk3a k24; have g0 := new_cells hb4 0; have g1 := new_cells hb4 1; have g2 := new_cells hb4 2; simp at g0 g1 g2; have hzz : w3.heap.size < w4.heap.size := by { have := hb4.size; simp at this; omega }; have hk4a : ∀ ob, One w B k n s (.slice a 0 c) [] (w4.alloc ob) := fun ob => hk4.below (al _ _); have hb4a := fun o => bmore hb4 (al w4 o))
      | (go_at_call 11; refine (kL _ (hk4a _)).mono ?_; rintro e w5 ⟨rfl, hk5, hb5⟩; have m0 := (new_cells hb5 0).1; have m1 := (new_cells hb5 1).1; have m2 := (new_cells hb5 2).1; simp at m0 m1 m2; have q := bmore (hb4a _) hb5; have q0 := (new_cells q 0).1; have q1 := (new_cells q 1).1; have q2 := (new_cells q 2).1; simp at q0 q1 q2))
    go_ret
    exact ⟨rfl, hB ▸ hk5.2.2.2.2⟩
  · have kA : ∀ W, One w w.heap.size k n s (.slice a 0 c) [] W → Calls Tryd.prog 21 #[V k n s] W fun e w' => ∃ g cc, e = .returned (.tuple #[.slice (some ⟨g, 0, none⟩) (bytesV k n (bs s)).length cc, .int .i64 0]) ∧ At w' g 0 (bytesV k n (bs s)) ∧ One w w.heap.size k n s (.slice a 0 c) [] w' := fun W h =>
      (bytes_yes k n s W hn hR h.2.2.2.1).mono (by
        rintro e w' ⟨v, h1, h2, h3⟩
        obtain ⟨g, cc, rfl, _, _, _, hat⟩ := brow_at h2 (bytesV_pos _ _ _)
        exact ⟨g, cc, h1, hat, h.below h3⟩)
    have kB : ∀ W, One w w.heap.size k n s (.slice a 0 c) [] W → Calls Tryd.prog 22 #[V k n s] W fun e w' => ∃ g cc, e = .returned (.tuple #[.slice (some ⟨g, 0, none⟩) (bytesV k n (bs s)).length cc, .int .i64 0]) ∧ At w' g 0 (bytesV k n (bs s)) ∧ One w w.heap.size k n s (.slice a 0 c) [] w' ∧ Below W.heap.size W w' := fun W h =>
      (bytes22_yes k n s W hn hR h.2.2.2.1).mono (by
        rintro e w' ⟨v, h1, h2, h3⟩
        obtain ⟨g, cc, rfl, _, _, _, hat⟩ := brow_at h2 (bytesV_pos _ _ _)
        exact ⟨g, cc, h1, hat, h.below h3, h3⟩)
    clear hR hg hn hz hsb
    generalize bytesV k n (bs s) = X at *
    generalize hB : w.heap.size = B at *
    obtain ⟨c0, c1, c2⟩ := hk.1
    go_enter Tryd.func5, Tryd.ntmps5
    go_wp2_with (first
      | (go_at_call 21; refine (kA _ hk).mono ?_; rintro e w1 ⟨g, c', rfl, hat, hk1⟩; clear hk kA; obtain ⟨d0, d1, d2⟩ := hk1.1)
      | (go_at_call 22; refine (kB _ hk1).mono ?_; rintro e w2 ⟨g', c'', rfl, hat', hk2, hb2⟩; clear hk1 kB; have hat2 := hat.below hb2; clear hat hb2)
      | (go_at_call 23; refine (k23 _ hk2).mono ?_; rintro e w3 ⟨rfl, hk3, hb3⟩; clear hk2 k23; have hk3a : ∀ ob, One w B k n s (.slice a 0 c) [] (w3.alloc ob) := fun ob => hk3.below (al _ _); have hat3 : ∀ o, At (w3.alloc o) g 0 X := fun o => (hat2.below hb3).below (al _ _); have hat3' : ∀ o, At (w3.alloc o) g' 0 X := fun o => (hat'.below hb3).below (al _ _); clear hat2 hat' hb3)
      | (go_at_call 24; refine (k24 _ (hk3a _)).mono ?_; rintro e w4 ⟨rfl, hk4, hb4⟩; have hat4 : ∀ o, At (w4.alloc o) g 0 X := fun o => ((hat3 _).below hb4).below (al _ _); have hat4' : ∀ o, At (w4.alloc o) g' 0 X := fun o => ((hat3' _).below hb4).below (al _ _); clear hk3 hk3a k24 hat3 hat3'; have hk4a : ∀ ob, One w B k n s (.slice a 0 c) [] (w4.alloc ob) := fun ob => hk4.below (al _ _); have hb4a := fun o => bmore hb4 (al w4 o))
      | (go_at_call 11; refine (kL _ (hk4a _)).mono ?_; rintro e w5 ⟨rfl, hk5, hb5⟩; have m0 := (new_cells hb5 0).1; have m1 := (new_cells hb5 1).1; have m2 := (new_cells hb5 2).1; simp at m0 m1 m2; have q := bmore (hb4a _) hb5; have q0 := (new_cells q 0).1; have q1 := (new_cells q 1).1; have q2 := (new_cells q 2).1; simp at q0 q1 q2; have cv := fun c => conv_at (c := c) ((hat4 _).below hb5); have cv' := fun c => conv_at (c := c) ((hat4' _).below hb5); clear hat4 hat4'))
    go_ret
    exact ⟨rfl, hB ▸ hk5.2.2.2.2⟩

set_option maxRecDepth 100000 in
set_option maxHeartbeats 4000000 in
/-- The law where the bytes are (few). -/
theorem bytes5_few (k n : Int) (s : ByteArray) (b o c m : Nat) (l : Bs) (w : World) (hn : inI64 n) (hz : s.size ≤ 140737488355328) (hm : m ≤ 60) (hsb : SB w (.slice (some ⟨b, o, none⟩) m c) l) (hl : l.length ≤ 140737488355328) (hg : Good w) :
    Calls Tryd.prog 5 #[V k n s, .slice (some ⟨b, o, none⟩) m c] w fun e w' => e = .returned (.bool true) ∧ Below w.heap.size w w' := by
  have hmz : ¬ ((60 : Int) < (m : Int)) := by omega
  have hk := One.start hg k n s hsb
  have kL : ∀ W, One w w.heap.size k n s (.slice (some ⟨b, o, none⟩) m c) l W → Calls Tryd.prog 11 #[] W fun e w' => e = .returned (.bool true) ∧ One w w.heap.size k n s (.slice (some ⟨b, o, none⟩) m c) l w' ∧ Below W.heap.size W w' := fun W h =>
    (live11 (St.start h.2.2.2.1)).mono (by rintro e w' ⟨h1, h2⟩; exact ⟨h1, h.below h2.2, h2.2⟩)
  have k23 : ∀ W, One w w.heap.size k n s (.slice (some ⟨b, o, none⟩) m c) l W → Calls Tryd.prog 23 #[(.slice (some ⟨b, o, none⟩) m c)] W fun e w' => e = .returned (.tuple #[V (rdV (l)).1 (rdV (l)).2.1 (str (rdV (l)).2.2.1), .int .i64 ((rdV (l)).2.2.2.1 : Nat), .int .i64 ((rdV (l)).2.2.2.2 : Nat)]) ∧ One w w.heap.size k n s (.slice (some ⟨b, o, none⟩) m c) l w' ∧ Below W.heap.size W w' := fun W h =>
    (read23 _ _ W hl h.2.2.1 h.2.2.2.1).mono (by rintro e w' ⟨h1, h2⟩; exact ⟨h1, h.below h2, h2⟩)
  have k24 : ∀ W, One w w.heap.size k n s (.slice (some ⟨b, o, none⟩) m c) l W → Calls Tryd.prog 24 #[(.slice (some ⟨b, o, none⟩) m c)] W fun e w' => e = .returned (.tuple #[V (rdV (l)).1 (rdV (l)).2.1 (str (rdV (l)).2.2.1), .int .i64 ((rdV (l)).2.2.2.1 : Nat), .int .i64 ((rdV (l)).2.2.2.2 : Nat)]) ∧ One w w.heap.size k n s (.slice (some ⟨b, o, none⟩) m c) l w' ∧ Below W.heap.size W w' := fun W h =>
    (read24 _ _ W hl h.2.2.1 h.2.2.2.1).mono (by rintro e w' ⟨h1, h2⟩; exact ⟨h1, h.below h2, h2⟩)
  generalize (rdV (l)).1 = rk at *
  generalize (rdV (l)).2.1 = rn at *
  generalize str (rdV (l)).2.2.1 = rs at *
  generalize (rdV (l)).2.2.2.1 = rc at *
  generalize (rdV (l)).2.2.2.2 = re at *
  cases hR : rightV k n (bs s)
  · have kA : ∀ W, One w w.heap.size k n s (.slice (some ⟨b, o, none⟩) m c) l W → Calls Tryd.prog 21 #[V k n s] W fun e w' => e = .returned (.tuple #[.slice none 0 0, .int .i64 3]) ∧ One w w.heap.size k n s (.slice (some ⟨b, o, none⟩) m c) l w' := fun W h =>
      (bytes_no k n s W (by omega) hR h.2.2.2.1).mono (by rintro e w' ⟨h1, h2⟩; exact ⟨h1, h.below h2⟩)
    have kB : ∀ W, One w w.heap.size k n s (.slice (some ⟨b, o, none⟩) m c) l W → Calls Tryd.prog 22 #[V k n s] W fun e w' => e = .returned (.tuple #[.slice none 0 0, .int .i64 3]) ∧ One w w.heap.size k n s (.slice (some ⟨b, o, none⟩) m c) l w' := fun W h =>
      (bytes22_no k n s W (by omega) hR h.2.2.2.1).mono (by rintro e w' ⟨h1, h2⟩; exact ⟨h1, h.below h2⟩)
    have cv : ∀ W, (convert 37 9 (.slice none 0 0)).run Tryd.prog W = .ok (.string ByteArray.empty) W := fun W => run_convert_bytes_nil W 37 5 Tryd.underlying37 Tryd.underlying5 0 0 9 Tryd.underlying9
    clear hR hg hn hz hsb hl
    generalize hB : w.heap.size = B at *
    obtain ⟨c0, c1, c2⟩ := hk.1
    go_enter Tryd.func5, Tryd.ntmps5
    go_wp2_with (first
      | (go_at_call 21; refine (kA _ hk).mono ?_; rintro e w1 ⟨rfl, hk1⟩; clear hk kA; obtain ⟨d0, d1, d2⟩ := hk1.1)
      | (go_at_call 22; refine (kB _ hk1).mono ?_; rintro e w2 ⟨rfl, hk2⟩; clear hk1 kB)
      | (go_at_call 23; refine (k23 _ hk2).mono ?_; rintro e w3 ⟨rfl, hk3, _⟩; clear hk2 k23; have hk3a : ∀ ob, One w B k n s (.slice (some ⟨b, o, none⟩) m c) l (w3.alloc ob) := fun ob => hk3.below (al _ _))
      | (go_at_call 24; refine (k24 _ (hk3a _)).mono ?_; rintro e w4 ⟨rfl, hk4, hb4⟩; clear hk3 hk3a k24; have g0 := new_cells hb4 0; have g1 := new_cells hb4 1; have g2 := new_cells hb4 2; simp at g0 g1 g2; have hzz : w3.heap.size < w4.heap.size := by { have := hb4.size; simp at this; omega }; have hk4a : ∀ ob, One w B k n s (.slice (some ⟨b, o, none⟩) m c) l (w4.alloc ob) := fun ob => hk4.below (al _ _); have hb4a := fun o => bmore hb4 (al w4 o))
      | (go_at_call 11; refine (kL _ (hk4a _)).mono ?_; rintro e w5 ⟨rfl, hk5, hb5⟩; have m0 := (new_cells hb5 0).1; have m1 := (new_cells hb5 1).1; have m2 := (new_cells hb5 2).1; simp at m0 m1 m2; have q := bmore (hb4a _) hb5; have q0 := (new_cells q 0).1; have q1 := (new_cells q 1).1; have q2 := (new_cells q 2).1; simp at q0 q1 q2))
    go_ret
    exact ⟨rfl, hB ▸ hk5.2.2.2.2⟩
  · have kA : ∀ W, One w w.heap.size k n s (.slice (some ⟨b, o, none⟩) m c) l W → Calls Tryd.prog 21 #[V k n s] W fun e w' => ∃ g cc, e = .returned (.tuple #[.slice (some ⟨g, 0, none⟩) (bytesV k n (bs s)).length cc, .int .i64 0]) ∧ At w' g 0 (bytesV k n (bs s)) ∧ One w w.heap.size k n s (.slice (some ⟨b, o, none⟩) m c) l w' := fun W h =>
      (bytes_yes k n s W hn hR h.2.2.2.1).mono (by
        rintro e w' ⟨v, h1, h2, h3⟩
        obtain ⟨g, cc, rfl, _, _, _, hat⟩ := brow_at h2 (bytesV_pos _ _ _)
        exact ⟨g, cc, h1, hat, h.below h3⟩)
    have kB : ∀ W, One w w.heap.size k n s (.slice (some ⟨b, o, none⟩) m c) l W → Calls Tryd.prog 22 #[V k n s] W fun e w' => ∃ g cc, e = .returned (.tuple #[.slice (some ⟨g, 0, none⟩) (bytesV k n (bs s)).length cc, .int .i64 0]) ∧ At w' g 0 (bytesV k n (bs s)) ∧ One w w.heap.size k n s (.slice (some ⟨b, o, none⟩) m c) l w' ∧ Below W.heap.size W w' := fun W h =>
      (bytes22_yes k n s W hn hR h.2.2.2.1).mono (by
        rintro e w' ⟨v, h1, h2, h3⟩
        obtain ⟨g, cc, rfl, _, _, _, hat⟩ := brow_at h2 (bytesV_pos _ _ _)
        exact ⟨g, cc, h1, hat, h.below h3, h3⟩)
    clear hR hg hn hz hsb hl
    generalize bytesV k n (bs s) = X at *
    generalize hB : w.heap.size = B at *
    obtain ⟨c0, c1, c2⟩ := hk.1
    go_enter Tryd.func5, Tryd.ntmps5
    go_wp2_with (first
      | (go_at_call 21; refine (kA _ hk).mono ?_; rintro e w1 ⟨g, c', rfl, hat, hk1⟩; clear hk kA; obtain ⟨d0, d1, d2⟩ := hk1.1)
      | (go_at_call 22; refine (kB _ hk1).mono ?_; rintro e w2 ⟨g', c'', rfl, hat', hk2, hb2⟩; clear hk1 kB; have hat2 := hat.below hb2; clear hat hb2)
      | (go_at_call 23; refine (k23 _ hk2).mono ?_; rintro e w3 ⟨rfl, hk3, hb3⟩; clear hk2 k23; have hk3a : ∀ ob, One w B k n s (.slice (some ⟨b, o, none⟩) m c) l (w3.alloc ob) := fun ob => hk3.below (al _ _); have hat3 : ∀ o, At (w3.alloc o) g 0 X := fun o => (hat2.below hb3).below (al _ _); have hat3' : ∀ o, At (w3.alloc o) g' 0 X := fun o => (hat'.below hb3).below (al _ _); clear hat2 hat' hb3)
      | (go_at_call 24; refine (k24 _ (hk3a _)).mono ?_; rintro e w4 ⟨rfl, hk4, hb4⟩; have hat4 : ∀ o, At (w4.alloc o) g 0 X := fun o => ((hat3 _).below hb4).below (al _ _); have hat4' : ∀ o, At (w4.alloc o) g' 0 X := fun o => ((hat3' _).below hb4).below (al _ _); clear hk3 hk3a k24 hat3 hat3'; have hk4a : ∀ ob, One w B k n s (.slice (some ⟨b, o, none⟩) m c) l (w4.alloc ob) := fun ob => hk4.below (al _ _); have hb4a := fun o => bmore hb4 (al w4 o))
      | (go_at_call 11; refine (kL _ (hk4a _)).mono ?_; rintro e w5 ⟨rfl, hk5, hb5⟩; have m0 := (new_cells hb5 0).1; have m1 := (new_cells hb5 1).1; have m2 := (new_cells hb5 2).1; simp at m0 m1 m2; have q := bmore (hb4a _) hb5; have q0 := (new_cells q 0).1; have q1 := (new_cells q 1).1; have q2 := (new_cells q 2).1; simp at q0 q1 q2; have cv := fun c => conv_at (c := c) ((hat4 _).below hb5); have cv' := fun c => conv_at (c := c) ((hat4' _).below hb5); clear hat4 hat4'))
    go_ret
    exact ⟨rfl, hB ▸ hk5.2.2.2.2⟩

set_option maxRecDepth 100000 in
set_option maxHeartbeats 4000000 in
/-- The law where the bytes are (many). -/
theorem bytes5_many (k n : Int) (s : ByteArray) (b o c m : Nat) (l : Bs) (w : World) (hn : inI64 n) (hz : s.size ≤ 140737488355328) (hm : 60 < m) (hc : 60 ≤ c) (hmm : m ≤ 140737488355328) (hsb : SB w (.slice (some ⟨b, o, none⟩) 60 c) l) (hl : l.length ≤ 140737488355328) (hg : Good w) :
    Calls Tryd.prog 5 #[V k n s, .slice (some ⟨b, o, none⟩) m c] w fun e w' => e = .returned (.bool true) ∧ Below w.heap.size w w' := by
  have hmz : (60 : Int) < (m : Int) := by omega
  have hcz : (60 : Int) ≤ (c : Int) := by omega
  have hk := One.start hg k n s hsb
  have kL : ∀ W, One w w.heap.size k n s (.slice (some ⟨b, o, none⟩) 60 c) l W → Calls Tryd.prog 11 #[] W fun e w' => e = .returned (.bool true) ∧ One w w.heap.size k n s (.slice (some ⟨b, o, none⟩) 60 c) l w' ∧ Below W.heap.size W w' := fun W h =>
    (live11 (St.start h.2.2.2.1)).mono (by rintro e w' ⟨h1, h2⟩; exact ⟨h1, h.below h2.2, h2.2⟩)
  have k23 : ∀ W, One w w.heap.size k n s (.slice (some ⟨b, o, none⟩) 60 c) l W → Calls Tryd.prog 23 #[(.slice (some ⟨b, o, none⟩) 60 c)] W fun e w' => e = .returned (.tuple #[V (rdV (l)).1 (rdV (l)).2.1 (str (rdV (l)).2.2.1), .int .i64 ((rdV (l)).2.2.2.1 : Nat), .int .i64 ((rdV (l)).2.2.2.2 : Nat)]) ∧ One w w.heap.size k n s (.slice (some ⟨b, o, none⟩) 60 c) l w' ∧ Below W.heap.size W w' := fun W h =>
    (read23 _ _ W hl h.2.2.1 h.2.2.2.1).mono (by rintro e w' ⟨h1, h2⟩; exact ⟨h1, h.below h2, h2⟩)
  have k24 : ∀ W, One w w.heap.size k n s (.slice (some ⟨b, o, none⟩) 60 c) l W → Calls Tryd.prog 24 #[(.slice (some ⟨b, o, none⟩) 60 c)] W fun e w' => e = .returned (.tuple #[V (rdV (l)).1 (rdV (l)).2.1 (str (rdV (l)).2.2.1), .int .i64 ((rdV (l)).2.2.2.1 : Nat), .int .i64 ((rdV (l)).2.2.2.2 : Nat)]) ∧ One w w.heap.size k n s (.slice (some ⟨b, o, none⟩) 60 c) l w' ∧ Below W.heap.size W w' := fun W h =>
    (read24 _ _ W hl h.2.2.1 h.2.2.2.1).mono (by rintro e w' ⟨h1, h2⟩; exact ⟨h1, h.below h2, h2⟩)
  generalize (rdV (l)).1 = rk at *
  generalize (rdV (l)).2.1 = rn at *
  generalize str (rdV (l)).2.2.1 = rs at *
  generalize (rdV (l)).2.2.2.1 = rc at *
  generalize (rdV (l)).2.2.2.2 = re at *
  cases hR : rightV k n (bs s)
  · have kA : ∀ W, One w w.heap.size k n s (.slice (some ⟨b, o, none⟩) 60 c) l W → Calls Tryd.prog 21 #[V k n s] W fun e w' => e = .returned (.tuple #[.slice none 0 0, .int .i64 3]) ∧ One w w.heap.size k n s (.slice (some ⟨b, o, none⟩) 60 c) l w' := fun W h =>
      (bytes_no k n s W (by omega) hR h.2.2.2.1).mono (by rintro e w' ⟨h1, h2⟩; exact ⟨h1, h.below h2⟩)
    have kB : ∀ W, One w w.heap.size k n s (.slice (some ⟨b, o, none⟩) 60 c) l W → Calls Tryd.prog 22 #[V k n s] W fun e w' => e = .returned (.tuple #[.slice none 0 0, .int .i64 3]) ∧ One w w.heap.size k n s (.slice (some ⟨b, o, none⟩) 60 c) l w' := fun W h =>
      (bytes22_no k n s W (by omega) hR h.2.2.2.1).mono (by rintro e w' ⟨h1, h2⟩; exact ⟨h1, h.below h2⟩)
    have cv : ∀ W, (convert 37 9 (.slice none 0 0)).run Tryd.prog W = .ok (.string ByteArray.empty) W := fun W => run_convert_bytes_nil W 37 5 Tryd.underlying37 Tryd.underlying5 0 0 9 Tryd.underlying9
    clear hR hg hn hz hsb hl
    generalize hB : w.heap.size = B at *
    obtain ⟨c0, c1, c2⟩ := hk.1
    go_enter Tryd.func5, Tryd.ntmps5
    go_wp2_with (first
      | (go_at_call 21; refine (kA _ hk).mono ?_; rintro e w1 ⟨rfl, hk1⟩; clear hk kA; obtain ⟨d0, d1, d2⟩ := hk1.1)
      | (go_at_call 22; refine (kB _ hk1).mono ?_; rintro e w2 ⟨rfl, hk2⟩; clear hk1 kB)
      | (go_at_call 23; refine (k23 _ hk2).mono ?_; rintro e w3 ⟨rfl, hk3, _⟩; clear hk2 k23; have hk3a : ∀ ob, One w B k n s (.slice (some ⟨b, o, none⟩) 60 c) l (w3.alloc ob) := fun ob => hk3.below (al _ _))
      | (go_at_call 24; refine (k24 _ (hk3a _)).mono ?_; rintro e w4 ⟨rfl, hk4, hb4⟩; clear hk3 hk3a k24; have g0 := new_cells hb4 0; have g1 := new_cells hb4 1; have g2 := new_cells hb4 2; simp at g0 g1 g2; have hzz : w3.heap.size < w4.heap.size := by { have := hb4.size; simp at this; omega }; have hk4a : ∀ ob, One w B k n s (.slice (some ⟨b, o, none⟩) 60 c) l (w4.alloc ob) := fun ob => hk4.below (al _ _); have hb4a := fun o => bmore hb4 (al w4 o))
      | (go_at_call 11; refine (kL _ (hk4a _)).mono ?_; rintro e w5 ⟨rfl, hk5, hb5⟩; have m0 := (new_cells hb5 0).1; have m1 := (new_cells hb5 1).1; have m2 := (new_cells hb5 2).1; simp at m0 m1 m2; have q := bmore (hb4a _) hb5; have q0 := (new_cells q 0).1; have q1 := (new_cells q 1).1; have q2 := (new_cells q 2).1; simp at q0 q1 q2))
    go_ret
    exact ⟨rfl, hB ▸ hk5.2.2.2.2⟩
  · have kA : ∀ W, One w w.heap.size k n s (.slice (some ⟨b, o, none⟩) 60 c) l W → Calls Tryd.prog 21 #[V k n s] W fun e w' => ∃ g cc, e = .returned (.tuple #[.slice (some ⟨g, 0, none⟩) (bytesV k n (bs s)).length cc, .int .i64 0]) ∧ At w' g 0 (bytesV k n (bs s)) ∧ One w w.heap.size k n s (.slice (some ⟨b, o, none⟩) 60 c) l w' := fun W h =>
      (bytes_yes k n s W hn hR h.2.2.2.1).mono (by
        rintro e w' ⟨v, h1, h2, h3⟩
        obtain ⟨g, cc, rfl, _, _, _, hat⟩ := brow_at h2 (bytesV_pos _ _ _)
        exact ⟨g, cc, h1, hat, h.below h3⟩)
    have kB : ∀ W, One w w.heap.size k n s (.slice (some ⟨b, o, none⟩) 60 c) l W → Calls Tryd.prog 22 #[V k n s] W fun e w' => ∃ g cc, e = .returned (.tuple #[.slice (some ⟨g, 0, none⟩) (bytesV k n (bs s)).length cc, .int .i64 0]) ∧ At w' g 0 (bytesV k n (bs s)) ∧ One w w.heap.size k n s (.slice (some ⟨b, o, none⟩) 60 c) l w' ∧ Below W.heap.size W w' := fun W h =>
      (bytes22_yes k n s W hn hR h.2.2.2.1).mono (by
        rintro e w' ⟨v, h1, h2, h3⟩
        obtain ⟨g, cc, rfl, _, _, _, hat⟩ := brow_at h2 (bytesV_pos _ _ _)
        exact ⟨g, cc, h1, hat, h.below h3, h3⟩)
    clear hR hg hn hz hsb hl
    generalize bytesV k n (bs s) = X at *
    generalize hB : w.heap.size = B at *
    obtain ⟨c0, c1, c2⟩ := hk.1
    go_enter Tryd.func5, Tryd.ntmps5
    go_wp2_with (first
      | (go_at_call 21; refine (kA _ hk).mono ?_; rintro e w1 ⟨g, c', rfl, hat, hk1⟩; clear hk kA; obtain ⟨d0, d1, d2⟩ := hk1.1)
      | (go_at_call 22; refine (kB _ hk1).mono ?_; rintro e w2 ⟨g', c'', rfl, hat', hk2, hb2⟩; clear hk1 kB; have hat2 := hat.below hb2; clear hat hb2)
      | (go_at_call 23; refine (k23 _ hk2).mono ?_; rintro e w3 ⟨rfl, hk3, hb3⟩; clear hk2 k23; have hk3a : ∀ ob, One w B k n s (.slice (some ⟨b, o, none⟩) 60 c) l (w3.alloc ob) := fun ob => hk3.below (al _ _); have hat3 : ∀ o, At (w3.alloc o) g 0 X := fun o => (hat2.below hb3).below (al _ _); have hat3' : ∀ o, At (w3.alloc o) g' 0 X := fun o => (hat'.below hb3).below (al _ _); clear hat2 hat' hb3)
      | (go_at_call 24; refine (k24 _ (hk3a _)).mono ?_; rintro e w4 ⟨rfl, hk4, hb4⟩; have hat4 : ∀ o, At (w4.alloc o) g 0 X := fun o => ((hat3 _).below hb4).below (al _ _); have hat4' : ∀ o, At (w4.alloc o) g' 0 X := fun o => ((hat3' _).below hb4).below (al _ _); clear hk3 hk3a k24 hat3 hat3'; have hk4a : ∀ ob, One w B k n s (.slice (some ⟨b, o, none⟩) 60 c) l (w4.alloc ob) := fun ob => hk4.below (al _ _); have hb4a := fun o => bmore hb4 (al w4 o))
      | (go_at_call 11; refine (kL _ (hk4a _)).mono ?_; rintro e w5 ⟨rfl, hk5, hb5⟩; have m0 := (new_cells hb5 0).1; have m1 := (new_cells hb5 1).1; have m2 := (new_cells hb5 2).1; simp at m0 m1 m2; have q := bmore (hb4a _) hb5; have q0 := (new_cells q 0).1; have q1 := (new_cells q 1).1; have q2 := (new_cells q 2).1; simp at q0 q1 q2; have cv := fun c => conv_at (c := c) ((hat4 _).below hb5); have cv' := fun c => conv_at (c := c) ((hat4' _).below hb5); clear hat4 hat4'))
    go_ret
    exact ⟨rfl, hB ▸ hk5.2.2.2.2⟩

theorem bytes5 (k n : Int) (s : ByteArray) (v : Value) (l : Bs) (w : World) (hn : inI64 n) (hz : s.size ≤ 140737488355328) (hl : l.length ≤ 140737488351232) (hsb : SB w v l) (hg : Good w) :
    Calls Tryd.prog 5 #[V k n s, v] w fun e w' => e = .returned (.bool true) ∧ Below w.heap.size w w' := by
  rcases id hsb with ⟨a, c, rfl, rfl⟩ | ⟨b, o, c, rfl, h0, hc, hcm, hat⟩
  · exact bytes5_nil k n s a c w hn hz hg
  · by_cases hm : l.length ≤ 60
    · exact bytes5_few k n s b o c l.length l w hn hz hm hsb (by omega) hg
    · have hz6 : (l.take 60).length = 60 := by rw [List.length_take]; omega
      refine bytes5_many k n s b o c l.length (l.take 60) w hn hz (by omega) (by omega) (by omega) (.inr ⟨b, o, c, by rw [hz6], by omega, by omega, hcm, hat.take 60⟩) (by omega) hg

end Go.Proofs.YtolggmmlaohpdaaDoor
