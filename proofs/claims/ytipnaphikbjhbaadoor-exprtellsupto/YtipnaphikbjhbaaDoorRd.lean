/- Which of two values comes first: value.Compare and the document's. · Whether a comparison holds. · Columns and values; which value a column has. · Conditions that hold, and what they ask, by plain data. · The value of a column; whether a part holds; Holds. -/
import Derived.Test.YtipnaphikbjhbaaDoorCmp
import Derived.Test.YtipnaphikbjhbaaDoorRc
/-! ### Which of two values comes first: value.Compare and the document's. -/
namespace Go.Proofs.YtipnaphikbjhbaaDoor
open Go.RowKit Go.Lib
variable {w w' : World}
theorem cmpK (x y : Int) (w : World) : Calls Tryd.prog 35 #[.int .u8 x, .int .u8 y] w fun e w' => e = .returned (.int .i64 (Lib.compareInt x y)) ∧ w' = w := by
  by_cases h1 : x < y
  · have hr : Lib.compareInt x y = -1 := by simp [Lib.compareInt, h1]
    rw [hr]
    go_enter Tryd.func35, Tryd.ntmps35
    go_wp2
    go_ret
    exact ⟨rfl, rfl⟩
  · by_cases h2 : y < x
    · have hr : Lib.compareInt x y = 1 := by simp [Lib.compareInt, h1]; omega
      rw [hr]
      go_enter Tryd.func35, Tryd.ntmps35
      go_wp2
      go_ret
      exact ⟨rfl, rfl⟩
    · have hr : Lib.compareInt x y = 0 := by simp [Lib.compareInt]; omega
      rw [hr]
      go_enter Tryd.func35, Tryd.ntmps35
      go_wp2
      go_ret
      exact ⟨rfl, rfl⟩

theorem cmpI (x y : Int) (w : World) : Calls Tryd.prog 36 #[.int .i64 x, .int .i64 y] w fun e w' => e = .returned (.int .i64 (Lib.compareInt x y)) ∧ w' = w := by
  by_cases h1 : x < y
  · have hr : Lib.compareInt x y = -1 := by simp [Lib.compareInt, h1]
    rw [hr]
    go_enter Tryd.func36, Tryd.ntmps36
    go_wp2
    go_ret
    exact ⟨rfl, rfl⟩
  · by_cases h2 : y < x
    · have hr : Lib.compareInt x y = 1 := by simp [Lib.compareInt, h1]; omega
      rw [hr]
      go_enter Tryd.func36, Tryd.ntmps36
      go_wp2
      go_ret
      exact ⟨rfl, rfl⟩
    · have hr : Lib.compareInt x y = 0 := by simp [Lib.compareInt]; omega
      rw [hr]
      go_enter Tryd.func36, Tryd.ntmps36
      go_wp2
      go_ret
      exact ⟨rfl, rfl⟩

set_option maxRecDepth 100000 in
set_option maxHeartbeats 2000000 in
theorem compare22 (k n : Int) (s : ByteArray) (k' n' : Int) (s' : ByteArray) (w : World) :
    Calls Tryd.prog 22 #[V k n s, V k' n' s'] w fun e w' => e = .returned (.int .i64 (cmpV k n (bs s) k' n' (bs s'))) ∧ Below w.heap.size w w' := by
  have hA : ∀ o o', Below w.heap.size w ((w.alloc o).alloc o') := fun o o' => ((Below.refl _ _).alloc (Nat.le_refl _) o).alloc (by simp) o'
  by_cases hk : k = k'
  · subst hk
    by_cases hn : n = n'
    · subst hn
      have hr : cmpV k n (bs s) k n (bs s') = Lib.compareBytes (bs s) (bs s') := by simp [cmpV]
      rw [hr]
      have c := cmp23 s s'
      go_enter Tryd.func22, Tryd.ntmps22
      go_wp2_with (go_at_call 37; refine (c _).mono ?_; rintro e w1 ⟨rfl, rfl⟩)
      go_ret
      exact ⟨rfl, hA _ _⟩
    · have hr : cmpV k n (bs s) k n' (bs s') = Lib.compareInt n n' := by simp [cmpV, hn]
      have hb : (n != n') = true := by simpa using hn
      rw [hr]
      have c := cmpI n n'
      go_enter Tryd.func22, Tryd.ntmps22
      go_wp2_with (go_at_call 36; refine (c _).mono ?_; rintro e w1 ⟨rfl, rfl⟩)
      go_ret
      exact ⟨rfl, hA _ _⟩
  · have hr : cmpV k n (bs s) k' n' (bs s') = Lib.compareInt k k' := by simp [cmpV, hk]
    have hb : (k != k') = true := by simpa using hk
    rw [hr]
    have c := cmpK k k'
    go_enter Tryd.func22, Tryd.ntmps22
    go_wp2_with (go_at_call 35; refine (c _).mono ?_; rintro e w1 ⟨rfl, rfl⟩)
    go_ret
    exact ⟨rfl, hA _ _⟩

set_option maxRecDepth 100000 in
set_option maxHeartbeats 2000000 in
theorem compare23 (k n : Int) (s : ByteArray) (k' n' : Int) (s' : ByteArray) (w : World) :
    Calls Tryd.prog 23 #[V k n s, V k' n' s'] w fun e w' => e = .returned (.int .i64 (cmpV k n (bs s) k' n' (bs s'))) ∧ Below w.heap.size w w' := by
  have hA : ∀ o o', Below w.heap.size w ((w.alloc o).alloc o') := fun o o' => ((Below.refl _ _).alloc (Nat.le_refl _) o).alloc (by simp) o'
  by_cases h1 : k < k'
  · have hr : cmpV k n (bs s) k' n' (bs s') = -1 := by
      have : k ≠ k' := by omega
      simp [cmpV, this, Lib.compareInt, h1]
    rw [hr]
    go_enter Tryd.func23, Tryd.ntmps23
    go_wp2
    go_ret
    exact ⟨rfl, hA _ _⟩
  · by_cases h2 : k' < k
    · have hr : cmpV k n (bs s) k' n' (bs s') = 1 := by
        have : k ≠ k' := by omega
        simp [cmpV, this, Lib.compareInt, h1]
        omega
      rw [hr]
      go_enter Tryd.func23, Tryd.ntmps23
      go_wp2
      go_ret
      exact ⟨rfl, hA _ _⟩
    · obtain rfl : k = k' := by omega
      by_cases h3 : n < n'
      · have hr : cmpV k n (bs s) k n' (bs s') = -1 := by
          have : n ≠ n' := by omega
          simp [cmpV, this, Lib.compareInt, h3]
        rw [hr]
        go_enter Tryd.func23, Tryd.ntmps23
        go_wp2
        go_ret
        exact ⟨rfl, hA _ _⟩
      · by_cases h4 : n' < n
        · have hr : cmpV k n (bs s) k n' (bs s') = 1 := by
            have : n ≠ n' := by omega
            simp [cmpV, this, Lib.compareInt, h3]
            omega
          rw [hr]
          go_enter Tryd.func23, Tryd.ntmps23
          go_wp2
          go_ret
          exact ⟨rfl, hA _ _⟩
        · obtain rfl : n = n' := by omega
          have hr : cmpV k n (bs s) k n (bs s') = Lib.compareBytes (bs s) (bs s') := by simp [cmpV]
          rw [hr]
          have c := cmp24 s s'
          go_enter Tryd.func23, Tryd.ntmps23
          go_wp2_with (go_at_call 38; refine (c _).mono ?_; rintro e w1 ⟨rfl, rfl⟩)
          go_ret
          exact ⟨rfl, hA _ _⟩

end Go.Proofs.YtipnaphikbjhbaaDoor
/-! ### Whether a comparison holds. -/
namespace Go.Proofs.YtipnaphikbjhbaaDoor
open Go.RowKit Go.Lib
variable {w w' : World}
def cmpO (o : Nat) (r : Int) : Bool := if o = 1 then decide (r = 0) else if o = 2 then !decide (r = 0) else if o = 3 then decide (r < 0) else if o = 4 then decide (r ≤ 0) else if o = 5 then decide (0 < r) else if o = 6 then decide (0 ≤ r) else false
theorem cmpO_else {o : Nat} {r : Int} (h1 : o ≠ 1) (h2 : o ≠ 2) (h3 : o ≠ 3) (h4 : o ≠ 4) (h5 : o ≠ 5) (h6 : o ≠ 6) : cmpO o r = false := by
  unfold cmpO
  rw [if_neg h1, if_neg h2, if_neg h3, if_neg h4, if_neg h5, if_neg h6]
/-- Whether a comparison holds. -/
def cmpsP (o : Nat) (k n : Int) (s : Bs) (k' n' : Int) (s' : Bs) : Bool := if k ≠ k' then false else cmpO o (cmpV k n s k' n' s')
set_option maxRecDepth 100000 in
set_option maxHeartbeats 4000000 in
theorem compares11 (o : Nat) (k n : Int) (s : ByteArray) (k' n' : Int) (s' : ByteArray) (w : World) :
    Calls Tryd.prog 11 #[.int .u8 (o : Int), V k n s, V k' n' s'] w fun e w' => e = .returned (.bool (cmpsP o k n (bs s) k' n' (bs s'))) ∧ Below w.heap.size w w' := by
  have hA : Below w.heap.size w ((w.alloc (.cells #[.int .u8 k, .int .i64 n, .string s] 30)).alloc (.cells #[.int .u8 k', .int .i64 n', .string s'] 30)) := bmore (T.al _ _) (T.al _ _)
  unfold cmpsP
  by_cases hk : k = k'
  · subst hk
    rw [if_neg (by simp)]
    have c := compare22 k n s k n' s' ((w.alloc (.cells #[.int .u8 k, .int .i64 n, .string s] 30)).alloc (.cells #[.int .u8 k, .int .i64 n', .string s'] 30))
    have hb : (k != k) = false := by simp
    have hb2 : (k == k) = true := by simp
    generalize cmpV k n (bs s) k n' (bs s') = r at *
    obtain rfl | rfl | rfl | rfl | rfl | rfl | h : o = 1 ∨ o = 2 ∨ o = 3 ∨ o = 4 ∨ o = 5 ∨ o = 6 ∨ (o ≠ 1 ∧ o ≠ 2 ∧ o ≠ 3 ∧ o ≠ 4 ∧ o ≠ 5 ∧ o ≠ 6) := by omega
    · go_enter Tryd.func11, Tryd.ntmps11
      go_wp2_with (go_at_call 22; (refine c.mono ?_; rintro e w1 ⟨rfl, h1⟩))
      go_ret
      exact ⟨by first | rfl | simp | (simp; rfl), bmore hA h1⟩
    · go_enter Tryd.func11, Tryd.ntmps11
      go_wp2_with (go_at_call 22; (refine c.mono ?_; rintro e w1 ⟨rfl, h1⟩))
      go_ret
      exact ⟨by first | rfl | simp | (simp; rfl), bmore hA h1⟩
    · go_enter Tryd.func11, Tryd.ntmps11
      go_wp2_with (go_at_call 22; (refine c.mono ?_; rintro e w1 ⟨rfl, h1⟩))
      go_ret
      exact ⟨by first | rfl | simp | (simp; rfl), bmore hA h1⟩
    · go_enter Tryd.func11, Tryd.ntmps11
      go_wp2_with (go_at_call 22; (refine c.mono ?_; rintro e w1 ⟨rfl, h1⟩))
      go_ret
      exact ⟨by first | rfl | simp | (simp; rfl), bmore hA h1⟩
    · go_enter Tryd.func11, Tryd.ntmps11
      go_wp2_with (go_at_call 22; (refine c.mono ?_; rintro e w1 ⟨rfl, h1⟩))
      go_ret
      exact ⟨by first | rfl | simp | (simp; rfl), bmore hA h1⟩
    · go_enter Tryd.func11, Tryd.ntmps11
      go_wp2_with (go_at_call 22; (refine c.mono ?_; rintro e w1 ⟨rfl, h1⟩))
      go_ret
      exact ⟨by first | rfl | simp | (simp; rfl), bmore hA h1⟩
    · obtain ⟨h1, h2, h3, h4, h5, h6⟩ := h
      obtain ⟨a1, -, a3, a4, -⟩ := ne_facts h1
      obtain ⟨b1, -, b3, b4, -⟩ := ne_facts h2
      obtain ⟨c1, -, c3, c4, -⟩ := ne_facts h3
      obtain ⟨d1, -, d3, d4, -⟩ := ne_facts h4
      obtain ⟨e1, -, e3, e4, -⟩ := ne_facts h5
      obtain ⟨f1, -, f3, f4, -⟩ := ne_facts h6
      have a1' : ((o : Int) == 1) = false := a1
      have b1' : ((o : Int) == 2) = false := b1
      have c1' : ((o : Int) == 3) = false := c1
      have d1' : ((o : Int) == 4) = false := d1
      have e1' : ((o : Int) == 5) = false := e1
      have f1' : ((o : Int) == 6) = false := f1
      rw [cmpO_else h1 h2 h3 h4 h5 h6]
      clear a1 b1 c1 d1 e1 f1 h1 h2 h3 h4 h5 h6
      go_enter Tryd.func11, Tryd.ntmps11
      go_wp2_with (go_at_call 22; (refine c.mono ?_; rintro e w1 ⟨rfl, h1⟩))
      go_ret
      exact ⟨rfl, bmore hA h1⟩
  · rw [if_pos hk]
    have hb : (k != k') = true := by simpa using hk
    have hb2 : (k == k') = false := beq_eq_false_iff_ne.2 hk
    go_enter Tryd.func11, Tryd.ntmps11
    go_wp2
    go_ret
    exact ⟨rfl, hA⟩
set_option maxRecDepth 100000 in
set_option maxHeartbeats 4000000 in
theorem compares12 (o : Nat) (k n : Int) (s : ByteArray) (k' n' : Int) (s' : ByteArray) (w : World) :
    Calls Tryd.prog 12 #[.int .u8 (o : Int), V k n s, V k' n' s'] w fun e w' => e = .returned (.bool (cmpsP o k n (bs s) k' n' (bs s'))) ∧ Below w.heap.size w w' := by
  have hA : Below w.heap.size w ((w.alloc (.cells #[.int .u8 k, .int .i64 n, .string s] 30)).alloc (.cells #[.int .u8 k', .int .i64 n', .string s'] 30)) := bmore (T.al _ _) (T.al _ _)
  unfold cmpsP
  by_cases hk : k = k'
  · subst hk
    rw [if_neg (by simp)]
    have c := compare23 k n s k n' s' ((w.alloc (.cells #[.int .u8 k, .int .i64 n, .string s] 30)).alloc (.cells #[.int .u8 k, .int .i64 n', .string s'] 30))
    have hb : (k != k) = false := by simp
    have hb2 : (k == k) = true := by simp
    generalize cmpV k n (bs s) k n' (bs s') = r at *
    obtain rfl | rfl | rfl | rfl | rfl | rfl | h : o = 1 ∨ o = 2 ∨ o = 3 ∨ o = 4 ∨ o = 5 ∨ o = 6 ∨ (o ≠ 1 ∧ o ≠ 2 ∧ o ≠ 3 ∧ o ≠ 4 ∧ o ≠ 5 ∧ o ≠ 6) := by omega
    · go_enter Tryd.func12, Tryd.ntmps12
      go_wp2_with (go_at_call 23; (refine c.mono ?_; rintro e w1 ⟨rfl, h1⟩))
      go_ret
      exact ⟨by first | rfl | simp | (simp; rfl), bmore hA h1⟩
    · go_enter Tryd.func12, Tryd.ntmps12
      go_wp2_with (go_at_call 23; (refine c.mono ?_; rintro e w1 ⟨rfl, h1⟩))
      go_ret
      exact ⟨by first | rfl | simp | (simp; rfl), bmore hA h1⟩
    · go_enter Tryd.func12, Tryd.ntmps12
      go_wp2_with (go_at_call 23; (refine c.mono ?_; rintro e w1 ⟨rfl, h1⟩))
      go_ret
      exact ⟨by first | rfl | simp | (simp; rfl), bmore hA h1⟩
    · go_enter Tryd.func12, Tryd.ntmps12
      go_wp2_with (go_at_call 23; (refine c.mono ?_; rintro e w1 ⟨rfl, h1⟩))
      go_ret
      exact ⟨by first | rfl | simp | (simp; rfl), bmore hA h1⟩
    · go_enter Tryd.func12, Tryd.ntmps12
      go_wp2_with (go_at_call 23; (refine c.mono ?_; rintro e w1 ⟨rfl, h1⟩))
      go_ret
      exact ⟨by first | rfl | simp | (simp; rfl), bmore hA h1⟩
    · go_enter Tryd.func12, Tryd.ntmps12
      go_wp2_with (go_at_call 23; (refine c.mono ?_; rintro e w1 ⟨rfl, h1⟩))
      go_ret
      exact ⟨by first | rfl | simp | (simp; rfl), bmore hA h1⟩
    · obtain ⟨h1, h2, h3, h4, h5, h6⟩ := h
      obtain ⟨a1, -, a3, a4, -⟩ := ne_facts h1
      obtain ⟨b1, -, b3, b4, -⟩ := ne_facts h2
      obtain ⟨c1, -, c3, c4, -⟩ := ne_facts h3
      obtain ⟨d1, -, d3, d4, -⟩ := ne_facts h4
      obtain ⟨e1, -, e3, e4, -⟩ := ne_facts h5
      obtain ⟨f1, -, f3, f4, -⟩ := ne_facts h6
      have a1' : ((o : Int) == 1) = false := a1
      have b1' : ((o : Int) == 2) = false := b1
      have c1' : ((o : Int) == 3) = false := c1
      have d1' : ((o : Int) == 4) = false := d1
      have e1' : ((o : Int) == 5) = false := e1
      have f1' : ((o : Int) == 6) = false := f1
      rw [cmpO_else h1 h2 h3 h4 h5 h6]
      clear a1 b1 c1 d1 e1 f1 h1 h2 h3 h4 h5 h6
      go_enter Tryd.func12, Tryd.ntmps12
      go_wp2_with (go_at_call 23; (refine c.mono ?_; rintro e w1 ⟨rfl, h1⟩))
      go_ret
      exact ⟨rfl, bmore hA h1⟩
  · rw [if_pos hk]
    have hb : (k != k') = true := by simpa using hk
    have hb2 : (k == k') = false := beq_eq_false_iff_ne.2 hk
    go_enter Tryd.func12, Tryd.ntmps12
    go_wp2
    go_ret
    exact ⟨rfl, hA⟩
end Go.Proofs.YtipnaphikbjhbaaDoor
/-! ### Columns and values; which value a column has. -/
namespace Go.Proofs.YtipnaphikbjhbaaDoor
open Go.RowKit
set_option maxRecDepth 100000
variable {w w' W0 : World}
abbrev Co := Bs × Nat
abbrev Va := Nat × Int × Bs
def EK : T.Ety Co where
  m := 2
  enc := fun c => [.string (str c.1), .int .u8 (c.2 : Int)]
  tE := 42
  tS := 23
  z := .agg #[.string ⟨#[]⟩, .int .u8 0]
  bytes := 24
  len := fun _ => rfl
  one := fun x u h => by simp at h; rcases h with rfl | rfl <;> rfl
  und := Tryd.underlying23
  info := by kernel_rfl
  zs := rfl
  pos := by decide
  by32 := by decide
def EV : T.Ety Va where
  m := 3
  enc := fun c => [.int .u8 (c.1 : Int), .int .i64 c.2.1, .string (str c.2.2)]
  tE := 30
  tS := 24
  z := .agg #[.int .u8 0, .int .i64 0, .string ⟨#[]⟩]
  bytes := 32
  len := fun _ => rfl
  one := fun x u h => by simp at h; rcases h with rfl | rfl | rfl <;> rfl
  und := Tryd.underlying24
  info := by kernel_rfl
  zs := rfl
  pos := by decide
  by32 := by decide
theorem same41 {b : Nat} {nm : Bs} (cn : Bs) (ck : Nat) (h : w.cell? ⟨b, 0, none⟩ = some (.string (str nm))) : Calls Tryd.prog 41 #[.agg #[.string (str cn), .int .u8 (ck : Int)], .pointer (some ⟨b, 0, none⟩)] w fun e w' => e = .returned (.bool (cn == nm)) ∧ Below w.heap.size w w' := by
  have hb : b < w.heap.size := World.block_lt_of_cell? _ _ h
  have hA := T.al w (.cells #[.string (str cn), .int .u8 (ck : Int)] 42)
  have h2 : (w.alloc (.cells #[.string (str cn), .int .u8 (ck : Int)] 42)).cell? ⟨b, 0, none⟩ = some (.string (str nm)) := (hA.cell (p := ⟨b, 0, none⟩) hb).trans h
  have HA : Hid (Below w.heap.size w (w.alloc (.cells #[.string (str cn), .int .u8 (ck : Int)] 42))) := hA
  by_cases hc : cn = nm
  · subst hc
    have e1 : (cn == cn) = true := by simp
    rw [e1]
    clear h hA hb
    go_enter Tryd.func41, Tryd.ntmps41
    go_wp2
    go_ret
    exact ⟨rfl, HA.out⟩
  · have e1 : (cn == nm) = false := beq_eq_false_iff_ne.2 hc
    rw [e1]
    clear h hA hb
    go_enter Tryd.func41, Tryd.ntmps41
    go_wp2
    go_ret
    exact ⟨rfl, HA.out⟩
/-- The place of the first column of a name. -/
def colN (cols : List Co) (nm : Bs) : Option Nat := cols.findIdx? fun c => c.1 == nm
def colI (cols : List Co) (nm : Bs) : Int := match colN cols nm with | none => -1 | some k => (k : Int)
theorem colN_some {cols : List Co} {nm : Bs} {k : Nat} {c : Co} (h : cols[k]? = some c) (hc : (c.1 == nm) = true) (hno : ∀ (j : Nat) (d : Co), j < k → cols[j]? = some d → (d.1 == nm) = false) : colN cols nm = some k := by
  obtain ⟨hk, rfl⟩ := List.getElem?_eq_some_iff.1 h
  unfold colN
  rw [List.findIdx?_eq_some_iff_getElem]
  exact ⟨hk, hc, fun j hj => by rw [hno j _ hj (List.getElem?_eq_getElem (by omega))]; simp⟩
theorem colN_none {cols : List Co} {nm : Bs} (hno : ∀ (j : Nat) (d : Co), cols[j]? = some d → (d.1 == nm) = false) : colN cols nm = none := by
  unfold colN
  rw [List.findIdx?_eq_none_iff]
  intro x hx
  obtain ⟨j, hj⟩ := List.getElem?_of_mem hx
  exact hno j x hj
set_option maxHeartbeats 4000000 in
theorem index40 {b : Nat} {nm : Bs} {v : Value} {cols : List Co} (h : w.cell? ⟨b, 0, none⟩ = some (.string (str nm))) (hv : T.LV EK w v cols) (hl : cols.length ≤ 1000000) : Calls Tryd.prog 40 #[v, .func (.func 41) #[] #[.pointer (some ⟨b, 0, none⟩)]] w fun e w' => e = .returned (.int .i64 (colI cols nm)) ∧ Below w.heap.size w w' := by
  have hb : b < w.heap.size := World.block_lt_of_cell? _ _ h
  obtain ⟨a, c, rfl⟩ := hv.form
  have H41 : Hid (∀ W cn (ck : Nat), Below w.heap.size w W → Calls Tryd.prog 41 #[.agg #[.string (str cn), .int .u8 (ck : Int)], .pointer (some ⟨b, 0, none⟩)] W fun e w' => e = .returned (.bool (cn == nm)) ∧ Below W.heap.size W w') := fun W cn ck k => same41 cn ck ((k.cell (p := ⟨b, 0, none⟩) hb).trans h)
  have HL : Hid (∀ W, Below w.heap.size w W → T.LV EK W (.slice a cols.length c) cols) := fun W k => hv.below k
  obtain ⟨n, hn⟩ : ∃ n, cols.length = n := ⟨_, rfl⟩
  rw [hn] at hl HL ⊢
  have HN : Hid (cols.length = n) := hn
  clear hn h hv hb
  go_enter Tryd.func40, Tryd.ntmps40
  go_wp2
  go_loopw [8] (fun q wr => ∃ k : Nat, q = .int .i64 (k : Int) ∧ Hid (k ≤ n) ∧ Hid (∀ j d, j < k → cols[j]? = some d → (d.1 == nm) = false) ∧ Hid (Below w.heap.size w wr)) (fun q _ => n - (RowKit.intOf q).toNat)
  case atStart => exact ⟨0, rfl, Nat.zero_le _, fun j d hj => absurd hj (Nat.not_lt_zero _), Below.refl _ _⟩
  case round =>
    obtain ⟨k, rfl, hk, hno, hbel⟩ := hrel
    have hkn := hk.out
    by_cases hlt : k < n
    · have hi : (k : Int) < (n : Int) := by omega
      have h0 : (0 : Int) ≤ (k : Int) := by omega
      have hw1 : IntKind.i64.wrap ((k : Int) + 1) = (k : Int) + 1 := wrap_small _ (by omega) (by omega)
      obtain ⟨⟨cn, ck⟩, hd⟩ : ∃ d, cols[k]? = some d := ⟨_, List.getElem?_eq_getElem (by rw [HN.out]; exact hlt)⟩
      obtain ⟨g, o, rfl, hc⟩ := (HL.out wr hbel.out).at hd
      have e0 : wr.cell? ⟨g, o + k * 2, none⟩ = some (.string (str cn)) := hc 0 (by decide)
      have e1 : wr.cell? ⟨g, o + k * 2 + 1, none⟩ = some (.int .u8 (ck : Int)) := hc 1 (by decide)
      have k41 := H41.out wr cn ck hbel.out
      have HD : Hid (cols[k]? = some (cn, ck)) := hd
      clear hc hd
      cases hcn : (cn == nm)
      · rw [hcn] at k41
        have HX : Hid (∀ j d, j < k + 1 → cols[j]? = some d → (d.1 == nm) = false) := fun j d hj hjd => by
          by_cases hjk : j = k
          · subst hjk
            rw [HD.out] at hjd
            cases hjd
            exact hcn
          · exact hno.out j d (by omega) hjd
        clear hcn
        go_wp2_with (go_at_call 41; (refine k41.mono ?_; rintro e w1 ⟨rfl, k1⟩; have HB1 : Hid (Below w.heap.size w w1) := bmore hbel.out k1; clear k1))
        go_roundw
        case rel => exact ⟨k + 1, by simp, by show _ ≤ _; omega, HX, HB1⟩
        case measure => simp [RowKit.intOf]; omega
      · rw [hcn] at k41
        have HX : Hid (colI cols nm = (k : Int)) := by
          show colI cols nm = _
          unfold colI
          rw [colN_some HD.out hcn hno.out]
        clear hcn
        go_wp2_with (go_at_call 41; (refine k41.mono ?_; rintro e w1 ⟨rfl, k1⟩; have HB1 : Hid (Below w.heap.size w w1) := bmore hbel.out k1; clear k1))
        rw [HX.out]
        go_ret
        exact ⟨rfl, HB1.out⟩
    · obtain rfl : k = n := by omega
      have hi : ¬ (k : Int) < (k : Int) := by omega
      have HX : Hid (colI cols nm = -1) := by
        show colI cols nm = _
        unfold colI
        rw [colN_none (fun j d hd => hno.out j d (by have := (List.getElem?_eq_some_iff.1 hd).1; have := HN.out; omega) hd)]
      go_wp2
      rw [HX.out]
      go_ret
      exact ⟨rfl, hbel.out⟩
/-- The value of the first column of a name. -/
def valOf (cols : List Co) (vals : List Va) (nm : Bs) : Option Va := (colN cols nm).bind fun k => vals[k]?
end Go.Proofs.YtipnaphikbjhbaaDoor
/-! ### Conditions that hold, and what they ask, by plain data. -/
namespace Go.Proofs.YtipnaphikbjhbaaDoor
open Go.RowKit Go.Lib
theorem cmpV0 {k n : Int} {s : Bs} {k' n' : Int} {s' : Bs} (h : cmpV k n s k' n' s' = 0) : k = k' ∧ n = n' ∧ s = s' := by
  unfold cmpV at h
  split at h
  · unfold compareInt at h
    split at h
    · omega
    · split at h <;> omega
  · split at h
    · unfold compareInt at h
      split at h
      · omega
      · split at h <;> omega
    · exact ⟨by omega, by omega, cb_zero _ _ h⟩
/-- Whether a part holds. -/
def holdsP (cols : List Co) (vals : List Va) (x : Cd) (l : List Bool) : Bool :=
  if x.k = 1 then (match valOf cols vals x.col with | none => false | some v => cmpsP x.op v.1 v.2.1 v.2.2 x.vk x.vn x.vt)
  else if x.k = 2 then !decide (false ∈ l) else if x.k = 3 then decide (true ∈ l) else if x.k = 4 then !(l.headD false) else false
/-- Whether a condition holds. -/
def holdsV (cols : List Co) (vals : List Va) (cs : List Cd) : Bool := if cs.length = 0 then true else resN (holdsP cols vals) false cs (cs.length - 1)
theorem holdsP_and {cols : List Co} {vals : List Va} {x : Cd} {l : List Bool} (h : x.k = 2) : holdsP cols vals x l = !decide (false ∈ l) := by
  unfold holdsP
  rw [if_neg (by omega), if_pos h]
theorem firstD_mem {l : List Dm} (h : (firstD l).2 = true) : firstD l ∈ l := by
  unfold firstD at h ⊢
  cases hf : l.find? (fun d => d.2) with
  | none => rw [hf] at h; cases h
  | some d => exact List.mem_of_find?_eq_some hf
theorem equal_holds {cols : List Co} {vals : List Va} {cs : List Cd} {nm : Bs} : ∀ j, resN (holdsP cols vals) false cs j = true → (resN (equalP nm) dm0 cs j).2 = true → valOf cols vals nm = some (resN (equalP nm) dm0 cs j).1 := by
  intro j
  induction j using Nat.strongRecOn with
  | _ j ih =>
  intro h1 h2
  rw [resN_eq] at h1 h2 ⊢
  generalize hx : cs.getD j cd0 = x at *
  unfold equalP at h2 ⊢
  by_cases c1 : x.k = 1 ∧ x.op = 1 ∧ x.col = nm
  · rw [if_pos c1] at h2 ⊢
    obtain ⟨d1, d2, rfl⟩ := c1
    unfold holdsP at h1
    rw [if_pos d1] at h1
    cases hv : valOf cols vals x.col with
    | none => rw [hv] at h1; cases h1
    | some v =>
      rw [hv, d2] at h1
      simp only at h1
      unfold cmpsP at h1
      split at h1
      · cases h1
      · unfold cmpO at h1
        rw [if_pos rfl] at h1
        obtain ⟨e1, e2, e3⟩ := cmpV0 (of_decide_eq_true h1)
        have e1' : v.1 = x.vk := by omega
        rw [← e1', ← e2, ← e3]
  · rw [if_neg c1] at h2 ⊢
    by_cases c2 : x.k = 2
    · rw [if_pos c2] at h2 ⊢
      have hm := firstD_mem h2
      obtain ⟨k, hk, hd⟩ := List.mem_map.1 hm
      rw [← hd] at h2 ⊢
      refine ih k (kidsU_lt hk) ?_ h2
      rw [holdsP_and c2] at h1
      have hf : ¬ false ∈ (kidsU x.kids j).map (resN (holdsP cols vals) false cs) := by simpa using h1
      cases hr : resN (holdsP cols vals) false cs k with
      | true => rfl
      | false => exact absurd (List.mem_map.2 ⟨k, hk, hr⟩) hf
    · rw [if_neg c2] at h2
      cases h2
/-- Where a condition holds, the column has the value that Equal tells. -/
theorem equalV_holds {cols : List Co} {vals : List Va} {cs : List Cd} {nm : Bs} (h : holdsV cols vals cs = true) (h2 : (equalV cs nm).2 = true) : valOf cols vals nm = some (equalV cs nm).1 := by
  unfold holdsV at h
  unfold equalV at h2 ⊢
  by_cases h0 : cs.length = 0
  · rw [if_pos h0] at h2; cases h2
  · rw [if_neg h0] at h h2 ⊢
    exact equal_holds _ h h2
theorem resN_app {α : Type} (made : Cd → List α → α) (z : α) (cs ds : List Cd) : ∀ j, j < cs.length → resN made z (cs ++ ds) j = resN made z cs j := by
  intro j
  induction j using Nat.strongRecOn with
  | _ j ih =>
  intro hj
  rw [resN_eq, resN_eq]
  have e : (cs ++ ds).getD j cd0 = cs.getD j cd0 := by rw [List.getD_eq_getElem?_getD, List.getD_eq_getElem?_getD, List.getElem?_append_left hj]
  rw [e]
  congr 1
  apply List.map_congr_left
  intro k hk
  exact ih k (kidsU_lt hk) (Nat.lt_trans (kidsU_lt hk) hj)
/-- A condition, negated. -/
def negP (cs : List Cd) : List Cd := if cs.length = 0 then [⟨1, [], 0, 0, 0, [], []⟩] else cs ++ [⟨4, [], 0, 0, 0, [], [((cs.length - 1 : Nat) : Int)]⟩]
theorem holds_neg (cols : List Co) (vals : List Va) (cs : List Cd) : holdsV cols vals (negP cs) = !holdsV cols vals cs := by
  unfold negP
  by_cases h0 : cs.length = 0
  · rw [if_pos h0]
    have e1 : holdsV cols vals cs = true := by unfold holdsV; rw [if_pos h0]
    rw [e1]
    unfold holdsV
    rw [if_neg (by simp), resN_eq]
    show holdsP cols vals ⟨1, [], 0, 0, 0, [], []⟩ _ = false
    unfold holdsP
    rw [if_pos rfl]
    cases valOf cols vals [] with
    | none => rfl
    | some v =>
      show cmpsP 0 _ _ _ _ _ _ = false
      unfold cmpsP
      split
      · rfl
      · rfl
  · rw [if_neg h0]
    unfold holdsV
    rw [if_neg h0, if_neg (by simp)]
    have hl : (cs ++ [(⟨4, [], 0, 0, 0, [], [((cs.length - 1 : Nat) : Int)]⟩ : Cd)]).length - 1 = cs.length := by simp
    rw [hl, resN_eq]
    have e : (cs ++ [(⟨4, [], 0, 0, 0, [], [((cs.length - 1 : Nat) : Int)]⟩ : Cd)]).getD cs.length cd0 = ⟨4, [], 0, 0, 0, [], [((cs.length - 1 : Nat) : Int)]⟩ := by simp
    rw [e]
    have ek : kidsU [((cs.length - 1 : Nat) : Int)] cs.length = [cs.length - 1] := by
      unfold kidsU
      simp only [List.filterMap_cons, List.filterMap_nil]
      rw [if_pos (by omega)]
      simp
    simp only [ek, List.map_cons, List.map_nil]
    rw [resN_app _ _ _ _ _ (by omega)]
    unfold holdsP
    simp
/-- The names in a condition. -/
def colsP (cs : List Cd) : List Bs := cs.foldl (fun ns x => if x.k = 1 ∧ x.col ∉ ns then ns ++ [x.col] else ns) []
theorem colsP_grow (cs : List Cd) : ∀ (ns : List Bs) (b : Bs), b ∈ ns → b ∈ cs.foldl (fun ns x => if x.k = 1 ∧ x.col ∉ ns then ns ++ [x.col] else ns) ns := by
  induction cs with
  | nil => intro ns b h; exact h
  | cons x cs ih =>
    intro ns b h
    rw [List.foldl_cons]
    apply ih
    split
    · exact List.mem_append_left _ h
    · exact h
theorem colsP_in (cs : List Cd) : ∀ (ns : List Bs) (x : Cd), x ∈ cs → x.k = 1 → x.col ∈ cs.foldl (fun ns x => if x.k = 1 ∧ x.col ∉ ns then ns ++ [x.col] else ns) ns := by
  induction cs with
  | nil => intro ns x h; cases h
  | cons y cs ih =>
    intro ns x h hk
    rw [List.foldl_cons]
    rcases List.mem_cons.1 h with rfl | h
    · apply colsP_grow
      by_cases hc : x.col ∈ ns
      · rw [if_neg (fun e => e.2 hc)]; exact hc
      · rw [if_pos ⟨hk, hc⟩]; simp
    · exact ih _ x h hk
theorem colsP_mem {cs : List Cd} {x : Cd} (h : x ∈ cs) (hk : x.k = 1) : x.col ∈ colsP cs := colsP_in cs [] x h hk
theorem colsP_take {cs : List Cd} {k : Nat} {x : Cd} (h : cs[k]? = some x) : colsP (cs.take (k + 1)) = if x.k = 1 ∧ x.col ∉ colsP (cs.take k) then colsP (cs.take k) ++ [x.col] else colsP (cs.take k) := by
  obtain ⟨hk, rfl⟩ := List.getElem?_eq_some_iff.1 h
  unfold colsP
  rw [List.take_succ_eq_append_getElem hk, List.foldl_append]
  rfl
theorem colsP_len (cs : List Cd) : (colsP cs).length ≤ cs.length := by
  have : ∀ (cs : List Cd) (ns : List Bs), (cs.foldl (fun ns x => if x.k = 1 ∧ x.col ∉ ns then ns ++ [x.col] else ns) ns).length ≤ ns.length + cs.length := by
    intro cs
    induction cs with
    | nil => intro ns; exact Nat.le_refl _
    | cons x cs ih =>
      intro ns
      rw [List.foldl_cons]
      refine Nat.le_trans (ih _) ?_
      split
      · simp only [List.length_append, List.length_cons, List.length_nil]; omega
      · simp only [List.length_cons]; omega
  simpa [colsP] using this cs []
/-- Values that are the same wherever a column is named. -/
theorem holds_hangs {cols : List Co} {vals vals' : List Va} {cs : List Cd} (h : ∀ nm, nm ∈ colsP cs → valOf cols vals' nm = valOf cols vals nm) : holdsV cols vals' cs = holdsV cols vals cs := by
  have key : ∀ j, resN (holdsP cols vals') false cs j = resN (holdsP cols vals) false cs j := by
    intro j
    induction j using Nat.strongRecOn with
    | _ j ih =>
    rw [resN_eq, resN_eq]
    have e : (kidsU (cs.getD j cd0).kids j).map (resN (holdsP cols vals') false cs) = (kidsU (cs.getD j cd0).kids j).map (resN (holdsP cols vals) false cs) := List.map_congr_left fun k hk => ih k (kidsU_lt hk)
    rw [e]
    unfold holdsP
    by_cases h1 : (cs.getD j cd0).k = 1
    · rw [if_pos h1, if_pos h1]
      have hm : cs.getD j cd0 ∈ cs := by
        by_cases hj : j < cs.length
        · rw [List.getD_eq_getElem?_getD, List.getElem?_eq_getElem hj]
          exact List.getElem_mem hj
        · exfalso
          rw [List.getD_eq_getElem?_getD, List.getElem?_eq_none (by omega)] at h1
          simp [cd0] at h1
      rw [h _ (colsP_mem hm h1)]
    · rw [if_neg h1, if_neg h1]
  unfold holdsV
  rw [key]
/-- .. as ExprHangs puts other values in. -/
theorem valOf_other {cols : List Co} {vals vals' : List Va} {nm : Bs} (h : ∀ (i : Nat) (c : Co), cols[i]? = some c → c.1 = nm → vals'[i]? = vals[i]?) : valOf cols vals' nm = valOf cols vals nm := by
  unfold valOf
  cases hc : colN cols nm with
  | none => rfl
  | some k =>
    unfold colN at hc
    rw [List.findIdx?_eq_some_iff_getElem] at hc
    obtain ⟨hk, hp, _⟩ := hc
    exact h k _ (List.getElem?_eq_getElem hk) (by simpa using hp)
theorem colN_first {cols : List Co} {i : Nat} {c : Co} (h : cols[i]? = some c) (hf : ∀ (k : Nat) (d : Co), k < i → cols[k]? = some d → d.1 ≠ c.1) : colN cols c.1 = some i := by
  obtain ⟨hi, rfl⟩ := List.getElem?_eq_some_iff.1 h
  unfold colN
  rw [List.findIdx?_eq_some_iff_getElem]
  exact ⟨hi, by simp, fun j hj => by simpa using hf j _ hj (List.getElem?_eq_getElem (by omega))⟩
end Go.Proofs.YtipnaphikbjhbaaDoor
/-! ### The value of a column; whether a part holds; Holds. -/
namespace Go.Proofs.YtipnaphikbjhbaaDoor
open Go.RowKit
set_option maxRecDepth 100000
variable {w w' W0 : World}
theorem colN_lt {cols : List Co} {nm : Bs} {k : Nat} (h : colN cols nm = some k) : k < cols.length := by
  unfold colN at h
  rw [List.findIdx?_eq_some_iff_getElem] at h
  exact h.1
set_option maxHeartbeats 4000000 in
theorem value26 {cv vv : Value} {cols : List Co} {vals : List Va} (nm : Bs) (hcv : T.LV EK w cv cols) (hvv : T.LV EV w vv vals) (hl : cols.length ≤ 1000000) :
    Calls Tryd.prog 26 #[.string (str nm), cv, vv] w fun e w' => e = .returned (.tuple #[vlV ((valOf cols vals nm).getD (0, 0, [])), .bool (valOf cols vals nm).isSome]) ∧ Below w.heap.size w w' := by
  have a1 := T.al w (.cells #[.string (str nm)] 9)
  have a2 := T.al (w.alloc (.cells #[.string (str nm)] 9)) (.cells #[.int .u8 0, .int .i64 0, .string ⟨#[]⟩] 30)
  have a12 := bmore a1 a2
  have hbx : ((w.alloc (.cells #[.string (str nm)] 9)).alloc (.cells #[.int .u8 0, .int .i64 0, .string ⟨#[]⟩] 30)).cell? ⟨w.heap.size, 0, none⟩ = some (.string (str nm)) := ((T.blk_new w [.string (str nm)] 9).below a2).cell 0
  have hbr : T.Blk ((w.alloc (.cells #[.string (str nm)] 9)).alloc (.cells #[.int .u8 0, .int .i64 0, .string ⟨#[]⟩] 30)) (w.heap.size + 1) [.int .u8 0, .int .i64 0, .string ⟨#[]⟩] 30 := T.blk_at (w.alloc (.cells #[.string (str nm)] 9)) _ 30 (by simp)
  have k40 := index40 hbx (hcv.below a12) hl
  obtain ⟨ca, cc, rfl⟩ := hcv.form
  obtain ⟨va, vc, rfl⟩ := hvv.form
  have HV : Hid (∀ w9, Below ((w.alloc (.cells #[.string (str nm)] 9)).alloc (.cells #[.int .u8 0, .int .i64 0, .string ⟨#[]⟩] 30)).heap.size ((w.alloc (.cells #[.string (str nm)] 9)).alloc (.cells #[.int .u8 0, .int .i64 0, .string ⟨#[]⟩] 30)) w9 → T.LV EV w9 (.slice va vals.length vc) vals) := fun w9 k9 => (hvv.below a12).below k9
  have HF : Hid (∀ w9 v0 v1 v2, Below ((w.alloc (.cells #[.string (str nm)] 9)).alloc (.cells #[.int .u8 0, .int .i64 0, .string ⟨#[]⟩] 30)).heap.size ((w.alloc (.cells #[.string (str nm)] 9)).alloc (.cells #[.int .u8 0, .int .i64 0, .string ⟨#[]⟩] 30)) w9 → ((w9.cell? ⟨w.heap.size + 1, 0, none⟩ = some (.int .u8 0) ∧ w9.frozen? ⟨w.heap.size + 1, 0, none⟩ = false ∧ (w9.setCell ⟨w.heap.size + 1, 0, none⟩ v0).cell? ⟨w.heap.size + 1, 1, none⟩ = some (.int .i64 0) ∧ (w9.setCell ⟨w.heap.size + 1, 0, none⟩ v0).frozen? ⟨w.heap.size + 1, 1, none⟩ = false ∧ ((w9.setCell ⟨w.heap.size + 1, 0, none⟩ v0).setCell ⟨w.heap.size + 1, 1, none⟩ v1).cell? ⟨w.heap.size + 1, 2, none⟩ = some (.string ⟨#[]⟩) ∧ ((w9.setCell ⟨w.heap.size + 1, 0, none⟩ v0).setCell ⟨w.heap.size + 1, 1, none⟩ v1).frozen? ⟨w.heap.size + 1, 2, none⟩ = false) ∧ ((((w9.setCell ⟨w.heap.size + 1, 0, none⟩ v0).setCell ⟨w.heap.size + 1, 1, none⟩ v1).setCell ⟨w.heap.size + 1, 2, none⟩ v2).cell? ⟨w.heap.size + 1, 0, none⟩ = some v0 ∧ (((w9.setCell ⟨w.heap.size + 1, 0, none⟩ v0).setCell ⟨w.heap.size + 1, 1, none⟩ v1).setCell ⟨w.heap.size + 1, 2, none⟩ v2).cell? ⟨w.heap.size + 1, 1, none⟩ = some v1 ∧ (((w9.setCell ⟨w.heap.size + 1, 0, none⟩ v0).setCell ⟨w.heap.size + 1, 1, none⟩ v1).setCell ⟨w.heap.size + 1, 2, none⟩ v2).cell? ⟨w.heap.size + 1, 2, none⟩ = some v2)) ∧ Hid (Below w.heap.size w (((w9.setCell ⟨w.heap.size + 1, 0, none⟩ v0).setCell ⟨w.heap.size + 1, 1, none⟩ v1).setCell ⟨w.heap.size + 1, 2, none⟩ v2))) := fun w9 v0 v1 v2 k9 => by
    have hb := hbr.below k9
    exact ⟨bx3 hb v0 v1 v2, (T.bset (T.bset (T.bset (a12.trans (k9.mono a12.size)) (p := ⟨w.heap.size + 1, 0, none⟩) (show w.heap.size ≤ w.heap.size + 1 by omega) _) (p := ⟨w.heap.size + 1, 1, none⟩) (show w.heap.size ≤ w.heap.size + 1 by omega) _) (p := ⟨w.heap.size + 1, 2, none⟩) (show w.heap.size ≤ w.heap.size + 1 by omega) _)⟩
  have hz : vlV (0, 0, []) = .agg #[.int .u8 0, .int .i64 0, .string ⟨#[]⟩] := rfl
  unfold colI at k40
  unfold valOf
  obtain ⟨m, hm⟩ : ∃ m, vals.length = m := ⟨_, rfl⟩
  cases hk : colN cols nm with
  | none =>
    rw [hk] at k40
    simp only [Option.bind_none, Option.getD_none, Option.isSome_none]
    rw [hz]
    rw [hm] at *
    generalize cols.length = n at *
    clear a1 a2 a12 hbr hbx hcv hvv hl hk HV hm
    go_enter Tryd.func26, Tryd.ntmps26
    go_wp2_with (go_at_call 40; (refine Calls.mono k40 ?_; rintro e w9 ⟨rfl, k9⟩; obtain ⟨⟨⟨x0, x1, x2, x3, x4, x5⟩, r0, r1, r2⟩, d13⟩ := HF.out w9 (.int .u8 0) (.int .i64 0) (.string ⟨#[]⟩) k9; clear k9))
    exact bodyPost_ret (v := .tuple #[.agg #[.int .u8 0, .int .i64 0, .string ⟨#[]⟩], .bool false]) (by simp [results, Tryd.results26, go_sem, r0, r1, r2]) rfl ⟨rfl, d13.out⟩
  | some k =>
    have hkl := colN_lt hk
    rw [hk] at k40
    simp only [Option.bind_some] at k40 ⊢
    have h1 : ¬ ((k : Int) < 0) := by omega
    have h1' : (0 : Int) ≤ (k : Int) := by omega
    by_cases hlt : k < m
    · obtain ⟨⟨dk, dn, dt⟩, hd⟩ : ∃ d, vals[k]? = some d := ⟨_, List.getElem?_eq_getElem (by omega)⟩
      rw [hd]
      simp only [Option.getD_some, Option.isSome_some]
      have h2 : ¬ (m : Int) ≤ (k : Int) := by omega
      have h2' : (k : Int) < (m : Int) := by omega
      obtain ⟨g, o, rfl, -⟩ := hvv.at hd
      have HC : Hid (∀ w9, Below ((w.alloc (.cells #[.string (str nm)] 9)).alloc (.cells #[.int .u8 0, .int .i64 0, .string ⟨#[]⟩] 30)).heap.size ((w.alloc (.cells #[.string (str nm)] 9)).alloc (.cells #[.int .u8 0, .int .i64 0, .string ⟨#[]⟩] 30)) w9 → w9.cell? ⟨g, o + k * 3, none⟩ = some (.int .u8 (dk : Int)) ∧ w9.cell? ⟨g, o + k * 3 + 1, none⟩ = some (.int .i64 dn) ∧ w9.cell? ⟨g, o + k * 3 + 2, none⟩ = some (.string (str dt))) := fun w9 k9 => by
        obtain ⟨g', o', e, hc⟩ := (HV.out w9 k9).at hd
        cases e
        exact ⟨hc 0 (by decide), hc 1 (by decide), hc 2 (by decide)⟩
      rw [hm] at *
      generalize cols.length = n at *
      clear a1 a2 a12 hbr hbx hcv hvv hl hk HV hm hd
      go_enter Tryd.func26, Tryd.ntmps26
      go_wp2_with (go_at_call 40; (refine Calls.mono k40 ?_; rintro e w9 ⟨rfl, k9⟩; obtain ⟨c0, c1, c2⟩ := HC.out w9 k9; obtain ⟨⟨⟨x0, x1, x2, x3, x4, x5⟩, r0, r1, r2⟩, d13⟩ := HF.out w9 (.int .u8 (dk : Int)) (.int .i64 dn) (.string (str dt)) k9; clear k9))
      exact bodyPost_ret (v := .tuple #[.agg #[.int .u8 (dk : Int), .int .i64 dn, .string (str dt)], .bool true]) (by simp [results, Tryd.results26, go_sem, r0, r1, r2]) rfl ⟨rfl, d13.out⟩
    · have hd : vals[k]? = none := List.getElem?_eq_none (by omega)
      rw [hd]
      simp only [Option.getD_none, Option.isSome_none]
      have h2 : (m : Int) ≤ (k : Int) := by omega
      rw [hz]
      rw [hm] at *
      generalize cols.length = n at *
      clear a1 a2 a12 hbr hbx hcv hvv hl hk HV hm hd hlt
      go_enter Tryd.func26, Tryd.ntmps26
      go_wp2_with (go_at_call 40; (refine Calls.mono k40 ?_; rintro e w9 ⟨rfl, k9⟩; obtain ⟨⟨⟨x0, x1, x2, x3, x4, x5⟩, r0, r1, r2⟩, d13⟩ := HF.out w9 (.int .u8 0) (.int .i64 0) (.string ⟨#[]⟩) k9; clear k9))
      exact bodyPost_ret (v := .tuple #[.agg #[.int .u8 0, .int .i64 0, .string ⟨#[]⟩], .bool false]) (by simp [results, Tryd.results26, go_sem, r0, r1, r2]) rfl ⟨rfl, d13.out⟩
set_option maxHeartbeats 8000000 in
theorem holds25 {x' y' : Nat} {cv vv : Value} {cols : List Co} {vals : List Va} (hx : W0.cell? ⟨x', 0, none⟩ = some cv) (hy : W0.cell? ⟨y', 0, none⟩ = some vv) (hcv : T.LV EK W0 cv cols) (hvv : T.LV EV W0 vv vals) (hcl : cols.length ≤ 1000000) : MadeO W0 x' y' (holdsP cols vals) := by
  intro W x y v l hb hv hl
  have hxl : x' < W0.heap.size := World.block_lt_of_cell? _ _ hx
  have hyl : y' < W0.heap.size := World.block_lt_of_cell? _ _ hy
  obtain ⟨xk, xc, xo, xvk, xvn, xvt, xks⟩ := x
  have a1 := T.al W (.cells #[.int .u8 (xk : Int), .string (str xc), .int .u8 (xo : Int), .int .u8 (xvk : Int), .int .i64 xvn, .string (str xvt), slW y] 54)
  have hc1 : (W.alloc (.cells #[.int .u8 (xk : Int), .string (str xc), .int .u8 (xo : Int), .int .u8 (xvk : Int), .int .i64 xvn, .string (str xvt), slW y] 54)).cell? ⟨x', 0, none⟩ = some cv := ((hb.trans (a1.mono hb.size)).cell (p := ⟨x', 0, none⟩) hxl).trans hx
  have hc2 : (W.alloc (.cells #[.int .u8 (xk : Int), .string (str xc), .int .u8 (xo : Int), .int .u8 (xvk : Int), .int .i64 xvn, .string (str xvt), slW y] 54)).cell? ⟨y', 0, none⟩ = some vv := ((hb.trans (a1.mono hb.size)).cell (p := ⟨y', 0, none⟩) hyl).trans hy
  have k26 := value26 xc ((hcv.below hb).below a1) ((hvv.below hb).below a1) hcl
  have k27 := fun t => contains27 t (hv.below a1) hl
  have HA : Hid (Below W.heap.size W (W.alloc (.cells #[.int .u8 (xk : Int), .string (str xc), .int .u8 (xo : Int), .int .u8 (xvk : Int), .int .i64 xvn, .string (str xvt), slW y] 54))) := a1
  have HC : Hid (∀ w9, Below (W.alloc (.cells #[.int .u8 (xk : Int), .string (str xc), .int .u8 (xo : Int), .int .u8 (xvk : Int), .int .i64 xvn, .string (str xvt), slW y] 54)).heap.size (W.alloc (.cells #[.int .u8 (xk : Int), .string (str xc), .int .u8 (xo : Int), .int .u8 (xvk : Int), .int .i64 xvn, .string (str xvt), slW y] 54)) w9 → w9.cell? ⟨W.heap.size, 2, none⟩ = some (.int .u8 (xo : Int)) ∧ w9.cell? ⟨W.heap.size, 3, none⟩ = some (.int .u8 (xvk : Int)) ∧ w9.cell? ⟨W.heap.size, 4, none⟩ = some (.int .i64 xvn) ∧ w9.cell? ⟨W.heap.size, 5, none⟩ = some (.string (str xvt))) := fun w9 k9 => by
    have hb := (T.blk_new W [.int .u8 (xk : Int), .string (str xc), .int .u8 (xo : Int), .int .u8 (xvk : Int), .int .i64 xvn, .string (str xvt), slW y] 54).below k9
    exact ⟨hb.cell 2, hb.cell 3, hb.cell 4, hb.cell 5⟩
  unfold holdsP
  try simp only
  by_cases h1 : xk = 1
  · rw [if_pos h1]
    obtain ⟨y1, y2, y3⟩ := eq_facts h1
    have y1' : ((xk : Int) == 1) = true := y1
    obtain ⟨va, vc, rfl⟩ := hv.form
    clear y1 y3 k27 hx hy hxl hyl hcv hvv hcl hv hl a1 hb h1
    cases hV : valOf cols vals xc with
    | none =>
      rw [hV] at k26
      simp only [Option.getD_none, Option.isSome_none] at k26 ⊢
      clear hV HC
      go_enter Tryd.func25, Tryd.ntmps25
      go_wp2_with (go_at_call 26; (refine Calls.mono k26 ?_; rintro e w9 ⟨rfl, k9⟩; have HB : Hid (Below W.heap.size W w9) := bmore HA.out k9; clear k9))
      go_ret
      exact ⟨rfl, (bmore HB.out (T.al _ _))⟩
    | some d =>
      obtain ⟨dk, dn, dt⟩ := d
      rw [hV] at k26
      simp only [Option.getD_some, Option.isSome_some] at k26 ⊢
      have k11 := fun w9 => compares11 xo (dk : Int) dn (str dt) (xvk : Int) xvn (str xvt) w9
      simp only [bs_str] at k11
      clear hV
      generalize cmpsP xo (dk : Int) dn dt (xvk : Int) xvn xvt = r at *
      have K11 : Hid (∀ w9, _) := k11
      clear k11
      go_enter Tryd.func25, Tryd.ntmps25
      go_wp2_with (first
        | (go_at_call 11; (refine Calls.mono (K11.out _) ?_; rintro e w10 ⟨rfl, k10⟩; have HB2 : Hid (Below W.heap.size W w10) := bmore HB.out k10; clear k10))
        | (go_at_call 26; (refine Calls.mono k26 ?_; rintro e w9 ⟨rfl, k9⟩; obtain ⟨c0, c1, c2, c3⟩ := HC.out (w9.alloc (.cells #[.int .u8 (dk : Int), .int .i64 dn, .string (str dt)] 30)) (bmore k9 (T.al _ _)); have HB : Hid (Below W.heap.size W (w9.alloc (.cells #[.int .u8 (dk : Int), .int .i64 dn, .string (str dt)] 30))) := bmore HA.out (bmore k9 (T.al _ _)); clear k9)))
      go_ret
      exact ⟨rfl, HB2.out⟩
  · rw [if_neg h1]
    obtain ⟨n1, n2, n3, n4, n5⟩ := ne_facts h1
    have n1' : ((xk : Int) == 1) = false := n1
    clear n1 k26 hx hy hxl hyl hcv hvv hcl hc1 hc2 HC
    by_cases h2 : xk = 2
    · rw [if_pos h2]
      obtain ⟨y1, y2, y3⟩ := eq_facts h2
      have y1' : ((xk : Int) == 2) = true := y1
      have k := k27 false
      clear k27 y1 y3 h1 h2 n3 n4 n5
      obtain ⟨va, vc, rfl⟩ := hv.form
      clear hv
      go_enter Tryd.func25, Tryd.ntmps25
      go_wp2_with (go_at_call 27; (refine Calls.mono k ?_; rintro e w9 ⟨rfl, rfl⟩))
      go_ret
      exact ⟨rfl, HA.out⟩
    · rw [if_neg h2]
      obtain ⟨m1, m2, m3, m4, m5⟩ := ne_facts h2
      have m1' : ((xk : Int) == 2) = false := m1
      clear m1
      by_cases h3 : xk = 3
      · rw [if_pos h3]
        obtain ⟨y1, y2, y3⟩ := eq_facts h3
        have y1' : ((xk : Int) == 3) = true := y1
        have k := k27 true
        clear k27 y1 y3 h1 h2 h3 n3 n4 n5 m3 m4 m5
        obtain ⟨va, vc, rfl⟩ := hv.form
        clear hv
        go_enter Tryd.func25, Tryd.ntmps25
        go_wp2_with (go_at_call 27; (refine Calls.mono k ?_; rintro e w9 ⟨rfl, rfl⟩))
        go_ret
        exact ⟨rfl, HA.out⟩
      · rw [if_neg h3]
        obtain ⟨p1, p2, p3, p4, p5⟩ := ne_facts h3
        have p1' : ((xk : Int) == 3) = false := p1
        clear p1 k27
        by_cases h4 : xk = 4
        · rw [if_pos h4]
          obtain ⟨y1, y2, y3⟩ := eq_facts h4
          have y1' : ((xk : Int) == 4) = true := y1
          have hv1 := hv.below a1
          obtain ⟨va, vc, rfl⟩ := hv.form
          cases l with
          | nil =>
            clear hv hv1 y1 y3 h1 h2 h3 h4 n3 n4 n5 m3 m4 m5 p3 p4 p5
            go_enter Tryd.func25, Tryd.ntmps25
            go_wp2
            go_ret
            exact ⟨rfl, HA.out⟩
          | cons b l =>
            obtain ⟨g, o, rfl, hc⟩ := hv1.at (i := 0) (x := b) rfl
            have c0 : (W.alloc (.cells #[.int .u8 (xk : Int), .string (str xc), .int .u8 (xo : Int), .int .u8 (xvk : Int), .int .i64 xvn, .string (str xvt), slW y] 54)).cell? ⟨g, o, none⟩ = some (.bool b) := by
              have := hc 0 (by decide)
              simpa [EO] using this
            have hn : (b :: l).length = l.length + 1 := rfl
            rw [hn]
            generalize l.length = n at *
            have e1 : (((n + 1 : Nat) : Int) == 0) = false := beq_eq_false_iff_ne.2 (by omega)
            have e2 : ¬ ((n + 1 : Nat) : Int) = 0 := by omega
            have e3 : (0 : Int) < ((n + 1 : Nat) : Int) := by omega
            clear hv hv1 hc hn y1 y3 h1 h2 h3 h4 n3 n4 n5 m3 m4 m5 p3 p4 p5 hl
            generalize n + 1 = q at *
            go_enter Tryd.func25, Tryd.ntmps25
            go_wp2
            go_ret
            exact ⟨rfl, HA.out⟩
        · rw [if_neg h4]
          obtain ⟨q1, q2, q3, q4, q5⟩ := ne_facts h4
          have q1' : ((xk : Int) == 4) = false := q1
          obtain ⟨va, vc, rfl⟩ := hv.form
          clear q1 hv h1 h2 h3 h4 n3 n4 n5 m3 m4 m5 p3 p4 p5 q3 q4 q5
          go_enter Tryd.func25, Tryd.ntmps25
          go_wp2
          go_ret
          exact ⟨rfl, HA.out⟩
set_option maxHeartbeats 4000000 in
theorem holds13 {u cv vv : Value} {cs : List Cd} {cols : List Co} {vals : List Va} (hcs : LC w u cs) (hcv : T.LV EK w cv cols) (hvv : T.LV EV w vv vals) (hn : cs.length ≤ 1000) (hcl : cols.length ≤ 1000000) (hk : ∀ x ∈ cs, x.kids.length + 1 ≤ 100000000000000) :
    Calls Tryd.prog 13 #[u, cv, vv] w fun e w' => e = .returned (.bool (holdsV cols vals cs)) ∧ Below w.heap.size w w' := by
  have a1 := T.al w (.cells #[cv] 23)
  have a2 := T.al (w.alloc (.cells #[cv] 23)) (.cells #[vv] 24)
  have a12 := bmore a1 a2
  have hb1 : ((w.alloc (.cells #[cv] 23)).alloc (.cells #[vv] 24)).cell? ⟨w.heap.size, 0, none⟩ = some cv := ((T.blk_new w [cv] 23).below a2).cell 0
  have hb2 : ((w.alloc (.cells #[cv] 23)).alloc (.cells #[vv] 24)).cell? ⟨w.heap.size + 1, 0, none⟩ = some vv := (T.blk_at (w.alloc (.cells #[cv] 23)) [vv] 24 (g := w.heap.size + 1) (by simp)).cell 0
  have HA : Hid (Below w.heap.size w ((w.alloc (.cells #[cv] 23)).alloc (.cells #[vv] 24))) := a12
  have k25 := holds25 hb1 hb2 (hcv.below a12) (hvv.below a12) hcl
  unfold holdsV
  obtain ⟨ca, cc, rfl⟩ := hcv.form
  obtain ⟨va, vc, rfl⟩ := hvv.form
  by_cases h0 : cs.length = 0
  · rw [if_pos h0]
    obtain ⟨ua, uc, hu⟩ := hcs.form
    rw [h0] at hu
    subst hu
    clear a1 a2 a12 hb1 hb2 hcs hcv hvv k25 hk hn h0
    go_enter Tryd.func13, Tryd.ntmps13
    go_wp2
    go_ret
    exact ⟨rfl, HA.out⟩
  · rw [if_neg h0]
    have k24 := whole24 (w := (w.alloc (.cells #[.slice ca cols.length cc] 23)).alloc (.cells #[.slice va vals.length vc] 24)) k25 (hcs.below a12) (by omega) hn hk
    obtain ⟨ua, uc, rfl⟩ := hcs.form
    generalize resN (holdsP cols vals) false cs (cs.length - 1) = r at *
    generalize cs.length = n at *
    generalize cols.length = n2 at *
    generalize vals.length = n3 at *
    have hn0 : ¬ (n : Int) = 0 := by omega
    have hn1 : ((n : Int) == 0) = false := beq_eq_false_iff_ne.2 hn0
    clear a1 a2 a12 hb1 hb2 hcs hcv hvv k25 hk h0 hn
    go_enter Tryd.func13, Tryd.ntmps13
    go_wp2_with (go_at_call 24; (refine Calls.mono k24 ?_; rintro e w9 ⟨rfl, k9⟩; have HB : Hid (Below w.heap.size w w9) := bmore HA.out k9; clear k9))
    go_ret
    exact ⟨rfl, HB.out⟩
end Go.Proofs.YtipnaphikbjhbaaDoor
