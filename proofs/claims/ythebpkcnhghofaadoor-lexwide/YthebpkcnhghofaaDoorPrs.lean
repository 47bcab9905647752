/- A value's text, and the value that a text says: value.Print, value.said, value.Parse. -/
import Derived.Test.YthebpkcnhghofaaDoorDig2
import Derived.Lib.SmallJoins
namespace Go.Proofs.YthebpkcnhghofaaDoor
open Go.RowKit Go.Lib Go.Joins

/-- What Print answers: the text, the error. -/
def prV (k n : Int) (l : Bs) : Bs × Nat := if rightV k n l then (printV k n l, 0) else ([], 3)
theorem prV_yes {k n : Int} {l : Bs} (h : rightV k n l = true) : prV k n l = (printV k n l, 0) := by simp [prV, h]
theorem prV_no {k n : Int} {l : Bs} (h : rightV k n l = false) : prV k n l = ([], 3) := by simp [prV, h]

set_option maxRecDepth 100000 in
set_option maxHeartbeats 4000000 in
theorem print9 (k n : Int) (s : ByteArray) (w : World) (hs : s.size < 4611686018427387904) (hn : inI64 n) (hg : Good w) :
    Calls Tryd.prog 41 #[V k n s] w fun e w' => e = .returned (.tuple #[.string (str (prV k n (bs s)).1), .int .i64 ((prV k n (bs s)).2 : Nat)]) ∧ Below w.heap.size w w' := by
  have hgo : ∀ o, Good (w.alloc o) := fun o => hg.below (al _ _)
  have c12 := fun w1 h => rightv12 k n s w1 hs h
  cases hR : rightV k n (bs s)
  · rw [hR] at c12
    rw [prV_no hR]
    go_enter Tryd.func41, Tryd.ntmps41
    go_wp2_with (go_at_call 51; refine (c12 _ (hgo _)).mono ?_; rintro e w1 ⟨rfl, hb⟩)
    go_ret2
    exact ⟨rfl, bmore (al _ _) hb⟩
  · rw [hR] at c12
    rw [prV_yes hR]
    rcases rightV_cases hR with ⟨rfl, he⟩ | ⟨rfl, rfl, hr⟩
    · rw [printV_int]
      have c16 := digits16 n hn
      clear hR
      go_enter Tryd.func41, Tryd.ntmps41
      go_wp2_with (first
        | (go_at_call 51; refine (c12 _ (hgo _)).mono ?_; rintro e w1 ⟨rfl, hb⟩; have g0 := (new_cells hb 0).1; have g1 := (new_cells hb 1).1; simp at g0 g1)
        | (go_at_call 52; refine (c16 _).mono ?_; rintro e w2 ⟨rfl, hb2⟩))
      go_ret2
      exact ⟨rfl, bmore (bmore (al _ _) hb) hb2⟩
    · rw [printV_text]
      have hsz : s.size ≤ 32 := right_len hr
      have c25 : ∀ w1, Good w1 → Calls Tryd.prog 53 #[.string s] w1 fun e w' => e = .returned (.tuple #[.string (str (39 :: dbl (bs s) ++ [39])), .int .i64 0]) ∧ Below w1.heap.size w1 w' := fun w1 h => by
        have := quote25 s w1 (by omega) h
        rw [quoteR_yes hr] at this
        exact this
      clear hR
      go_enter Tryd.func41, Tryd.ntmps41
      go_wp2_with (first
        | (go_at_call 51; refine (c12 _ (hgo _)).mono ?_; rintro e w1 ⟨rfl, hb⟩; have g0 := (new_cells hb 0).1; have g1 := (new_cells hb 2).1; simp at g0 g1)
        | (go_at_call 53; refine (c25 _ ((hgo _).below hb)).mono ?_; rintro e w2 ⟨rfl, hb2⟩))
      go_ret2
      exact ⟨rfl, bmore (bmore (al _ _) hb) hb2⟩

/-- What a text would say: kind, number, text, whether. -/
def saidV (l : Bs) : Int × Int × Bs × Bool :=
  match parseIntB 64 l with
  | .ok n => (1, n, [], true)
  | _ => if (unq l).2.2 = 0 then (2, 0, (unq l).1, true) else (0, 0, [], false)

theorem parse45_ok (s : ByteArray) (hs : s.size ≤ 1000) (n : Int) (h : parseIntB 64 (bs s) = .ok n) (w : World) :
    Calls Tryd.prog 50 #[.string s, .int .i64 10, .int .i64 64] w fun e w' => e = .returned (.tuple #[.int .i64 n, .nilIface]) ∧ Below w.heap.size w w' := by
  refine (Tryd.strconv_ParseInt_10_at64_ok s (by omega) n h w).mono ?_
  rintro e w' ⟨rfl, rfl | ⟨t, rfl⟩⟩
  · exact ⟨rfl, Below.refl _ _⟩
  · exact ⟨rfl, below_bytesWorld _ _ _ _ (Nat.le_refl _)⟩
theorem parse45_no (s : ByteArray) (hs : s.size ≤ 1000) (h : ∀ n, parseIntB 64 (bs s) ≠ .ok n) (w : World) (hg : Good w) :
    Calls Tryd.prog 50 #[.string s, .int .i64 10, .int .i64 64] w fun e w' => ∃ n N, e = .returned (.tuple #[.int .i64 n, .iface 93 (.pointer (some ⟨N, 0, none⟩))]) ∧ Below w.heap.size w w' := by
  cases hp : parseIntB 64 (bs s) with
  | ok n => exact absurd hp (h n)
  | «syntax» =>
    obtain ⟨ev, h1, h2⟩ := hg.syn
    refine (Tryd.strconv_ParseInt_10_at64_syntax s (by omega) hp ev w h1 h2).mono ?_
    rintro e w' ⟨N, rfl, _, _, hb⟩
    exact ⟨_, N, rfl, hb⟩
  | range =>
    obtain ⟨ev, h1, h2⟩ := hg.rng
    refine (Tryd.strconv_ParseInt_10_at64_range s (by omega) hp ev w h1 h2).mono ?_
    rintro e w' ⟨N, rfl, _, _, hb⟩
    exact ⟨_, N, rfl, hb⟩

theorem saidV_num {l : Bs} {n : Int} (h : parseIntB 64 l = .ok n) : saidV l = (1, n, [], true) := by simp [saidV, h]
theorem saidV_text {l : Bs} (h : ∀ n, parseIntB 64 l ≠ .ok n) : saidV l = if (unq l).2.2 = 0 then (2, 0, (unq l).1, true) else (0, 0, [], false) := by
  unfold saidV
  cases hp : parseIntB 64 l with
  | ok n => exact absurd hp (h n)
  | «syntax» => rfl
  | range => rfl

/-- The result's block behind two calls. -/
theorem res_after {w w1 w2 : World} {o : Obj} (h1 : Below (w.alloc o).heap.size (w.alloc o) w1) (h2 : Below w1.heap.size w1 w2) (i : Nat) :
    w2.cell? ⟨w.heap.size, i, none⟩ = (w.alloc o).cell? ⟨w.heap.size, i, none⟩ ∧ w2.frozen? ⟨w.heap.size, i, none⟩ = (w.alloc o).frozen? ⟨w.heap.size, i, none⟩ :=
  new_cells (bmore h1 h2) i

set_option maxRecDepth 100000 in
set_option maxHeartbeats 4000000 in
theorem said34 (s : ByteArray) (w : World) (hs : s.size ≤ 1000) (hg : Good w) :
    Calls Tryd.prog 40 #[.string s] w fun e w' => e = .returned (.tuple #[V (saidV (bs s)).1 (saidV (bs s)).2.1 (str (saidV (bs s)).2.2.1), .bool (saidV (bs s)).2.2.2]) ∧ Below w.heap.size w w' := by
  have hgo : ∀ o, Good (w.alloc o) := fun o => hg.below (al _ _)
  by_cases hp : ∃ n, parseIntB 64 (bs s) = .ok n
  · obtain ⟨n, hp⟩ := hp
    have c45 := parse45_ok s hs n hp
    rw [saidV_num hp]
    clear hp
    go_enter Tryd.func40, Tryd.ntmps40
    go_wp2_with (go_at_call 50; refine (c45 _).mono ?_; rintro e w1 ⟨rfl, hb⟩; have e0 := new_cells hb 0; have e1 := new_cells hb 1; have e2 := new_cells hb 2; simp at e0 e1 e2; obtain ⟨e0, f0⟩ := e0; obtain ⟨e1, f1⟩ := e1; obtain ⟨e2, f2⟩ := e2)
    exact bodyPost_ret (v := .tuple #[V 1 n ⟨#[]⟩, .bool true]) (by simp [results, Tryd.results40, go_sem, e0, e1, e2]) rfl ⟨rfl, set3 (bmore (al _ _) hb) _ _ _⟩
  · have hp' : ∀ n, parseIntB 64 (bs s) ≠ .ok n := fun n e => hp ⟨n, e⟩
    have c45 := fun w1 h => parse45_no s hs hp' w1 h
    have c46 := fun w1 h => unquote27 s w1 (by omega) h
    rw [saidV_text hp']
    clear hp hp'
    obtain ⟨x, hx⟩ : ∃ x, (unq (bs s)).1 = x := ⟨_, rfl⟩
    obtain ⟨m, hm⟩ : ∃ m, (unq (bs s)).2.1 = m := ⟨_, rfl⟩
    obtain ⟨er, her⟩ : ∃ er, (unq (bs s)).2.2 = er := ⟨_, rfl⟩
    rw [hx, hm, her] at c46
    rw [hx, her]
    clear hx hm her
    by_cases h0 : er = 0
    · subst h0
      simp only [if_true]
      generalize str x = t at *
      go_enter Tryd.func40, Tryd.ntmps40
      go_wp2_with (first
        | (go_at_call 50; refine (c45 _ (hgo _)).mono ?_; rintro e w1 ⟨n0, N0, rfl, hb⟩)
        | (go_at_call 36; refine (c46 _ ((hgo _).below hb)).mono ?_; rintro e w2 ⟨rfl, hb2⟩; have e0 := res_after hb hb2 0; have e1 := res_after hb hb2 1; have e2 := res_after hb hb2 2; simp at e0 e1 e2; obtain ⟨e0, f0⟩ := e0; obtain ⟨e1, f1⟩ := e1; obtain ⟨e2, f2⟩ := e2))
      exact bodyPost_ret (v := .tuple #[V 2 0 t, .bool true]) (by simp [results, Tryd.results40, go_sem, e0, e1, e2]) rfl ⟨rfl, set3 (bmore (bmore (al _ _) hb) hb2) _ _ _⟩
    · have hez : ¬ ((er : Int) = 0) := by omega
      simp only [h0, if_false]
      go_enter Tryd.func40, Tryd.ntmps40
      go_wp2_with (first
        | (go_at_call 50; refine (c45 _ (hgo _)).mono ?_; rintro e w1 ⟨n0, N0, rfl, hb⟩)
        | (go_at_call 36; refine (c46 _ ((hgo _).below hb)).mono ?_; rintro e w2 ⟨rfl, hb2⟩; have e0 := res_after hb hb2 0; have e1 := res_after hb hb2 1; have e2 := res_after hb hb2 2; simp at e0 e1 e2; obtain ⟨e0, f0⟩ := e0; obtain ⟨e1, f1⟩ := e1; obtain ⟨e2, f2⟩ := e2))
      exact bodyPost_ret (v := .tuple #[V 0 0 ⟨#[]⟩, .bool false]) (by simp [results, Tryd.results40, go_sem, e0, e1, e2]) rfl ⟨rfl, set3 (bmore (bmore (al _ _) hb) hb2) _ _ _⟩

end Go.Proofs.YthebpkcnhghofaaDoor
