/- leaves, inners, innerOf. -/
import Derived.Test.YtgimjjlkniplnaaPh
namespace Go.Proofs.Ytgimjjlkniplnaa
open Go.RowKit Go.Shelf
set_option maxRecDepth 100000
/-- One or two parts that hold these pairs. -/
def SPost (w : World) (h lo : Nat) (kv : List Pr) (e : Ending) (w' : World) : Prop := ∃ v, e = .returned v ∧ Below w.heap.size w w' ∧
  ((∃ (p : Kd) (n : Nat), LV EK w' v [p.1] ∧ p.2 = kv ∧ Part w' h n p.1 p.2 ∧ lo ≤ n ∧ n ≤ 8) ∨
   (∃ (p q : Kd) (m n : Nat), LV EK w' v [p.1, q.1] ∧ p.2 ++ q.2 = kv ∧ Part w' h m p.1 p.2 ∧ Part w' h n q.1 q.2 ∧ 4 ≤ m ∧ m ≤ 8 ∧ 4 ≤ n ∧ n ≤ 8))
theorem SPost.base {w w1 w' : World} {h lo : Nat} {kv : List Pr} {e : Ending} (k : SPost w1 h lo kv e w') (b : Below w.heap.size w w1) : SPost w h lo kv e w' := by
  obtain ⟨v, h1, h2, h3⟩ := k
  exact ⟨v, h1, bmore b h2, h3⟩
theorem spost_of {α : Type} (pr : List α → List Pr) (hpr : ∀ A B, pr (A ++ B) = pr A ++ pr B) {l : List α} (h16 : l.length ≤ 16) {w w' : World} {h : Nat} {v : Value} {ps : List Bx} (hlen : ps.length = (halves l).length) (hv : LV EK w' v ps)
    (hP : ∀ (i : Nat) (x : Bx) (kp : List α), ps[i]? = some x → (halves l)[i]? = some kp → Part w' h kp.length x (pr kp)) (hB : Below w.heap.size w w') : SPost w h l.length (pr l) (.returned v) w' := by
  refine ⟨v, rfl, hB, ?_⟩
  unfold halves at hlen hP
  by_cases h8 : l.length ≤ 8
  · rw [if_pos h8] at hlen hP
    match ps, hlen with
    | [x], _ => exact .inl ⟨(x, pr l), l.length, hv, rfl, hP 0 x l rfl rfl, Nat.le_refl _, h8⟩
  · rw [if_neg h8] at hlen hP
    match ps, hlen with
    | [x, y], _ =>
      have h1 := hP 0 x _ rfl rfl
      have h2 := hP 1 y _ rfl rfl
      refine .inr ⟨(x, _), (y, _), _, _, hv, ?_, h1, h2, ?_, ?_, ?_, ?_⟩
      · show pr _ ++ pr _ = pr l
        rw [← hpr, List.take_append_drop]
      · rw [List.length_take]; omega
      · rw [List.length_take]; omega
      · rw [List.length_drop]; omega
      · rw [List.length_drop]; omega
theorem halves_len {α : Type} (l : List α) : (halves l).length ≤ 2 := by unfold halves; split <;> simp
theorem halves_map {α β : Type} (f : α → β) (l : List α) : halves (l.map f) = (halves l).map (List.map f) := by
  unfold halves
  rw [List.length_map]
  split <;> simp [List.map_take, List.map_drop]
theorem app_one {B : Nat} {w : World} {u : Value} {L : List Bx} (hU : RW EK B w u L) (x : Bx) (hfew : L.length ≤ 1000) (hB : B ≤ w.heap.size) : ∃ u' w', (Builtin.append_ #[69, 69] 69 #[u, .slice (some ⟨w.heap.size, 0, none⟩) 1 1]).run Try.prog (w.alloc (.cells #[.iface x.1 x.2] 60)) = .ok u' w' ∧ RW EK B w' u' (L ++ [x]) ∧ Below B w w' := by
  have hb : Blk (w.alloc (.cells #[.iface x.1 x.2] 60)) w.heap.size (EK.cells [x]) 60 := blk_new w [.iface x.1 x.2] 60
  have hU' : RW EK B (w.alloc (.cells #[.iface x.1 x.2] 60)) u L := by
    refine ⟨hU.1, hU.2.imp id ?_⟩
    rintro ⟨g, cap, cur, h1, h2, h3, h4⟩
    exact ⟨g, cap, cur, h1, h2, (Below.heap_alloc _ _ _ (Array.getElem?_eq_some_iff.1 h3).1).trans h3, h4⟩
  obtain ⟨u', w', h1, h2, h3⟩ := rw_app hU' (lv_blk EK hb 1 (by simp)) (by simp; omega) (by simp; omega)
  exact ⟨u', w', h1, h2, ((al w _).mono hB).trans h3⟩
set_option maxHeartbeats 1000000 in
theorem leaves52 {w : World} {l : Value} {L : List Pr} (hl : LV EP w l L) (hn : L.length ≤ 16) : Calls Try.prog 52 #[l] w (SPost w 0 L.length L) := by
  have k63 := halved63 hl (by omega)
  have HN : Hid (L.length ≤ 16) := hn
  obtain ⟨a, c, rfl⟩ := hl.form
  generalize hLn : L.length = n at *
  have HLn : Hid (L.length = n) := hLn
  clear hl hn hLn
  go_enter Try.func52, Try.ntmps52
  go_wp2_with (go_at_call 63; (with_reducible refine k63.mono ?_); rintro e w1 ⟨g, ls, rfl, HS, HE, HB1⟩)
  have HS : Hid (Ls EP w1 g ls) := HS
  have HE : Hid (ls.map (·.2) = halves L) := HE
  have HB1 : Hid (Below w.heap.size w w1) := HB1
  have hM2 : ls.length ≤ 2 := by
    have h1 := congrArg List.length HE.out
    rw [List.length_map] at h1
    have h2 := halves_len L
    omega
  generalize hM : ls.length = M at *
  have HM : Hid (ls.length = M) := hM
  clear hM k63
  go_wp2_with fail
  go_loopw [3, 9] (fun fo fi wr => ∃ (j : Nat), fi = .int .i64 (j : Int) ∧ Hid (j ≤ M) ∧ Hid (RW EK w1.heap.size wr fo ((ls.take j).map fun x => (64, x.1))) ∧ Hid (Below w1.heap.size w1 wr)) (fun _ fi _ => ((M : Int) - intOf fi).toNat)
  case atStart => exact ⟨0, rfl, Nat.zero_le _, RW.nil _ _ _, Below.refl _ _⟩
  case round =>
    obtain ⟨j, rfl, hj, hO, hB⟩ := hrel
    by_cases hjM : j < M
    · have hji : (j : Int) < (M : Int) := by omega
      have hj0 : (0 : Int) ≤ (j : Int) := by omega
      obtain ⟨x, hx⟩ : ∃ x, ls[j]? = some x := ⟨_, List.getElem?_eq_getElem (by rw [HM.out]; exact hjM)⟩
      have d0 := (HS.out.below hB.out).cells j x hx
      obtain ⟨ax, cx, hxf⟩ := (HS.out.rl x (List.mem_of_getElem? hx)).form
      have hA := app_one hO.out (64, x.1) (by rw [List.length_map, List.length_take, HM.out]; omega) hB.out.size
      have e1 : ((ls.take j).map fun x => ((64, x.1) : Bx)) ++ [(64, x.1)] = (ls.take (j + 1)).map fun x => ((64, x.1) : Bx) := by rw [List.take_add_one, hx, List.map_append]; rfl
      rw [e1] at hA
      rw [hxf] at d0 hA
      clear hx hxf e1
      go_wp2_with (at_builtin; refine wpList_append_ex (by rfl) (.tmp 13) (.tmp 16) 69 (by rfl) _ _ (by rfl) (by rfl) hA ?_; rintro v7 w7 ⟨hO7, hB7⟩)
      go_roundw
      case rel => exact ⟨j + 1, by simp, by show _ ≤ _; omega, hO7, hB.out.trans hB7⟩
      case measure => simp only [intOf]; omega
    · have hji : ¬ (j : Int) < (M : Int) := by omega
      obtain rfl : j = M := by have := hj.out; omega
      have HR : Hid (∀ v, RW EK w1.heap.size wr v ((ls.take j).map fun x => (64, x.1)) → SPost w 0 n L (.returned v) wr) := fun v hv => by
        rw [← HLn.out]
        have hlen : ls.length = (halves L).length := by rw [← HE.out, List.length_map]
        rw [← HM.out, List.take_length] at hv
        refine spost_of id (fun _ _ => rfl) (by rw [HLn.out]; exact HN.out) (by rw [List.length_map, hlen]) hv.read ?_ (bmore HB1.out hB.out)
        intro i x kp hx hkp
        rw [← HE.out, List.getElem?_map] at hkp
        rw [List.getElem?_map] at hx
        obtain ⟨y, hy, rfl⟩ := Option.map_eq_some_iff.1 hkp
        rw [hy] at hx
        cases hx
        exact ⟨rfl, (HS.out.rl y (List.mem_of_getElem? hy)).below hB.out, rfl⟩
      go_wp2
      go_ret
      exact HR.out _ hO.out
theorem Blk.c3 {W : World} {b : Nat} {x y z : Value} {t : TypeId} (h : Blk W b [x, y, z] t) : W.cell? ⟨b, 0, none⟩ = some x ∧ W.cell? ⟨b, 1, none⟩ = some y ∧ W.cell? ⟨b, 2, none⟩ = some z ∧ W.frozen? ⟨b, 0, none⟩ = false ∧ W.frozen? ⟨b, 1, none⟩ = false ∧ W.frozen? ⟨b, 2, none⟩ = false := ⟨h.cell 0, h.cell 1, h.cell 2, h.frozen 0, h.frozen 1, h.frozen 2⟩
def OPost (w : World) (v : Value) (kv : List Pr) (e : Ending) (w' : World) : Prop := e = .returned (.agg #[v, .string (fst kv), .int .i64 (kv.length : Int)]) ∧ Below w.heap.size w w'
theorem fst_flat {x : Kd} {l : List Kd} (h : 0 < x.2.length) : fst (flat (x :: l)) = fst x.2 := by
  unfold flat fst
  cases hx : x.2 with
  | nil => rw [hx] at h; simp at h
  | cons a b => simp [hx]
set_option maxHeartbeats 1000000 in
theorem innerOf44 {w : World} {v : Value} {ks : List Kd} (hv : LV EK w v (ks.map (·.1))) (hk : ∀ k ∈ ks, ∃ h m, 0 < m ∧ Part w h m k.1 k.2) (hl : (flat ks).length ≤ 10000) (hn : ks.length ≤ 1000) (h0 : 0 < ks.length) : Calls Try.prog 44 #[v] w (OPost w v (flat ks)) := by
  have HK : Hid (∀ W, Below w.heap.size w W → Calls Try.prog 50 #[v] W fun e w' => e = .returned (.int .i64 ((flat ks).length : Int)) ∧ Below W.heap.size W w') := fun W hW => counted50 (hv.below hW) (fun k hk' => by obtain ⟨h, m, _, hp⟩ := hk k hk'; exact ⟨h, m, hp.below hW⟩) hl hn
  obtain ⟨a, c, rfl⟩ := hv.form
  match ks, h0 with
  | x :: l, _ =>
    obtain ⟨g, o, rfl, d0⟩ := EK.cell (hv.below (al w (.cells #[.slice none 0 0, .string { data := #[] }, .int .i64 0] 72))) (i := 0) (x := x.1) rfl
    obtain ⟨h, m, hm0, hp⟩ := hk x (by simp)
    have hp0 : 0 < x.2.length := Nat.lt_of_lt_of_le hm0 hp.len
    have hm := meth_first (hp.below (al w (.cells #[.slice none 0 0, .string { data := #[] }, .int .i64 0] 72))) hp0
    have HF : Hid (fst (flat (x :: l)) = fst x.2) := fst_flat hp0
    have HMt : Hid (Meth "regesta/tree.first" x.1 (w.alloc (.cells #[.slice none 0 0, .string { data := #[] }, .int .i64 0] 72)) fun v w' => v = .string (fst (flat (x :: l))) ∧ Below (w.alloc (.cells #[.slice none 0 0, .string { data := #[] }, .int .i64 0] 72)).heap.size (w.alloc (.cells #[.slice none 0 0, .string { data := #[] }, .int .i64 0] 72)) w') := by rw [HF.out]; exact hm
    have hlen : (0 : Int) < ((List.map (fun x => x.fst) (x :: l)).length : Int) := by rw [List.length_map, List.length_cons]; omega
    generalize (List.map (fun x => x.fst) (x :: l)).length = M at *
    generalize hN : (flat (x :: l)).length = n at *
    have HNn : Hid ((flat (x :: l)).length = n) := hN
    generalize hs : fst (flat (x :: l)) = s at *
    have HFs : Hid (fst (flat (x :: l)) = s) := hs
    have hb0 := blk_new w [.slice none 0 0, .string { data := #[] }, .int .i64 0] 72
    have HBk : Hid (Blk (w.alloc (.cells #[.slice none 0 0, .string { data := #[] }, .int .i64 0] 72)) w.heap.size [.slice none 0 0, .string { data := #[] }, .int .i64 0] 72) := hb0
    rw [Nat.add_zero] at d0
    clear hv hk hp hm hb0 hN hs
    go_enter Try.func44, Try.ntmps44
    go_wp2_with (first
      | (with_reducible refine upon_meth HMt.out ?_; rintro v1 w1 ⟨rfl, hB1⟩; have k50 := HK.out w1 (bmore (al w _) hB1); have hBk1 := HBk.out.below hB1)
      | (go_at_call 50; (with_reducible refine k50.mono ?_); rintro e w2 ⟨rfl, hB2⟩; obtain ⟨e0, e1, e2, f0, f1, f2⟩ := Blk.c3 (hBk1.below hB2); have HB2 : Hid _ := bmore (bmore (al w _) hB1) hB2))
    have hbk3 := Blk.set (o := 2) (Blk.set (o := 1) (Blk.set (o := 0) (hBk1.below hB2) (.slice (some ⟨g, o, none⟩) M c)) (.string s)) (.int .i64 (n : Int))
    refine bodyPost_ret (results_cell rfl _ _ _ w.heap.size [.slice (some ⟨g, o, none⟩) M c, .string s, .int .i64 (n : Int)] 72 hbk3 rfl _ Try.underlying72 rfl (by kernel_rfl)) rfl ⟨by rw [HFs.out, HNn.out], bset (bset (bset HB2.out (Nat.le_refl _) _) (Nat.le_refl _) _) (Nat.le_refl _) _⟩
end Go.Proofs.Ytgimjjlkniplnaa
