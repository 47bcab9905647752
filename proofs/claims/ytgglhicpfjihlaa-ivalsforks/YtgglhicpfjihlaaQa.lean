/- Slices of spans; the document's Len, Stab, Over, Items. -/
import Derived.Test.YtgglhicpfjihlaaSi
import Derived.Test.YtgglhicpfjihlaaRq
import Derived.Maps.AppendAt
namespace Go.Proofs.Ytgglhicpfjihlaa
open Go.RowKit Go.Shelf
set_option maxRecDepth 100000
theorem wpList_append_ex {P : Program} {ops : Array Oper} {rest : List Oper} {o : Oper} {a : Act} {w : World} {Q : Exit → Act → World → Prop} (hgd : o.guard = none) (s x : Operand) (t : TypeId)
    (ho : o.op = .call { callee := .builtin .append, args := #[s, x], argTypes := #[t, t] }) (v y : Value) (hs : a.eval s = v) (hx : a.eval x = y) {R : Value → World → Prop} (hrun : ∃ u w', (Builtin.append_ #[t, t] o.type #[v, y]).run P w = .ok u w' ∧ R u w')
    (h : ∀ u w', R u w' → wpList P ops Q rest (a.put o.dst u) w') : wpList P ops Q (o :: rest) a w := by
  refine wpList_plain hgd fun K hK => ?_
  obtain ⟨u, w', h1, h2⟩ := hrun
  unfold Oper.wp execOp
  simp only [ho, resolve, invoke, builtin, Sem.run_bind, Sem.run_pure, Result.andThen_ok, List.map_toArray, List.map_cons, List.map_nil, hs, hx, h1]
  exact hK _ _ (h u w' h2)
def cells2 (L : List St) : List Value := L.flatMap fun s => [.int .i64 s.f, .int .i64 s.t]
theorem cells2_app (L : List St) (y : St) : cells2 (L ++ [y]) = cells2 L ++ [.int .i64 y.f, .int .i64 y.t] := by simp [cells2]
theorem info24 : (Try.prog.info? 24).map (fun i => (i.zero, i.size, i.bytes)) = some (some (.agg #[.int .i64 0, .int .i64 0]), 2, 16) := by kernel_rfl
theorem append_span {w : World} {base : Nat} {v : Value} {n : Nat} {xs : List Value} (hown : w.ownsRow base 24 2 v n xs) (hn : n ≤ 100000) (hb : base ≤ w.heap.size) (ty : TypeId) {gb c : Nat} {f t : Int} (h0 : w.cell? ⟨gb, 0, none⟩ = some (.int .i64 f)) (h1 : w.cell? ⟨gb, 1, none⟩ = some (.int .i64 t)) :
    ∃ v' w', (Builtin.append_ #[45, 45] ty #[v, .slice (some ⟨gb, 0, none⟩) 1 c]).run Try.prog w = .ok v' w' ∧ w'.ownsRow base 24 2 v' (n + 1) (xs ++ [.int .i64 f, .int .i64 t]) ∧ w.grownBy w' v.ownBlock ∧ (∀ k, v'.ownBlock = some k → v.ownBlock = some k ∨ w.heap.size ≤ k) := by
  obtain ⟨i0, hi, hz0, hz1, hz2⟩ := info_parts info24
  have hc : ∀ j x, [Value.int .i64 f, Value.int .i64 t][j]? = some x → w.cell? ((⟨gb, 0, none⟩ : Addr).add j) = some x := fun j x hx => by
    rw [Addr.add_mid, Nat.zero_add]
    match j with
    | 0 => simp at hx; subst hx; exact h0
    | 1 => simp at hx; subst hx; exact h1
    | j + 2 => simp at hx
  obtain ⟨v', w', hrun, r1, r2, _, r4⟩ := run_append_own_at (P := Try.prog) w base 45 ty 24 i0 (.agg #[.int .i64 0, .int .i64 0]) 2 16 Try.underlying45 hi hz0 hz1 hz2 rfl (by decide) v n xs hown ⟨gb, 0, none⟩ 1 c [.int .i64 f, .int .i64 t] rfl hc (by intro u hu; simp at hu; rcases hu with rfl | rfl <;> rfl) (by unfold maxLen; omega) (by omega) hb
  exact ⟨v', w', hrun, r1, r2, fun k hk => r4.elim (fun e => .inl (e ▸ hk)) (fun e => .inr (by rw [e] at hk; cases hk; exact Nat.le_refl _))⟩
theorem owns_keep' {W W' : World} {base e m : Nat} {v : Value} {n : Nat} {xs : List Value} (h : W.ownsRow base e m v n xs) (hk : ∀ k, v.ownBlock = some k → W'.heap[k]? = W.heap[k]?) : W'.ownsRow base e m v n xs := by
  obtain ⟨hl, h | ⟨g, cap, cur, rfl, hg, hblk, r⟩⟩ := h
  · exact ⟨hl, .inl h⟩
  · exact ⟨hl, .inr ⟨g, cap, cur, rfl, hg, (hk g rfl).trans hblk, r⟩⟩
theorem owns_apart {W : World} {base base' m m' : Nat} {v v' : Value} {n n' : Nat} {xs xs' : List Value} (h : W.ownsRow base 24 m v n xs) (h' : W.ownsRow base' 3 m' v' n' xs') {k : Nat} (e : v.ownBlock = some k) (e' : v'.ownBlock = some k) : False := by
  obtain ⟨hl, ⟨rfl, _⟩ | ⟨g, cap, cur, rfl, hg, hblk, r⟩⟩ := h
  · cases e
  · obtain ⟨hl', ⟨rfl, _⟩ | ⟨g', cap', cur', rfl, hg', hblk', r'⟩⟩ := h'
    · cases e'
    · obtain rfl : g = k := by simpa [Value.ownBlock] using e
      obtain rfl : g' = g := by simpa [Value.ownBlock] using e'
      rw [hblk] at hblk'
      simp at hblk'
/-- A slice of spans reads as L's. -/
def SP (w : World) (v : Value) (L : List St) : Prop := ∃ a c, v = .slice a L.length c ∧ (0 < L.length → ∃ g o, a = some ⟨g, o, none⟩ ∧ g < w.heap.size ∧ ∀ (i : Nat) (y : St), L[i]? = some y → w.cell? ⟨g, o + i * 2, none⟩ = some (.int .i64 y.f) ∧ w.cell? ⟨g, o + i * 2 + 1, none⟩ = some (.int .i64 y.t))
theorem SP.below {W W' : World} {v : Value} {L : List St} (h : SP W v L) (k : Below W.heap.size W W') : SP W' v L := by
  obtain ⟨a, c, rfl, h⟩ := h
  refine ⟨a, c, rfl, fun h0 => ?_⟩
  obtain ⟨g, o, rfl, hg, hc⟩ := h h0
  exact ⟨g, o, rfl, Nat.lt_of_lt_of_le hg k.size, fun i s hs => ⟨(k.cell (p := ⟨g, _, none⟩) hg).trans (hc i s hs).1, (k.cell (p := ⟨g, _, none⟩) hg).trans (hc i s hs).2⟩⟩
theorem SP.at {w : World} {a : Option Addr} {n c : Nat} {xs : List St} (h : SP w (.slice a n c) xs) {k : Nat} {y : St} (hy : xs[k]? = some y) : ∃ g o, a = some ⟨g, o, none⟩ ∧ g < w.heap.size ∧ w.cell? ⟨g, o + k * 2, none⟩ = some (.int .i64 y.f) ∧ w.cell? ⟨g, o + k * 2 + 1, none⟩ = some (.int .i64 y.t) := by
  obtain ⟨a', c', hv, h⟩ := h
  simp only [Value.slice.injEq] at hv
  obtain ⟨rfl, -, -⟩ := hv
  obtain ⟨g, o, rfl, hg, hc⟩ := h (by have := (List.getElem?_eq_some_iff.1 hy).1; omega)
  exact ⟨g, o, rfl, hg, hc k y hy⟩
theorem cells2_get : ∀ (L : List St) (i : Nat) (x : St), L[i]? = some x → (cells2 L)[i * 2]? = some (.int .i64 x.f) ∧ (cells2 L)[i * 2 + 1]? = some (.int .i64 x.t)
  | [], i, x, h => by simp at h
  | y :: L, 0, x, h => by
    simp only [List.getElem?_cons_zero, Option.some.injEq] at h
    subst h
    exact ⟨rfl, rfl⟩
  | y :: L, i + 1, x, h => by
    have := cells2_get L i x (by simpa using h)
    rw [show cells2 (y :: L) = .int .i64 y.f :: .int .i64 y.t :: cells2 L by simp [cells2], show (i + 1) * 2 = i * 2 + 1 + 1 by omega]
    exact this
theorem SP.of_owns {W : World} {base : Nat} {v : Value} {L : List St} (h : W.ownsRow base 24 2 v L.length (cells2 L)) : SP W v L := by
  have hc := fun g hg => World.ownsRow.cells h (g := g) hg
  have hlt := World.ownsRow.lt h
  obtain ⟨_, ⟨rfl, h0⟩ | ⟨g, c, cur, rfl, _⟩⟩ := h
  · exact ⟨none, 0, by rw [h0], fun h => by omega⟩
  · refine ⟨_, c, rfl, fun _ => ⟨g, 0, rfl, (hlt g rfl).2, fun i y hy => ?_⟩⟩
    obtain ⟨e1, e2⟩ := cells2_get L i y hy
    have q1 := hc g rfl _ _ e1
    have q2 := hc g rfl _ _ e2
    rw [Addr.add_mid] at q1 q2
    exact ⟨q1, by rw [Nat.add_assoc]; exact q2⟩
theorem RI.at {W : World} {r c : Nat} {a : Option Addr} {L : List St} (h : RI W r a c L) {k : Nat} {y : St} (hy : L[k]? = some y) : ∃ g o, a = some ⟨g, o, none⟩ ∧ W.cell? ⟨g, o + k * 3, none⟩ = some (.int .i64 y.f) ∧ W.cell? ⟨g, o + k * 3 + 1, none⟩ = some (.int .i64 y.t) ∧ W.cell? ⟨g, o + k * 3 + 2, none⟩ = some (.int .i64 y.i) := by
  obtain ⟨a', c', hv, h2⟩ := h.lv
  simp only [Value.slice.injEq] at hv
  obtain ⟨rfl, -, -⟩ := hv
  obtain ⟨g, o, rfl, hg, hc⟩ := h2 (by have := (List.getElem?_eq_some_iff.1 hy).1; omega)
  exact ⟨g, o, rfl, hc k y hy⟩
theorem rlen30 {W : World} {r c : Nat} {a : Option Addr} {L : List St} (h : RI W r a c L) : Calls Try.prog 30 #[.pointer (some ⟨r, 0, none⟩)] W fun e w' => e = .returned (.int .i64 (L.length : Int)) ∧ W = w' := by
  have c0 := h.blk.cell 0
  simp only [List.getElem?_cons_zero] at c0
  go_enter Try.func30, Try.ntmps30
  go_wp2
  go_ret
  exact ⟨rfl, rfl⟩
theorem take_snoc' {L : List St} {k : Nat} {y : St} (h : L[k]? = some y) : L.take (k + 1) = L.take k ++ [y] := by rw [List.take_add_one, h]; rfl
set_option maxHeartbeats 1000000 in
theorem rstab31 {W : World} {r c : Nat} {a : Option Addr} {L : List St} (h : RI W r a c L) (hl : L.length ≤ 1000) (p : Int) : Calls Try.prog 31 #[.pointer (some ⟨r, 0, none⟩), .int .i64 p] W fun e w' => ∃ v, e = .returned v ∧ Hid (IR w' v ((L.filter (met p p)).map (·.i))) ∧ Below W.heap.size W w' := by
  obtain ⟨N, hN⟩ : ∃ N, L.length = N := ⟨_, rfl⟩
  have HN : Hid _ := hN
  have HR : Hid (RI W r a c L) := h
  rw [hN] at hl
  clear h hN
  go_enter Try.func31, Try.ntmps31
  go_wp2_with fail
  go_loopw [5, 6] (fun fa fi wr => ∃ (k : Nat), fi = .int .i64 (k : Int) ∧ Hid (k ≤ N) ∧ Hid (wr.ownsRow W.heap.size 3 1 fa ((L.take k).filter (met p p)).length (ids ((L.take k).filter (met p p)))) ∧ Hid (Below W.heap.size W wr)) (fun _ fi _ => ((N : Int) - intOf fi).toNat)
  case atStart => exact ⟨0, rfl, Nat.zero_le _, World.ownsRow_nil _ _ _ _, Below.refl _ _⟩
  case round =>
    rename_i fa _ _
    obtain ⟨k, rfl, hk, hown, hB⟩ := hrel
    by_cases hkN : k < N
    · have hki : (k : Int) < (N : Int) := by omega
      have hk0 : (0 : Int) ≤ (k : Int) := by omega
      obtain ⟨y, hy⟩ : ∃ y, L[k]? = some y := ⟨_, List.getElem?_eq_getElem (by rw [HN.out]; exact hkN)⟩
      have HTk : Hid (L.take (k + 1) = L.take k ++ [y]) := take_snoc' hy
      have hr2 := RI.below HR.out hB.out
      have r0 := hr2.blk.cell 0
      simp only [List.getElem?_cons_zero] at r0
      rw [HN.out] at r0
      obtain ⟨g, o, rfl, d0, d1, d2⟩ := hr2.at hy
      have hlen : ((L.take k).filter (met p p)).length ≤ 100000 := Nat.le_trans (List.length_filter_le _ _) (Nat.le_trans (List.length_take_le _ _) (by omega))
      clear hy hr2
      by_cases h1 : y.f ≤ p
      · by_cases h2 : p < y.t
        · have HTF : Hid ((L.take (k + 1)).filter (met p p) = (L.take k).filter (met p p) ++ [y]) := by
            show _ = _
            rw [HTk.out, List.filter_append]
            have : met p p y = true := by simp [met]; omega
            simp [this]
          go_wp2_with (at_builtin; refine wpList_append_ex rfl _ _ 41 rfl _ _ rfl rfl (append_int (owns_keep (W' := wr.alloc (.cells #[.int .i64 y.i] 3)) hown.out (fun j hj => Below.heap_alloc _ _ _ (World.ownsRow.lt hown.out j hj).2)) hlen (by have := hB.out.size; simp; omega) _ (cell_one _ _ _) rfl) ?_; rintro v1 w1 ⟨O1, G1, _⟩; have B1 : Below W.heap.size W w1 := (hB.out.alloc hB.out.size (.cells #[.int .i64 y.i] 3)).grown G1 (by have := hB.out.size; simp; omega) (fun j e => (World.ownsRow.lt hown.out j e).1))
          go_roundw
          case rel => exact ⟨k + 1, by simp, by show _ ≤ _; omega, by rw [HTF.out]; exact (show World.ownsRow w1 W.heap.size 3 1 v1 _ _ by simpa [ids] using O1), B1⟩
          case measure => simp only [intOf]; omega
        · have HTF : Hid ((L.take (k + 1)).filter (met p p) = (L.take k).filter (met p p)) := by
            show _ = _
            rw [HTk.out, List.filter_append]
            have : met p p y = false := by simp [met]; omega
            simp [this]
          go_wp2_with fail
          go_roundw
          case rel => exact ⟨k + 1, by simp, by show _ ≤ _; omega, by rw [HTF.out]; exact hown.out, hB.out⟩
          case measure => simp only [intOf]; omega
      · have HTF : Hid ((L.take (k + 1)).filter (met p p) = (L.take k).filter (met p p)) := by
          show _ = _
          rw [HTk.out, List.filter_append]
          have : met p p y = false := by simp [met]; omega
          simp [this]
        go_wp2_with fail
        go_roundw
        case rel => exact ⟨k + 1, by simp, by show _ ≤ _; omega, by rw [HTF.out]; exact hown.out, hB.out⟩
        case measure => simp only [intOf]; omega
    · have hki : ¬ (k : Int) < (N : Int) := by omega
      have r0 := (RI.below HR.out hB.out).blk.cell 0
      simp only [List.getElem?_cons_zero] at r0
      rw [HN.out] at r0
      have HE : Hid (L.take k = L) := by show _ = _; rw [List.take_of_length_le (by rw [HN.out]; omega)]
      rw [HE.out] at hown
      go_wp2
      go_ret
      exact ⟨_, rfl, IR.of_owns hown.out, hB.out⟩
theorem rover_no {W : World} {r : Nat} {f to : Int} (h : ¬ f < to) : Calls Try.prog 32 #[.pointer (some ⟨r, 0, none⟩), .agg #[.int .i64 f, .int .i64 to]] W fun e w' => e = .returned (.slice none 0 0) ∧ Below W.heap.size W w' := by
  have b0 := blk_new W [.int .i64 f, .int .i64 to] 24
  change Blk (W.alloc (.cells #[.int .i64 f, .int .i64 to] 24)) _ _ _ at b0
  have hA := al W (.cells #[.int .i64 f, .int .i64 to] 24)
  have c0 := b0.cell 0
  have c1 := b0.cell 1
  simp only [List.getElem?_cons_zero, List.getElem?_cons_succ] at c0 c1
  clear b0
  go_enter Try.func32, Try.ntmps32
  go_wp2_with fail
  generalize W.alloc (.cells #[.int .i64 f, .int .i64 to] 24) = W1 at *
  have HA : Hid _ := hA
  clear hA
  go_loopw [5, 6] (fun fa fi wr => fa = .slice none 0 0 ∧ fi = .int .i64 0 ∧ Hid (wr = W1)) (fun _ _ _ => 0)
  case atStart => exact ⟨rfl, rfl, rfl⟩
  case round =>
    obtain ⟨rfl, rfl, hw⟩ := hrel
    obtain rfl := hw.out
    go_wp2
    go_ret
    exact ⟨rfl, HA.out⟩
set_option maxHeartbeats 1000000 in
theorem rover32 {W : World} {r c : Nat} {a : Option Addr} {L : List St} (h : RI W r a c L) (hl : L.length ≤ 1000) (f to : Int) (hft : f < to) : Calls Try.prog 32 #[.pointer (some ⟨r, 0, none⟩), .agg #[.int .i64 f, .int .i64 to]] W fun e w' => ∃ v, e = .returned v ∧ Hid (IR w' v ((L.filter (met f (to - 1))).map (·.i))) ∧ Below W.heap.size W w' := by
  obtain ⟨N, hN⟩ : ∃ N, L.length = N := ⟨_, rfl⟩
  have HN : Hid _ := hN
  have hA := al W (.cells #[.int .i64 f, .int .i64 to] 24)
  have b0 := blk_new W [.int .i64 f, .int .i64 to] 24
  change Blk (W.alloc (.cells #[.int .i64 f, .int .i64 to] 24)) _ _ _ at b0
  have HR : Hid (RI (W.alloc (.cells #[.int .i64 f, .int .i64 to] 24)) r a c L) := h.below hA
  rw [hN] at hl
  have HA : Hid _ := hA
  have Hb0 : Hid _ := b0
  clear h hN hA b0
  go_enter Try.func32, Try.ntmps32
  go_wp2_with fail
  generalize W.alloc (.cells #[.int .i64 f, .int .i64 to] 24) = W1 at *
  have HC : Hid (∀ w', Below W1.heap.size W1 w' → w'.cell? ⟨W.heap.size, 0, none⟩ = some (.int .i64 f) ∧ w'.cell? ⟨W.heap.size, 1, none⟩ = some (.int .i64 to)) := fun w' k => ⟨(Blk.below Hb0.out k).cell 0, (Blk.below Hb0.out k).cell 1⟩
  go_loopw [5, 6] (fun fa fi wr => ∃ (k : Nat), fi = .int .i64 (k : Int) ∧ Hid (k ≤ N) ∧ Hid (wr.ownsRow W1.heap.size 3 1 fa ((L.take k).filter (met f (to - 1))).length (ids ((L.take k).filter (met f (to - 1))))) ∧ Hid (Below W1.heap.size W1 wr)) (fun _ fi _ => ((N : Int) - intOf fi).toNat)
  case atStart => exact ⟨0, rfl, Nat.zero_le _, World.ownsRow_nil _ _ _ _, Below.refl _ _⟩
  case round =>
    rename_i fa _ _
    obtain ⟨k, rfl, hk, hown, hB⟩ := hrel
    by_cases hkN : k < N
    · have hki : (k : Int) < (N : Int) := by omega
      have hk0 : (0 : Int) ≤ (k : Int) := by omega
      obtain ⟨y, hy⟩ : ∃ y, L[k]? = some y := ⟨_, List.getElem?_eq_getElem (by rw [HN.out]; exact hkN)⟩
      have HTk : Hid (L.take (k + 1) = L.take k ++ [y]) := take_snoc' hy
      have hr2 := RI.below HR.out hB.out
      obtain ⟨s0, s1⟩ := HC.out _ hB.out
      have r0 := hr2.blk.cell 0
      simp only [List.getElem?_cons_zero] at r0
      rw [HN.out] at r0
      obtain ⟨g, o, rfl, d0, d1, d2⟩ := hr2.at hy
      have hlen : ((L.take k).filter (met f (to - 1))).length ≤ 100000 := Nat.le_trans (List.length_filter_le _ _) (Nat.le_trans (List.length_take_le _ _) (by omega))
      clear hy hr2
      by_cases h1 : y.f < to
      · by_cases h2 : f < y.t
        · have HTF : Hid ((L.take (k + 1)).filter (met f (to - 1)) = (L.take k).filter (met f (to - 1)) ++ [y]) := by
            show _ = _
            rw [HTk.out, List.filter_append]
            have : met f (to - 1) y = true := by simp [met]; omega
            simp [this]
          go_wp2_with fail
          go_big_quiet (fail)
          have K8 : Below wr.heap.size wr (wr.drewN nq) := ⟨rfl, rfl, rfl, Nat.le_refl _, fun _ _ => rfl⟩
          have own8 := owns_keep (W' := wr.drewN nq) hown.out (fun _ _ => rfl)
          have q0 : (wr.drewN nq).cell? ⟨r, 0, none⟩ = some (.slice (some ⟨g, o, none⟩) N c) := r0
          have q2 : (wr.drewN nq).cell? ⟨g, o + k * 3 + 2, none⟩ = some (.int .i64 y.i) := d2
          have B8 := bmore hB.out K8
          clear r0 d0 d1 d2 hB hown K8 s0 s1
          generalize wr.drewN nq = w8 at *
          have HO8 : Hid _ := own8
          have HB8 : Hid _ := B8
          clear own8 B8
          go_wp2_with (at_builtin; refine wpList_append_ex rfl _ _ 41 rfl _ _ rfl rfl (append_int (owns_keep (W' := w8.alloc (.cells #[.int .i64 y.i] 3)) HO8.out (fun j hj => Below.heap_alloc _ _ _ (World.ownsRow.lt HO8.out j hj).2)) hlen (by have := HB8.out.size; simp; omega) _ (cell_one _ _ _) rfl) ?_; rintro v1 w1 ⟨O1, G1, _⟩; have B1 : Below W1.heap.size W1 w1 := (HB8.out.alloc HB8.out.size (.cells #[.int .i64 y.i] 3)).grown G1 (by have := HB8.out.size; simp; omega) (fun j e => (World.ownsRow.lt HO8.out j e).1))
          go_roundw
          case rel => exact ⟨k + 1, by simp, by show _ ≤ _; omega, by rw [HTF.out]; exact (show World.ownsRow w1 W1.heap.size 3 1 v1 _ _ by simpa [ids] using O1), B1⟩
          case measure => simp only [intOf]; omega
        · have HTF : Hid ((L.take (k + 1)).filter (met f (to - 1)) = (L.take k).filter (met f (to - 1))) := by
            show _ = _
            rw [HTk.out, List.filter_append]
            have : met f (to - 1) y = false := by simp [met]; omega
            simp [this]
          go_wp2_with fail
          go_big_quiet (fail)
          have B2 : Below W1.heap.size W1 (wr.drewN nq) := bmore hB.out ⟨rfl, rfl, rfl, Nat.le_refl _, fun _ _ => rfl⟩
          go_wp2_with fail
          go_roundw
          case rel => exact ⟨k + 1, by simp, by show _ ≤ _; omega, by rw [HTF.out]; exact owns_keep (W' := wr.drewN nq) hown.out (fun _ _ => rfl), B2⟩
          case measure => simp only [intOf]; omega
      · have HTF : Hid ((L.take (k + 1)).filter (met f (to - 1)) = (L.take k).filter (met f (to - 1))) := by
          show _ = _
          rw [HTk.out, List.filter_append]
          have : met f (to - 1) y = false := by simp [met]; omega
          simp [this]
        have hd : decide (y.f < to) = false := by simp; omega
        go_wp2_with fail
        go_big_quiet (fail)
        have B2 : Below W1.heap.size W1 (wr.drewN nq) := bmore hB.out ⟨rfl, rfl, rfl, Nat.le_refl _, fun _ _ => rfl⟩
        go_wp2_with fail
        go_roundw
        case rel => exact ⟨k + 1, by simp, by show _ ≤ _; omega, by rw [HTF.out]; exact owns_keep (W' := wr.drewN nq) hown.out (fun _ _ => rfl), B2⟩
        case measure => simp only [intOf]; omega
    · have hki : ¬ (k : Int) < (N : Int) := by omega
      have r0 := (RI.below HR.out hB.out).blk.cell 0
      simp only [List.getElem?_cons_zero] at r0
      rw [HN.out] at r0
      have HE : Hid (L.take k = L) := by show _ = _; rw [List.take_of_length_le (by rw [HN.out]; omega)]
      rw [HE.out] at hown
      obtain ⟨s0, s1⟩ := HC.out _ hB.out
      go_wp2
      go_ret
      exact ⟨_, rfl, IR.of_owns hown.out, bmore HA.out hB.out⟩
end Go.Proofs.Ytgglhicpfjihlaa
