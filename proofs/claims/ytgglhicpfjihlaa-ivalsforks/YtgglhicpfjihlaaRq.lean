/- The document's Remove. -/
import Derived.Test.YtgglhicpfjihlaaRp
import Derived.Deep.RegionLaw
namespace Go.Proofs.Ytgglhicpfjihlaa
open Go.RowKit Go.Shelf
set_option maxRecDepth 100000
theorem step_append_run {P : Program} {ops : Array Oper} {o : Oper} {a : Act} {w : World} {K : Act → World → Prop} {Q : Exit → Act → World → Prop} {E : Prop} (hgd : o.guard = none) (s x : Operand) (t : TypeId)
    (ho : o.op = .call { callee := .builtin .append, args := #[s, x], argTypes := #[t, t] }) (v y : Value) (hs : a.eval s = v) (hx : a.eval x = y) (u : Value) (w' : World) (hrun : (Builtin.append_ #[t, t] o.type #[v, y]).run P w = .ok u w')
    (h : K (a.put o.dst u) w') : if Region.wanted o (yielded ops a.tmps) = true then Oper.wp P o a w K Q else E := by
  have hw : Region.wanted o (yielded ops a.tmps) = true := by simp [Region.wanted, hgd]
  rw [if_pos hw]
  unfold Oper.wp execOp
  simp only [ho, resolve, invoke, builtin, Sem.run_bind, Sem.run_pure, Result.andThen_ok, List.map_toArray, List.map_cons, List.map_nil, hs, hx, hrun]
  exact h
/-- The document's Ivals at r holds the list L. -/
structure RI (W : World) (r : Nat) (a : Option Addr) (c : Nat) (L : List St) : Prop where
  blk : Blk W r [.slice a L.length c] 61
  lv : LV W (.slice a L.length c) L
  cap : L.length ≤ c
theorem RI.below {W W' : World} {r : Nat} {a : Option Addr} {c : Nat} {L : List St} (h : RI W r a c L) (k : Below W.heap.size W W') : RI W' r a c L := ⟨h.blk.below k, h.lv.below k, h.cap⟩
theorem RU.form {w : World} {B : Nat} {u : Value} {L : List St} (h : RU B w u L) : ∃ a c, u = .slice a L.length c ∧ L.length ≤ c := by
  rcases h with ⟨rfl, b, rfl, h2, h3⟩ | ⟨h0, h1, h2⟩
  · exact ⟨_, _, rfl, Nat.le_refl _⟩
  · rcases h2 with ⟨rfl, hn⟩ | ⟨g, cap, cur, rfl, _, h3, h4, _⟩
    · exact absurd (List.length_pos_iff.2 h0) (by omega)
    · exact ⟨_, _, rfl, h4⟩
theorem ri_of {w : World} {B r : Nat} {u v : Value} {L : List St} (h : RU B w u L) (hb : Blk w r [v] 61) (hr : r < B) : ∃ a c, u = .slice a L.length c ∧ RI (w.setCell ⟨r, 0, none⟩ u) r a c L := by
  obtain ⟨a, c, rfl, hc⟩ := h.form
  have h2 : RU B (w.setCell ⟨r, 0, none⟩ (.slice a L.length c)) (.slice a L.length c) L := h.keep (by simp [World.setCell]) fun k hk _ => Below.heap_setCell _ _ _ _ (by simp; omega)
  exact ⟨a, c, rfl, hb.set _, h2.read, hc⟩
theorem LV.sliced {w : World} {L : List St} {a : Option Addr} {n c : Nat} (h : LV w (.slice a n c) L) {k : Nat} (hk : k ≤ n) (hc : n ≤ c) : LV w (.slice (if c = k then a else Option.map (fun x => x.add (k * 3)) a) (n - k) (c - k)) (L.drop k) := by
  have h' := h
  obtain ⟨a', c0, hv, _⟩ := h'
  simp only [Value.slice.injEq] at hv
  obtain ⟨-, rfl, -⟩ := hv
  by_cases hkn : k < L.length
  · obtain ⟨g, o, rfl, h2⟩ := h.drop hkn (c - k)
    rw [if_neg (by omega), Option.map_some, Addr.add_mid]
    exact h2
  · refine ⟨_, _, by rw [List.length_drop], fun h0 => ?_⟩
    rw [List.length_drop] at h0
    omega
theorem place_none {s : St} : ∀ {L : List St} {k : Int}, s ∉ L → place L s k = -1
  | [], _, _ => rfl
  | y :: L, k, h => by
    have h1 : ¬ y = s := fun e => h (by rw [e]; exact List.mem_cons_self)
    rw [place, if_neg h1, place_none fun e => h (List.mem_cons_of_mem _ e)]
theorem place_some {s : St} : ∀ {L : List St} (k : Int), s ∈ L → ∃ n : Nat, n < L.length ∧ place L s k = k + n ∧ L.take n ++ L.drop (n + 1) = L.erase s
  | [], _, h => by cases h
  | y :: L, k, h => by
    by_cases e : y = s
    · subst e
      exact ⟨0, by simp, by simp [place], by simp⟩
    · obtain ⟨n, h1, h2, h3⟩ := place_some (k + 1) (by rcases List.mem_cons.1 h with h | h; exact absurd h.symm e; exact h : s ∈ L)
      refine ⟨n + 1, by simp; omega, by rw [place, if_neg e, h2]; omega, ?_⟩
      rw [List.erase_cons_tail (by simpa using e), ← h3]
      simp
theorem rremove34_no {W : World} {r : Nat} {a : Option Addr} {c : Nat} {L : List St} (s : St) (hr : RI W r a c L) (hl : L.length ≤ 1000) (hs : s ∉ L) : Calls Try.prog 34 #[.pointer (some ⟨r, 0, none⟩), .agg #[.int .i64 s.f, .int .i64 s.t], .int .i64 s.i] W fun e w' => e = .returned (.bool false) ∧ Below W.heap.size W w' := by
  have hA := al W (.cells #[.int .i64 s.f, .int .i64 s.t] 24)
  have b0 := blk_new W [.int .i64 s.f, .int .i64 s.t] 24
  change Blk (W.alloc (.cells #[.int .i64 s.f, .int .i64 s.t] 24)) _ _ _ at b0
  have k45 := at45 s (hr.below hA).blk (hr.below hA).lv hl
  rw [place_none hs] at k45
  have c0 := b0.cell 0
  have c1 := b0.cell 1
  go_enter Try.func34, Try.ntmps34
  go_wp2_with (go_at_call 45; (with_reducible refine k45.mono ?_); rintro e w1 ⟨rfl, B1⟩)
  go_ret
  exact ⟨rfl, bmore hA B1⟩
set_option maxHeartbeats 2000000 in
theorem rremove34_yes {W : World} {r : Nat} {a : Option Addr} {c : Nat} {L : List St} (s : St) (hr : RI W r a c L) (hl : L.length ≤ 1000) (hs : s ∈ L) : Calls Try.prog 34 #[.pointer (some ⟨r, 0, none⟩), .agg #[.int .i64 s.f, .int .i64 s.t], .int .i64 s.i] W fun e w' => e = .returned (.bool true) ∧ (∃ a' c', RI w' r a' c' (L.erase s)) ∧ Keep (fun k => k = r) W w' := by
  have hA := al W (.cells #[.int .i64 s.f, .int .i64 s.t] 24)
  have b0 := blk_new W [.int .i64 s.f, .int .i64 s.t] 24
  change Blk (W.alloc (.cells #[.int .i64 s.f, .int .i64 s.t] 24)) _ _ _ at b0
  have k45 := at45 s (hr.below hA).blk (hr.below hA).lv hl
  obtain ⟨n, hn, hp, he⟩ := place_some 0 hs
  rw [hp, Int.zero_add] at k45
  have c0 := b0.cell 0
  have c1 := b0.cell 1
  have hn0 : ¬ (n : Int) < 0 := by omega
  go_enter Try.func34, Try.ntmps34
  go_wp2_with (go_at_call 45; (with_reducible refine k45.mono ?_); rintro e w1 ⟨rfl, B1⟩)
  have F1 := bmore hA B1
  have r1 := hr.below F1
  have HR : Hid _ := hr
  have HF : Hid _ := F1
  have HE : Hid _ := he
  have HR1 : Hid _ := r1
  have HL : Hid _ := hl
  clear hr k45 b0 c0 c1 hA B1 hp hs F1 he
  obtain ⟨N, hN⟩ : ∃ N, L.length = N := ⟨_, rfl⟩
  have hcap := r1.cap
  have hrl := r1.blk.lt
  have e0 := r1.blk.cell 0
  simp only [List.getElem?_cons_zero] at e0
  rw [hN] at e0 hcap hn
  have HN : Hid _ := hN
  clear hN r1 hl
  have g1 : (n : Int) ≤ (c : Int) := by omega
  have g2 : (n : Int) + 1 ≤ (N : Int) := by omega
  have g3 : (0 : Int) ≤ (n : Int) + 1 := by omega
  have hw : wrap64 ((n : Int) + 1) = (n : Int) + 1 := IntWalk.wrap64_in _ (by have := HL.out; have := HN.out; omega)
  have hw' : IntKind.i64.wrap ((n : Int) + 1) = (n : Int) + 1 := (IntWalk.i64_left _).trans hw
  have hC : Below w1.heap.size w1 (w1.alloc (.cells #[] 74)).drew := (al _ _).drew
  have hU0 : RU w1.heap.size (w1.alloc (.cells #[] 74)).drew (.slice (some ⟨w1.heap.size, 0, none⟩) 0 0) [] := .inl ⟨rfl, _, rfl, Nat.le_refl _, by simp⟩
  have hnL : n < L.length := by rw [HN.out]; exact hn
  obtain ⟨u, w5, hr25, hU5, hgr5⟩ := run_appI hU0 ((HR1.out.below hC).lv.take (k := n) (by omega) c) (by have := HL.out; simp; omega) hC.size
  rw [List.nil_append] at hU5
  have hB5 : Below w1.heap.size w1 w5 := hC.grown hgr5 hC.size (fun k hk => (hU0.at hk).1)
  have HR25 : Hid _ := hr25
  have HU5 : Hid _ := hU5
  have HB5 : Hid _ := hB5
  have e05 := (HR1.out.below hB5).blk.cell 0
  simp only [List.getElem?_cons_zero] at e05
  rw [HN.out] at e05
  obtain ⟨u6, w6, hr33, hU6, hgr6⟩ := run_appI hU5 (LV.sliced (HR1.out.below hB5).lv (k := n + 1) (by omega) (by rw [HN.out]; exact hcap)) (by have := HL.out; simp; omega) hB5.size
  have hB6 : Below w1.heap.size w1 w6 := hB5.grown hgr6 hB5.size (fun k hk => (hU5.at hk).1)
  rw [HE.out] at hU6
  obtain ⟨a6, c6, rfl, hRI⟩ := ri_of hU6 (HR1.out.below hB6).blk hrl
  rw [HN.out] at hr33
  have HR33 : Hid _ := hr33
  have HB6 : Hid _ := hB6
  have HRI : Hid _ := hRI
  have e06 := (HR1.out.below hB6).blk.cell 0
  have f06 := (HR1.out.below hB6).blk.frozen 0
  simp only [List.getElem?_cons_zero] at e06
  rw [HN.out] at e06
  clear hr25 hU0 hU5 hgr5 hC hB5 hnL hgr6 hB6 hr33 hU6 hRI
  go_region_law (first
      | (refine step_append_run rfl (.tmp 18) (.tmp 24) 59 rfl _ _ rfl rfl _ _ HR25.out ?_)
      | (refine step_append_run rfl (.tmp 25) (.tmp 32) 59 rfl _ _ rfl rfl _ _ HR33.out ?_))
  all_goals (
    go_wp2
    all_goals go_ret
    all_goals exact ⟨rfl, ⟨_, _, HRI.out⟩, Keep.set (F := fun k => k = r) (Keep.of (bmore HF.out HB6.out)) (.inr rfl) _⟩)
end Go.Proofs.Ytgglhicpfjihlaa
