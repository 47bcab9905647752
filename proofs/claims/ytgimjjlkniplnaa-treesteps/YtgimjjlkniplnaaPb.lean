/- first, count, size of a part, whichever it is; counted, innerOf. -/
import Derived.Test.YtgimjjlkniplnaaPa
namespace Go.Proofs.Ytgimjjlkniplnaa
open Go.RowKit Go.Shelf
set_option maxRecDepth 100000
theorem m_count64 (v : Value) (w : World) : Sem.run Try.prog (method 218 64 v "regesta/tree.count") w = .ok (89, v) w := by kernel_rfl
theorem m_count72 (v : Value) (w : World) : Sem.run Try.prog (method 218 72 v "regesta/tree.count") w = .ok (92, v) w := by kernel_rfl
theorem m_first64 (v : Value) (w : World) : Sem.run Try.prog (method 218 64 v "regesta/tree.first") w = .ok (90, v) w := by kernel_rfl
theorem m_first72 (v : Value) (w : World) : Sem.run Try.prog (method 218 72 v "regesta/tree.first") w = .ok (93, v) w := by kernel_rfl
theorem m_size64 (v : Value) (w : World) : Sem.run Try.prog (method 218 64 v "regesta/tree.size") w = .ok (91, v) w := by kernel_rfl
theorem m_size72 (v : Value) (w : World) : Sem.run Try.prog (method 218 72 v "regesta/tree.size") w = .ok (94, v) w := by kernel_rfl
theorem c_fn (f : Nat) (hf : f = 89 ∨ f = 90 ∨ f = 91 ∨ f = 92 ∨ f = 93 ∨ f = 94) (v : Value) (w : World) : Sem.run Try.prog (callFunc f #[v]) w = .ok (.enter f #[v]) w := by
  rcases hf with rfl | rfl | rfl | rfl | rfl | rfl <;> kernel_rfl
theorem ta64_64 (v : Value) (w : World) : Sem.run Try.prog (Instr.typeAssert (.iface 64 v) 60 64 true) w = .ok (.tuple #[v, .bool true]) w := by kernel_rfl
theorem ta72_64 (v : Value) (w : World) : Sem.run Try.prog (Instr.typeAssert (.iface 72 v) 60 64 true) w = .ok (.tuple #[.slice none 0 0, .bool false]) w := by kernel_rfl
theorem ta72_72 (v : Value) (w : World) : Sem.run Try.prog (Instr.typeAssert (.iface 72 v) 60 72 true) w = .ok (.tuple #[v, .bool true]) w := by kernel_rfl
theorem ta64_72 (v : Value) (w : World) : Sem.run Try.prog (Instr.typeAssert (.iface 64 v) 60 72 true) w = .ok (.tuple #[.agg #[.slice none 0 0, .string { data := #[] }, .int .i64 0], .bool false]) w := by kernel_rfl
theorem tb64_64 (v : Value) (w : World) : Sem.run Try.prog (Instr.typeAssert (.iface 64 v) 60 64 false) w = .ok v w := by kernel_rfl
theorem tb72_72 (v : Value) (w : World) : Sem.run Try.prog (Instr.typeAssert (.iface 72 v) 60 72 false) w = .ok v w := by kernel_rfl
/-- What a method's call comes to. -/
def Meth (name : String) (x : Bx) (w : World) (Post : Value → World → Prop) : Prop := ∃ f, (f = 89 ∨ f = 90 ∨ f = 91 ∨ f = 92 ∨ f = 93 ∨ f = 94) ∧ (∀ w, Sem.run Try.prog (method 218 x.1 x.2 name) w = .ok (f, x.2) w) ∧ Calls Try.prog f #[x.2] w fun e w' => ∃ v, e = .returned v ∧ Post v w'
theorem upon_meth {name : String} {x : Bx} {w : World} {Post : Value → World → Prop} (h : Meth name x w Post) {o : Oper} {a : Act} {next : Act → World → Prop} {Q : Exit → Act → World → Prop} (k : ∀ v w', Post v w' → next (a.put o.dst v) w') :
    Oper.upon Try.prog o a next Q ((Sem.run Try.prog (method 218 x.1 x.2 name) w).andThen fun a w' => Sem.run Try.prog (callFunc a.fst #[a.snd]) w') := by
  obtain ⟨f, hf, hm, hc⟩ := h
  rw [hm w]
  show Oper.upon Try.prog o a next Q (Sem.run Try.prog (callFunc f #[x.2]) w)
  rw [c_fn f hf]
  refine hc.mono ?_
  rintro e w' ⟨v, rfl, hp⟩
  exact k v w' hp
theorem meth_count {w : World} {h n : Nat} {x : Bx} {kv : List Pr} (hp : Part w h n x kv) : Meth "regesta/tree.count" x w fun v w' => v = .int .i64 (kv.length : Int) ∧ Below w.heap.size w w' := by
  cases h with
  | zero =>
    obtain ⟨t, y⟩ := x
    obtain ⟨rfl, hl, hn⟩ := hp
    obtain ⟨b, c, rfl⟩ := hl.form
    refine ⟨89, .inl rfl, fun w => m_count64 _ w, (count89 _ _ _ w).mono ?_⟩
    rintro e w' ⟨rfl, rfl⟩
    exact ⟨_, rfl, rfl, Below.refl _ _⟩
  | succ h =>
    obtain ⟨sl, ks, rfl, h2, h3, h4, h5, h6⟩ := hp
    obtain ⟨b, c, rfl⟩ := h2.form
    refine ⟨92, by simp, fun w => m_count72 _ w, (count92 _ _ _ _ _ w).mono ?_⟩
    rintro e w' ⟨rfl, hb⟩
    exact ⟨_, rfl, rfl, hb⟩
theorem meth_first {w : World} {h n : Nat} {x : Bx} {kv : List Pr} (hp : Part w h n x kv) (h0 : 0 < kv.length) : Meth "regesta/tree.first" x w fun v w' => v = .string (fst kv) ∧ Below w.heap.size w w' := by
  cases h with
  | zero =>
    obtain ⟨t, y⟩ := x
    obtain ⟨rfl, hl, hn⟩ := hp
    refine ⟨90, by simp, fun w => m_first64 _ w, (first90 hl h0).mono ?_⟩
    rintro e w' ⟨rfl, rfl⟩
    exact ⟨_, rfl, rfl, Below.refl _ _⟩
  | succ h =>
    obtain ⟨sl, ks, rfl, h2, h3, h4, h5, h6⟩ := hp
    obtain ⟨b, c, rfl⟩ := h2.form
    refine ⟨93, by simp, fun w => m_first72 _ w, (first93 _ _ _ _ _ w).mono ?_⟩
    rintro e w' ⟨rfl, hb⟩
    exact ⟨_, rfl, rfl, hb⟩
theorem meth_size {w : World} {h n : Nat} {x : Bx} {kv : List Pr} (hp : Part w h n x kv) : Meth "regesta/tree.size" x w fun v w' => v = .int .i64 (n : Int) ∧ Below w.heap.size w w' := by
  cases h with
  | zero =>
    obtain ⟨t, y⟩ := x
    obtain ⟨rfl, hl, rfl⟩ := hp
    obtain ⟨b, c, rfl⟩ := hl.form
    refine ⟨91, by simp, fun w => m_size64 _ w, (size91 _ _ _ w).mono ?_⟩
    rintro e w' ⟨rfl, rfl⟩
    exact ⟨_, rfl, rfl, Below.refl _ _⟩
  | succ h =>
    obtain ⟨sl, ks, rfl, h2, h3, h4, h5, h6⟩ := hp
    obtain ⟨b, c, rfl⟩ := h2.form
    refine ⟨94, by simp, fun w => m_size72 _ w, (size94 _ _ _ _ _ w).mono ?_⟩
    rintro e w' ⟨rfl, hb⟩
    exact ⟨_, rfl, by rw [List.length_map, h3], hb⟩
theorem flat_take {ks : List Kd} {k : Nat} {x : Kd} (h : ks[k]? = some x) : flat (ks.take (k + 1)) = flat (ks.take k) ++ x.2 := by
  unfold flat
  rw [List.take_add_one, h, List.map_append, List.flatten_append]
  simp
theorem flat_le (ks : List Kd) (k : Nat) : (flat (ks.take k)).length ≤ (flat ks).length := by
  conv => rhs; rw [← List.take_append_drop k ks]
  unfold flat
  rw [List.map_append, List.flatten_append, List.length_append]
  omega
theorem EK.cell {w : World} {a : Option Addr} {n c : Nat} {L : List Bx} (h : LV EK w (.slice a n c) L) {i : Nat} {x : Bx} (hx : L[i]? = some x) : ∃ g o, a = some ⟨g, o, none⟩ ∧ w.cell? ⟨g, o + i, none⟩ = some (.iface x.1 x.2) := by
  obtain ⟨g, o, ha, hc⟩ := h.at hx
  have d0 := hc 0 (by decide)
  simp only [EK, Nat.mul_one, Nat.add_zero, List.getElem?_cons_zero] at d0
  exact ⟨g, o, ha, d0⟩
theorem EP.cell {w : World} {a : Option Addr} {n c : Nat} {L : List Pr} (h : LV EP w (.slice a n c) L) {i : Nat} {x : Pr} (hx : L[i]? = some x) : ∃ g o, a = some ⟨g, o, none⟩ ∧ w.cell? ⟨g, o + i * 2, none⟩ = some (.string x.1) ∧ w.cell? ⟨g, o + i * 2 + 1, none⟩ = some (.string x.2) := by
  obtain ⟨g, o, ha, hc⟩ := h.at hx
  have d0 := hc 0 (by decide)
  have d1 := hc 1 (by decide)
  simp only [EP, Nat.add_zero, List.getElem?_cons_zero, List.getElem?_cons_succ] at d0 d1
  exact ⟨g, o, ha, d0, d1⟩
set_option maxHeartbeats 400000 in
theorem counted50 {w : World} {v : Value} {ks : List Kd} (hv : LV EK w v (ks.map (·.1))) (hk : ∀ k ∈ ks, ∃ h m, Part w h m k.1 k.2) (hl : (flat ks).length ≤ 10000) (hn : ks.length ≤ 1000) : Calls Try.prog 50 #[v] w fun e w' => e = .returned (.int .i64 ((flat ks).length : Int)) ∧ Below w.heap.size w w' := by
  obtain ⟨a, c, rfl⟩ := hv.form
  obtain ⟨M, hM⟩ : ∃ M, ks.length = M := ⟨_, rfl⟩
  rw [List.length_map] at hv ⊢
  rw [hM] at hv hn ⊢
  have HM : Hid _ := hM
  have HV : Hid (LV EK w (.slice a M c) (ks.map (·.1))) := hv
  have HK : Hid (∀ k ∈ ks, ∃ h m, Part w h m k.1 k.2) := hk
  have HL : Hid (∀ k, (flat (ks.take k)).length ≤ 10000) := fun k => Nat.le_trans (flat_le ks k) hl
  have HA : Hid (flat (ks.take M) = flat ks) := by show _ = _; rw [← hM, List.take_length]
  clear hM hv hk hl
  go_enter Try.func50, Try.ntmps50
  go_wp2_with fail
  go_loopw [3, 8] (fun ft fi wr => ∃ (k S : Nat), fi = .int .i64 (k : Int) ∧ ft = .int .i64 (S : Int) ∧ Hid (S = (flat (ks.take k)).length) ∧ Hid (k ≤ M) ∧ Hid (Below w.heap.size w wr)) (fun _ fi _ => ((M : Int) - intOf fi).toNat)
  case atStart => exact ⟨0, 0, rfl, rfl, rfl, Nat.zero_le _, Below.refl _ _⟩
  case round =>
    obtain ⟨k, S, rfl, rfl, hS, hk, hB⟩ := hrel
    by_cases hkM : k < M
    · have hki : (k : Int) < (M : Int) := by omega
      have hk0 : (0 : Int) ≤ (k : Int) := by omega
      obtain ⟨x, hx⟩ : ∃ x, ks[k]? = some x := ⟨_, List.getElem?_eq_getElem (by rw [HM.out]; exact hkM)⟩
      obtain ⟨g, o, rfl, d0⟩ := EK.cell (HV.out.below hB.out) (i := k) (x := x.1) (by rw [List.getElem?_map, hx]; rfl)
      obtain ⟨h, m, hp⟩ := HK.out x (List.mem_of_getElem? hx)
      have hm := meth_count (hp.below hB.out)
      have HT : Hid (S + x.2.length = (flat (ks.take (k + 1))).length) := by show _ = _; rw [flat_take hx, List.length_append, hS.out]
      have hSx : S + x.2.length ≤ 10000 := by rw [HT.out]; exact HL.out _
      generalize x.2.length = n at *
      have HMt : Hid (Meth "regesta/tree.count" x.1 wr fun v w' => v = .int .i64 (n : Int) ∧ Below wr.heap.size wr w') := hm
      clear hx hp hm
      go_wp2_with (with_reducible refine upon_meth HMt.out ?_; rintro v1 w1 ⟨rfl, hB1⟩)
      go_roundw
      case rel => exact ⟨k + 1, S + n, by simp, by simp, HT.out, by show _ ≤ _; omega, bmore hB.out hB1⟩
      case measure => simp only [intOf]; omega
    · have hki : ¬ (k : Int) < (M : Int) := by omega
      obtain rfl : k = M := by have := hk.out; omega
      obtain rfl : S = (flat ks).length := by rw [hS.out, HA.out]
      go_wp2
      go_ret
      exact ⟨rfl, hB.out⟩
end Go.Proofs.Ytgimjjlkniplnaa
