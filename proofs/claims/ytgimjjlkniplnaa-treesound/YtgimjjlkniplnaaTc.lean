/- The document's Delete. -/
import Derived.Test.YtgimjjlkniplnaaTa
import Derived.Deep.RegionLaw
namespace Go.Proofs.Ytgimjjlkniplnaa
open Go.RowKit Go.Shelf
set_option maxRecDepth 100000
theorem step_append_run {P : Program} {ops : Array Oper} {o : Oper} {a : Act} {w : World} {K : Act → World → Prop} {Q : Exit → Act → World → Prop} {E : Prop} (hgd : o.guard = none) (s x : Operand) (t : TypeId)
    (ho : o.op = .call { callee := .builtin .append, args := #[s, x], argTypes := #[t, t] }) (v y : Value) (hs : a.eval s = v) (hx : a.eval x = y) (u : Value) (w' : World) (hrun : (Builtin.append_ #[t, t] o.type #[v, y]).run P w = .ok u w')
    (h : K (a.put o.dst u) w') : if Region.wanted o (yielded ops a.tmps) = true then Oper.wp P o a w K Q else E := by
  have hw : Region.wanted o (yielded ops a.tmps) = true := by simp [Region.wanted, hgd]
  rw [if_pos hw]
  unfold Oper.wp execOp
  simp only [ho, resolve, invoke, builtin, Sem.run_bind, Sem.run_pure, Result.andThen_ok, List.map_toArray, List.map_cons, List.map_nil, hs, hx, hrun]
  exact h
theorem ri_of {w : World} {B r : Nat} {u v : Value} {L : List Pr} (h : RU EP B w u L) (hb : Blk w r [v] 55) (hr : r < B) : ∃ a c, u = .slice a L.length c ∧ RI (w.setCell ⟨r, 0, none⟩ u) r a c L := by
  obtain ⟨a, c, rfl⟩ := h.read.form
  have h2 : RU EP B (w.setCell ⟨r, 0, none⟩ (.slice a L.length c)) (.slice a L.length c) L := h.keep (by simp [World.setCell]) fun k hk _ => Below.heap_setCell _ _ _ _ (by simp; omega)
  exact ⟨a, c, rfl, hb.set _, h2.read⟩
theorem at_of_has {kv : List Pr} {k : ByteArray} {i : Nat} (hs : Srt kv) (ha : At kv k i) (hh : has kv k = true) : i < kv.length ∧ del kv k = kv.take i ++ kv.drop (i + 1) := by
  cases hf : found kv k i with
  | true =>
    obtain ⟨p, hp, hpk⟩ := is_found hf
    have := (List.getElem?_eq_some_iff.1 hp).1
    exact ⟨this, by unfold del; rw [(cut_lo ha).1, (cut_found hs hp hpk ha).1]⟩
  | false =>
    rw [(cut_none ha (not_found hf) hs).2.2] at hh
    cases hh
theorem at_of_no {kv : List Pr} {k : ByteArray} {i : Nat} (hs : Srt kv) (ha : At kv k i) (hh : has kv k = false) (v : ByteArray) : put kv (k, v) = kv.take i ++ (k, v) :: kv.drop i := by
  cases hf : found kv k i with
  | true =>
    obtain ⟨p, hp, hpk⟩ := is_found hf
    rw [(cut_found hs hp hpk ha).2.2] at hh
    cases hh
  | false =>
    unfold put
    rw [(cut_lo ha).1, (cut_none ha (not_found hf) hs).1]
def RDel (W : World) (r : Nat) (kv : List Pr) (k : ByteArray) (e : Ending) (w' : World) : Prop := e = .returned (.bool (has kv k)) ∧ (∃ a' c', RI w' r a' c' (if has kv k then del kv k else kv)) ∧ Keep (fun b => b = r) W w'
theorem rdel_no {W : World} {r : Nat} {a : Option Addr} {c : Nat} {kv : List Pr} (hr : RI W r a c kv) (hs : Srt kv) (hl : kv.length ≤ 1000) (k : ByteArray) (hh : has kv k = false) : Calls Try.prog 39 #[.pointer (some ⟨r, 0, none⟩), .string k] W (RDel W r kv k) := by
  have k11 := rget11 hr hs hl k
  unfold GetPost at k11
  have hg := get_has hs k
  rw [hh] at hg
  rw [hg] at k11
  have HH : Hid (has kv k = false) := hh
  have HR : Hid (RI W r a c kv) := hr
  generalize (getP kv k).getD ⟨#[]⟩ = s at *
  clear hr hs hh hg
  go_enter Try.func39, Try.ntmps39
  go_wp2_with (go_at_call 11; (with_reducible refine k11.mono ?_); rintro e w1 ⟨rfl, B1⟩)
  go_ret
  exact ⟨by rw [HH.out]; rfl, ⟨a, c, by rw [HH.out]; exact HR.out.below B1⟩, Keep.of B1⟩
set_option maxHeartbeats 2000000 in
theorem rdel_yes {W : World} {r : Nat} {a : Option Addr} {c : Nat} {kv : List Pr} (hr : RI W r a c kv) (hs : Srt kv) (hl : kv.length ≤ 1000) (k : ByteArray) (hh : has kv k = true) : Calls Try.prog 39 #[.pointer (some ⟨r, 0, none⟩), .string k] W (RDel W r kv k) := by
  have k11 := rget11 hr hs hl k
  unfold GetPost at k11
  have hg := get_has hs k
  rw [hh] at hg
  rw [hg] at k11
  have HH : Hid (has kv k = true) := hh
  have HR : Hid (RI W r a c kv) := hr
  have HS : Hid (Srt kv) := hs
  have HL : Hid (kv.length ≤ 1000) := hl
  have HK : Hid (∀ W', Below W.heap.size W W' → Calls Try.prog 33 #[.pointer (some ⟨r, 0, none⟩), .string k] W' fun e w' => ∃ i : Nat, i ≤ kv.length ∧ At kv k i ∧ e = .returned (.int .i64 (i : Int)) ∧ Below W'.heap.size W' w') := fun W' hW => rplace33 (hr.below hW) hs hl k
  generalize (getP kv k).getD ⟨#[]⟩ = s at *
  clear hr hs hh hg hl
  go_enter Try.func39, Try.ntmps39
  go_wp2_with (first
    | (go_at_call 11; (with_reducible refine k11.mono ?_); rintro e w0 ⟨rfl, B0⟩)
    | (go_at_call 33; (with_reducible refine (HK.out _ B0).mono ?_); rintro e w1 ⟨n, hn', hat, rfl, B1⟩))
  have F1 := bmore B0 B1
  have r1 := HR.out.below F1
  obtain ⟨hn, he⟩ := at_of_has HS.out hat HH.out
  have HF : Hid (Below W.heap.size W w1) := F1
  have HE : Hid (del kv k = kv.take n ++ kv.drop (n + 1)) := he
  have HR1 : Hid (RI w1 r a c kv) := r1
  clear k11 HK B0 B1 hat F1 he hn'
  obtain ⟨N, hN⟩ : ∃ N, kv.length = N := ⟨_, rfl⟩
  have hcap := r1.cap
  have hrl := r1.blk.lt
  have e0 := r1.blk.cell 0
  simp only [List.getElem?_cons_zero] at e0
  rw [hN] at e0 hcap hn
  have HN : Hid (kv.length = N) := hN
  clear hN r1
  have g1 : (n : Int) ≤ (c : Int) := by omega
  have g2 : (n : Int) + 1 ≤ (N : Int) := by omega
  have g3 : (0 : Int) ≤ (n : Int) + 1 := by omega
  have hw : wrap64 ((n : Int) + 1) = (n : Int) + 1 := IntWalk.wrap64_in _ (by have := HL.out; have := HN.out; omega)
  have hw' : IntKind.i64.wrap ((n : Int) + 1) = (n : Int) + 1 := (IntWalk.i64_left _).trans hw
  have hC : Below w1.heap.size w1 (w1.alloc (.cells #[] 33)).drew := (al _ _).drew
  have hU0 : RU EP w1.heap.size (w1.alloc (.cells #[] 33)).drew (.slice (some ⟨w1.heap.size, 0, none⟩) 0 0) [] := .inl ⟨rfl, _, rfl, Nat.le_refl _, by simp⟩
  have hnL : n < kv.length := by rw [HN.out]; exact hn
  obtain ⟨u, w5, hr25, hU5, hgr5⟩ := run_app hU0 ((HR1.out.below hC).lv.take (k := n) (by omega) c (by omega)) (by have := HL.out; simp; omega) hC.size
  rw [List.nil_append] at hU5
  have hB5 : Below w1.heap.size w1 w5 := hC.trans (grown_below hU0 hgr5 hC.size)
  have HR25 : Hid ((Builtin.append_ #[37, 37] 37 #[.slice (some ⟨w1.heap.size, 0, none⟩) 0 0, .slice a n c]).run Try.prog (w1.alloc (.cells #[] 33)).drew = .ok u w5) := hr25
  have e05 := (HR1.out.below hB5).blk.cell 0
  simp only [List.getElem?_cons_zero] at e05
  rw [HN.out] at e05
  obtain ⟨u6, w6, hr33, hU6, hgr6⟩ := run_app hU5 (LV.sliced (HR1.out.below hB5).lv (k := n + 1) (by omega)) (by have := HL.out; simp; omega) hB5.size
  have hB6 : Below w1.heap.size w1 w6 := hB5.trans (grown_below hU5 hgr6 hB5.size)
  rw [← HE.out] at hU6
  obtain ⟨a6, c6, rfl, hRI⟩ := ri_of hU6 (HR1.out.below hB6).blk hrl
  rw [HN.out] at hr33
  have HR33 : Hid _ := hr33
  have HB6 : Hid (Below w1.heap.size w1 w6) := hB6
  have HRI : Hid (RI (w6.setCell ⟨r, 0, none⟩ (.slice a6 (del kv k).length c6)) r a6 c6 (del kv k)) := hRI
  have e06 := (HR1.out.below hB6).blk.cell 0
  have f06 := (HR1.out.below hB6).blk.frozen 0
  simp only [List.getElem?_cons_zero] at e06
  rw [HN.out] at e06
  clear hr25 hU0 hU5 hgr5 hC hB5 hnL hgr6 hB6 hr33 hU6 hRI
  go_region_law (first
      | (refine step_append_run rfl (.tmp 20) (.tmp 26) 37 rfl _ _ rfl rfl _ _ HR25.out ?_)
      | (refine step_append_run rfl (.tmp 27) (.tmp 34) 37 rfl _ _ rfl rfl _ _ HR33.out ?_))
  all_goals (
    go_wp2
    all_goals go_ret
    all_goals exact ⟨by rw [HH.out]; rfl, ⟨_, _, by rw [HH.out]; exact HRI.out⟩, Keep.set (F := fun k => k = r) (Keep.of (bmore HF.out HB6.out)) (.inr rfl) _⟩)
theorem rdel39 {W : World} {r : Nat} {a : Option Addr} {c : Nat} {kv : List Pr} (hr : RI W r a c kv) (hs : Srt kv) (hl : kv.length ≤ 1000) (k : ByteArray) : Calls Try.prog 39 #[.pointer (some ⟨r, 0, none⟩), .string k] W (RDel W r kv k) := by
  cases hh : has kv k with
  | true => exact rdel_yes hr hs hl k hh
  | false => exact rdel_no hr hs hl k hh
end Go.Proofs.Ytgimjjlkniplnaa
