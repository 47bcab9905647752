/- codec's reader: the values. -/
import Derived.Test.YthfkmedpcmiibaaDoorRdr
namespace Go.Proofs.YthfkmedpcmiibaaDoor
open Go.RowKit Go.Lib

/-- The length of a slice. -/
def lenOf : Value → Nat
  | .slice _ n _ => n
  | _ => 0
theorem VRow.len {B : Nat} {u : Value} {l : List Vt} {w : World} (h : VRow B u l w) : lenOf u = l.length := by
  obtain ⟨a, c, rfl, _⟩ := sv_form h.sv
  rfl
theorem VRow.but {B R : Nat} {v : Value} {l : List Vt} {w w' : World} (h : VRow B v l w) (hb : But R w w') (hR : R < B) : VRow B v l w' := by
  obtain ⟨h1, h2 | ⟨g, cap, cur, rfl, hBg, hw, hn, hcap, hsz, htk⟩⟩ := h
  · exact ⟨h1, .inl h2⟩
  · refine ⟨h1, .inr ⟨g, cap, cur, rfl, hBg, ?_, hn, hcap, hsz, htk⟩⟩
    have hg : g < w.heap.size := (Array.getElem?_eq_some_iff.1 hw).1
    rw [hb.block g hg (by omega)]; exact hw
theorem RD.blocks {R b : Nat} {l : Bs} {W W' : World} (h : RD R b l W) (h1 : W'.heap[R]? = W.heap[R]?) (h2 : W'.heap[b]? = W.heap[b]?) : RD R b l W' := by
  obtain ⟨a, c, e1, e2, e3, e4, e5⟩ := h
  refine ⟨a, c, (World.cell?_of_block h1).trans e1, e2, e3, (World.frozen?_of_block h1).trans e4, fun h0 => ?_⟩
  obtain ⟨o, e6, e7⟩ := e5 h0
  exact ⟨o, e6, fun i hi => (World.cell?_of_block (a := ⟨b, o + i, none⟩) h2).trans (e7 i hi)⟩
theorem RD.grown {R b B : Nat} {l : Bs} {u : Value} {vs : List Vt} {W W' : World} (h : RD R b l W) (hu : VRow B u vs W) (hg : W.grownBy W' u.ownBlock) (hR : R < B) (hb : b < B) (hB : B ≤ W.heap.size) : RD R b l W' := by
  have ho : ∀ k, k < B → some k ≠ u.ownBlock := fun k hk e => by have := (World.ownsRow.lt hu k e.symm).1; omega
  exact h.blocks (hg.block R (by omega) (ho R hR)) (hg.block b (by omega) (ho b hb))
theorem But.grown {R : Nat} {u : Value} {vs : List Vt} {w W W' : World} (h : But R w W) (hu : VRow w.heap.size u vs W) (hg : W.grownBy W' u.ownBlock) : But R w W' :=
  ⟨hg.os.trans h.os, hg.tape.trans h.tape, hg.output.trans h.output, Nat.le_trans h.size hg.size, fun k hk hR => by
    rw [hg.block k (Nat.lt_of_lt_of_le hk h.size) (fun e => by have := (World.ownsRow.lt hu k e.symm).1; omega)]
    exact h.block k hk hR⟩

theorem flat_begins {x : Vt} (h : okV x = true) : ∃ c r, bytesT x = c :: r ∧ c.toNat ≠ 0 := by
  rcases rightV_cases h with ⟨e, _⟩ | ⟨e, e2, _⟩
  · exact ⟨_, _, by unfold bytesT; rw [e, bytesV_int], by decide⟩
  · exact ⟨_, _, by unfold bytesT; rw [e, e2, bytesV_text], by decide⟩

set_option maxRecDepth 100000 in
set_option maxHeartbeats 1000000 in
theorem values61 (R b : Nat) (vs : List Vt) (p : Bs) (w0 w : World) (hR : b ≠ R) (hb : b < w.heap.size) (hRz : R < w.heap.size) (hok : ∀ x ∈ vs, okV x = true ∧ inI64 x.2.1) (hn : vs.length ≤ 1000) (hlen : (flat vs ++ 0 :: p).length ≤ 140737488355328) (hg : Good w0) (hw0 : Below w0.heap.size w0 w) (h0R : w0.heap.size ≤ R) (h : RD R b (flat vs ++ 0 :: p) w) :
    Calls Tryd.prog 56 #[.pointer (some ⟨R, 0, none⟩)] w fun e w' => ∃ u, e = .returned u ∧ VRow w.heap.size u vs w' ∧ RD R b p w' ∧ But R w w' := by
  have hgood : ∀ W, But R w W → Good W := fun W hW => hg.below (hw0.trans (hW.below h0R (by omega)))
  have HL : Hid ((flat vs ++ 0 :: p).length ≤ 140737488355328) := hlen
  have HO : Hid (∀ x ∈ vs, okV x = true ∧ inI64 x.2.1) := hok
  clear hlen hok hg hw0 h0R
  go_enter Tryd.func56, Tryd.ntmps56
  go_wp2_with fail
  go_loopw [3] (fun u wr => ∃ k : Nat, k ≤ vs.length ∧ VRow w.heap.size u (vs.take k) wr ∧ RD R b (flat (vs.drop k) ++ 0 :: p) wr ∧ But R w wr) (fun u _ => vs.length - lenOf u)
  case atStart => exact ⟨0, by omega, VRow.nil _ _, h, But.refl _ _⟩
  case round =>
    obtain ⟨k, hk, hu, hrd, hbut⟩ := hrel
    have hgw := hgood _ hbut
    have hsz := hbut.size
    by_cases hlt : k < vs.length
    · obtain ⟨x, hx⟩ : ∃ x, vs[k]? = some x := ⟨_, List.getElem?_eq_getElem hlt⟩
      have hk' := (List.getElem?_eq_some_iff.1 hx)
      have hd : vs.drop k = x :: vs.drop (k + 1) := by rw [List.drop_eq_getElem_cons hk'.1, hk'.2]
      have HT : Hid (vs.take (k + 1) = vs.take k ++ [x]) := by
        show _ = _
        rw [List.take_succ_eq_append_getElem hk'.1, hk'.2]
      obtain ⟨hxo, hxi⟩ := HO.out x (List.mem_of_getElem? hx)
      have hll : (bytesT x ++ (flat (vs.drop (k + 1)) ++ 0 :: p)).length ≤ 140737488355328 := by
        have h1 := HL.out
        have h2 : flat vs = flat (vs.take k) ++ flat (vs.drop k) := by unfold flat; rw [← List.flatMap_append, List.take_append_drop]
        rw [h2, hd, flat_cons] at h1
        simp at h1 ⊢
        omega
      rw [hd, flat_cons, List.append_assoc] at hrd
      have c68 := value68 R b x _ wr hR hxo hxi hll hgw hrd
      obtain ⟨ch, r, hcr, hch⟩ := flat_begins hxo
      rw [hcr, List.cons_append] at hrd
      have c67 := peek67 R b ch _ wr hrd
      have hchz : ((ch.toNat : Int) != 0) = true := by simpa using hch
      have hlu := hu.len
      rw [List.length_take] at hlu
      clear hcr hd hx hll hrd HL HO hch hk'
      obtain ⟨xk, xn, xs⟩ := x
      simp only at c68
      go_wp2_with (first
        | (go_at_call 66; (refine c67.mono ?_; rintro e w1 ⟨rfl, rfl⟩; clear c67))
        | (go_at_call 67; (refine c68.mono ?_; rintro e w2 ⟨rfl, hrd2, hbut2⟩; have hz2 := Nat.le_trans hsz hbut2.size; have hu2 := (hu.but hbut2 hRz).below (al w2 (.cells #[.int .u8 xk, .int .i64 xn, .string xs] 56))))
        | (at_builtin; (refine push_val rfl (.tmp 7) (.tmp 10) rfl w.heap.size _ _ (xk, xn, xs) rfl hu2 w2.heap.size rfl ⟨by simp, by simp, by simp⟩ (by rw [List.length_take]; omega) (by simp; omega) ?_; intro u3 w3 hu3 hgrow; have hrd3 := (hrd2.below (al w2 (.cells #[.int .u8 xk, .int .i64 xn, .string xs] 56))).grown hu2 hgrow hRz hb (by simp; omega); have hbut3 := ((hbut.trans hbut2).trans (But.of (al w2 (.cells #[.int .u8 xk, .int .i64 xn, .string xs] 56)))).grown hu2 hgrow)))
      go_roundw
      case rel => exact ⟨k + 1, by omega, by rw [HT.out]; exact hu3, hrd3, hbut3⟩
      case measure => have := hu3.len; simp at this; omega
    · have hkk : k = vs.length := by omega
      subst hkk
      rw [List.take_length] at hu
      rw [List.drop_length] at hrd
      have c67 := peek67 R b 0 p wr hrd
      have c69 := next69 R b 0 p wr hR hrd
      clear HL HO
      go_wp2_with (first
        | (go_at_call 66; (refine c67.mono ?_; rintro e w1 ⟨rfl, rfl⟩))
        | (go_at_call 68; (refine c69.mono ?_; rintro e w2 ⟨rfl, hrd2, hbut2⟩)))
      go_ret
      exact ⟨_, rfl, hu.but hbut2 hRz, hrd2, hbut.trans hbut2⟩

end Go.Proofs.YthfkmedpcmiibaaDoor
