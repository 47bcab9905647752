/- What Canon answers, by plain data; what its loop holds. -/
import Derived.Test.YthalgnfffcimhaaRk
import Derived.Test.YthalgnfffcimhaaSn
namespace Go.Proofs.Ythalgnfffcimhaa
open Go.RowKit Go.Shelf
set_option maxRecDepth 100000
open Classical in
/-- The fewest spans with the same points. -/
noncomputable def joinS (xs : List (Int × Int)) : List (Int × Int) := if h : ∃ ys, Sp.Canon ys ∧ ∀ p, Sp.Pt ys p ↔ Sp.Has xs p then h.choose else []
theorem joinS_eq {xs ys : List (Int × Int)} (h1 : Sp.Canon ys) (h2 : ∀ p, Sp.Pt ys p ↔ Sp.Has xs p) : ys = joinS xs := by
  have h : ∃ ys, Sp.Canon ys ∧ ∀ p, Sp.Pt ys p ↔ Sp.Has xs p := ⟨ys, h1, h2⟩
  unfold joinS
  rw [dif_pos h]
  exact Sp.canon_unique _ _ h1 h.choose_spec.1 (fun p => (h2 p).trans (h.choose_spec.2 p).symm)
/-- The rows of a run. -/
def run (S : List Rw) (x : Nat × Nat) : List Rw := (S.drop x.1).take (x.2 - x.1)
noncomputable def canonX (S : List Rw) (x : Nat × Nat) : List Rw := (joinS ((run S x).map (·.2))).map fun s => (((S[x.1]?).map (·.1)).getD [], s)
noncomputable def canonG (S : List Rw) (cs : List (Nat × Nat)) : List Rw := cs.flatMap (canonX S)
noncomputable def canonR (l : List Rw) : List Rw := canonG (sortR l) (cuts ((sortR l).map (·.1)))
theorem canonG_snoc (S : List Rw) (cs : List (Nat × Nat)) (x : Nat × Nat) : canonG S (cs ++ [x]) = canonG S cs ++ canonX S x := by simp [canonG]
theorem cutsF_len (L : List (List Vt)) : ∀ f i, (cutsF L f i).length ≤ f
  | 0, _ => Nat.le_refl _
  | f + 1, i => by
    unfold cutsF
    split
    · have := cutsF_len L f (endF L i L.length (i + 1))
      simp; omega
    · simp
theorem cutsF_mem (L : List (List Vt)) : ∀ f i x, x ∈ cutsF L f i → x.1 < x.2 ∧ x.2 ≤ L.length
  | 0, _, x, h => by cases h
  | f + 1, i, x, h => by
    unfold cutsF at h
    split at h
    · rename_i hi
      rcases List.mem_cons.1 h with rfl | h
      · have := endF_le L i L.length (i + 1) hi
        exact ⟨this.1, this.2⟩
      · exact cutsF_mem L f _ x h
    · cases h
/-- A part of a slice of rows. -/
theorem RL.part {w : World} {X : Nat → Prop} {g o n c i j : Nat} {es : List El} (h : RL w X (.slice (some ⟨g, o, none⟩) n c) es) (hij : i ≤ j) (hj : j ≤ es.length) : RL w X (.slice (some ⟨g, o + i * 3, none⟩) (j - i) (c - i)) ((es.drop i).take (j - i)) := by
  have hl : ((es.drop i).take (j - i)).length = j - i := by simp; omega
  refine ⟨⟨_, _, by rw [hl], fun h0 => ?_⟩, fun e he => h.vals e (List.mem_of_mem_drop (List.mem_of_mem_take he))⟩
  obtain ⟨a, c', hv, hh⟩ := h.at'
  simp only [Value.slice.injEq] at hv
  obtain ⟨rfl, rfl, rfl⟩ := hv
  obtain ⟨g', o', hq, hg, hx, hc⟩ := hh (by omega)
  simp only [Option.some.injEq, Addr.mk.injEq] at hq
  obtain ⟨rfl, rfl, _⟩ := hq
  refine ⟨g, o + i * 3, rfl, hg, hx, fun k e hk => ?_⟩
  rw [List.getElem?_take] at hk
  split at hk
  · rw [List.getElem?_drop] at hk
    have := hc (i + k) e hk
    rw [show o + (i + k) * 3 = o + i * 3 + k * 3 by omega] at this
    exact this
  · cases hk
/-- Values do not lie where a slice lies. -/
theorem SV.not {w : World} {X : Nat → Prop} {v : Value} {vs : List Vt} {tb : Nat} {u : Value} {t : TypeId} (h : SV w X v vs) (hb : Blk w tb [u] t) : SV w (fun b => b = tb ∨ X b) v vs := by
  obtain ⟨a, c, rfl, hh⟩ := h
  refine ⟨a, c, rfl, fun h0 => ?_⟩
  obtain ⟨g, o, rfl, hg, hx, hc⟩ := hh h0
  refine ⟨g, o, rfl, hg, fun q => q.elim (fun q => ?_) hx, hc⟩
  subst q
  obtain ⟨x, hx⟩ : ∃ x, vs[0]? = some x := ⟨_, List.getElem?_eq_getElem h0⟩
  have h1 := (hc 0 x hx).2.1
  rw [hb.cell] at h1
  simp at h1
theorem RL.not {w : World} {X : Nat → Prop} {v : Value} {es : List El} {tb : Nat} {u : Value} {t : TypeId} (h : RL w X v es) (hb : Blk w tb [u] t) : RL w (fun b => b = tb ∨ X b) v es := by
  refine ⟨?_, fun e he => (h.vals e he).not hb⟩
  obtain ⟨a, c, rfl, hh⟩ := h.at'
  refine ⟨a, c, rfl, fun h0 => ?_⟩
  obtain ⟨g, o, rfl, hg, hx, hc⟩ := hh h0
  refine ⟨g, o, rfl, hg, fun q => q.elim (fun q => ?_) hx, hc⟩
  subst q
  obtain ⟨x, hx⟩ : ∃ x, es[0]? = some x := ⟨_, List.getElem?_eq_getElem h0⟩
  have h1 := (hc 0 x hx).2.1
  rw [hb.cell] at h1
  simp at h1
/-- What the loop over the runs holds. -/
structure CW (w0 : World) (tb : Nat) (G : Nat → Prop) (g c : Nat) (es : List El) (O : Nat → Prop) (pre : List (Nat × Nat)) (W : World) : Prop where
  ex : ∃ cv ce, CI W tb w0.heap.size cv ce ∧ rws ce = canonG (rws es) pre ∧ O tb ∧ (∀ b, cv.ownBlock = some b → O b) ∧ (∀ e ∈ ce, SV W (fun b => ¬ O b) e.1 e.2.1) ∧ ce.length ≤ pre.length * 100
  rl : RL W (fun k => ¬ G k) (.slice (some ⟨g, 0, none⟩) es.length c) es
  k : Below w0.heap.size w0 W
  lt : ∀ b, O b → b < W.heap.size
  dis : ∀ b, O b → ¬ G b
  base : ∀ b, O b → w0.heap.size ≤ b
theorem CW.abide {w0 : World} {tb g c n : Nat} {G : Nat → Prop} {es : List El} (hG : ∀ b, G b → b < n) (hn : w0.heap.size ≤ n) : Abide n (CW w0 tb G g c es) := by
  rintro O pre W W' ⟨⟨cv, ce, h1, h2, h3, h4, h5, h6⟩, hr, hk, hl, hd, hb⟩ k
  refine ⟨⟨cv, ce, h1.keep k (fun h => h.1 h3) (fun b hb h => h.1 (h4 b hb)) (fun e he => (h5 e he).mono (fun b _ h => h.1)), h2, h3, h4, fun e he => (h5 e he).keep (k.mono (fun b _ h => h.1)) (fun _ _ h => h), h6⟩, ?_, hk.trans (k.below (by have := hk.size; omega) (fun i hi h => by omega)), fun b hb => Nat.lt_of_lt_of_le (hl b hb) k.size, hd, hb⟩
  exact hr.keep (k.mono (fun i _ h hg => by have := hG i hg; omega)) (fun _ _ h => h)
abbrev mark (D : Nat) : Deferred := { target := .collected D, args := #[] }
/-- A function's end, where loops have left blocks for deferred calls. -/
theorem leave_marks {fn : Func} {tmps : Array Value} {R : Ending → World → Prop} {v : Value} : ∀ (Ds : List Nat) (w : World), (∀ w', Keep (· ∈ Ds) w w' → (results fn tmps).run Try.prog w' = .ok v w' ∧ R (.returned v) w') → (∀ D ∈ Ds, w.heap[D]? = some (.deferred (some []))) → Ds.Nodup →
    LeavesInM Fence.wide 0 Try.prog fn tmps R (Ds.map mark) .returning w
  | [], w, hR, _, _ => ⟨v, (hR w (Keep.refl _ _)).1, (hR w (Keep.refl _ _)).2⟩
  | D :: Ds, w, hR, hD, hn => by
    refine ⟨by simp, .inl ⟨D, _, rfl, run_takeDeferred (hD D (by simp)), ?_⟩⟩
    have k : Keep (· ∈ D :: Ds) w (w.putObj D (.deferred none)) := (Keep.refl _ w).put (.inr (by simp)) _
    refine leave_marks Ds _ (fun w' k' => hR w' (k.trans k' (fun _ _ h => by simp [h]))) (fun D' h' => ?_) (List.nodup_cons.1 hn).2
    have hne : D' ≠ D := fun e => (List.nodup_cons.1 hn).1 (by rw [← e]; exact h')
    rw [World.putObj_heap_other hne]
    exact hD D' (by simp [h'])
theorem eg33 : ∀ args w, (callFunc 22 args).run Try.prog w = .ok (.enter 22 args) w := enters_of Try.func22 (by kernel_rfl) rfl
theorem OwnR.some {w : World} {B : Nat} {v : Value} {es : List El} (h : OwnR w B v es) (hn : v ≠ .slice none 0 0) : ∃ g c, v = .slice (some ⟨g, 0, none⟩) es.length c ∧ es.length ≤ c ∧ B ≤ g ∧ g < w.heap.size := by
  have hlt := h.row.lt
  have hcap := h.cap
  obtain ⟨_, ⟨rfl, _⟩ | ⟨g, cap, cur, rfl, _⟩⟩ := h.row
  · exact absurd rfl hn
  · exact ⟨g, cap, rfl, hcap _ _ _ rfl, (hlt g rfl).1, (hlt g rfl).2⟩
theorem SV.also {w w' : World} {X Y : Nat → Prop} {v : Value} {vs : List Vt} (h : SV w X v vs) (h' : SV w' Y v vs) : SV w' X v vs := by
  obtain ⟨a, c, rfl, hh⟩ := h
  obtain ⟨a', c', hv, hh'⟩ := h'
  simp only [Value.slice.injEq] at hv
  obtain ⟨rfl, -, rfl⟩ := hv
  refine ⟨a, c, rfl, fun h0 => ?_⟩
  obtain ⟨g, o, rfl, hg, hx, hc⟩ := hh h0
  obtain ⟨g', o', hq, hg', hf, hc'⟩ := hh' h0
  simp only [Option.some.injEq, Addr.mk.injEq] at hq
  obtain ⟨rfl, rfl, _⟩ := hq
  exact ⟨g, o, rfl, hg', hx, hc'⟩
theorem SV.bound {w : World} {X : Nat → Prop} {v : Value} {vs : List Vt} (h : SV w X v vs) : SV w (fun b => X b ∨ w.heap.size ≤ b) v vs := by
  obtain ⟨a, c, rfl, hh⟩ := h
  refine ⟨a, c, rfl, fun h0 => ?_⟩
  obtain ⟨g, o, rfl, hg, hx, hc⟩ := hh h0
  exact ⟨g, o, rfl, hg, fun h => h.elim hx (fun h => by omega), hc⟩
theorem RL.bound {w : World} {X : Nat → Prop} {v : Value} {es : List El} (h : RL w X v es) : RL w (fun b => X b ∨ w.heap.size ≤ b) v es := by
  refine ⟨?_, fun e he => (h.vals e he).bound⟩
  obtain ⟨a, c, rfl, hh⟩ := h.at'
  refine ⟨a, c, rfl, fun h0 => ?_⟩
  obtain ⟨g, o, rfl, hg, hx, hc⟩ := hh h0
  exact ⟨g, o, rfl, hg, fun h => h.elim hx (fun h => by omega), hc⟩
theorem Sp.Own.open {w : World} {B : Nat} {v : Value} {xs : List (Int × Int)} (h : Sp.Own w B v xs) : ∃ p c, v = .slice p xs.length c ∧ (0 < xs.length → ∃ jb, p = some ⟨jb, 0, none⟩ ∧ B ≤ jb ∧ jb < w.heap.size ∧ ∀ (i : Nat) (x : Int × Int), xs[i]? = some x → w.cell? ⟨jb, i * 2, none⟩ = some (.int .i64 x.1) ∧ w.cell? ⟨jb, i * 2 + 1, none⟩ = some (.int .i64 x.2)) := by
  have hlt := World.ownsRow.lt h
  have hs := h.srow
  obtain ⟨_, ⟨rfl, h0⟩ | ⟨g, cap, cur, rfl, _⟩⟩ := h
  · exact ⟨none, 0, by rw [h0], fun h => by omega⟩
  · refine ⟨_, cap, rfl, fun h0 => ⟨g, rfl, (hlt g rfl).1, (hlt g rfl).2, fun i x hx => ?_⟩⟩
    obtain ⟨hi, rfl⟩ := List.getElem?_eq_some_iff.1 hx
    rcases hs with ⟨_, he⟩ | ⟨b, off, cap', hv, _, _, _, hc⟩
    · subst he; simp at h0
    · simp only [Value.slice.injEq, Option.some.injEq, Addr.mk.injEq] at hv
      obtain ⟨⟨rfl, rfl, _⟩, _⟩ := hv
      have := hc i hi
      rw [Nat.zero_add] at this
      exact this
end Go.Proofs.Ythalgnfffcimhaa
