/- few; both catalogs. -/
import Derived.Test.YtkoagjfbhkhfkaaDoorRy
import Derived.Test.YtkoagjfbhkhfkaaDoorCn
namespace Go.Proofs.YtkoagjfbhkhfkaaDoor
open Go.RowKit Go.Lib
set_option maxRecDepth 100000
variable {w w' : World}
theorem ColsAt.take {g o : Nat} {l : List Cl} (h : ColsAt w g o l) (k : Nat) : ColsAt w g o (l.take k) := fun i x hx => by
  rw [List.getElem?_take] at hx
  split at hx
  · exact h i x hx
  · cases hx
theorem few_end (w : World) (a b c d : Value) (x0 x1 : Array Value) (tmps : Array Value) {Q : Ending → World → Prop} (ht : tmps.getD 2 undef = .pointer (some ⟨w.heap.size + 1, 0, none⟩)) (hx : x1 = #[a, b, c, d]) (hQ : ∀ w', Below w.heap.size w w' → Q (.returned (.agg #[a, b, c, d])) w') :
    bodyPost Tryd.prog Tryd.f10 Q .ret { tmps := tmps, defers := [] } ((w.alloc (.cells x0 32)).alloc (.cells x1 32)) := by
  subst hx
  have hb : Blk ((w.alloc (.cells x0 32)).alloc (.cells [a, b, c, d].toArray 32)) (w.heap.size + 1) [a, b, c, d] 32 := blk_at _ _ _ (by simp)
  exact bodyPost_ret (results_cell rfl _ _ _ (w.heap.size + 1) [a, b, c, d] 32 hb ht _ Tryd.underlying32 rfl (by kernel_rfl)) rfl (hQ _ (bal (al _ _) _))
theorem few10 {P : Nat → Prop} (n p : ByteArray) (v : Value) (l : List Cl) (r : Int) (w : World) (hv : SCP P w v l) (hm : ∀ a k c, v = .slice a k c → c ≤ maxLen) :
    Calls Tryd.prog 10 #[TB n v p r] w fun e w' => ∃ va vc, e = .returned (TB n (.slice va (l.take 8).length vc) p r) ∧ SC w' (.slice va (l.take 8).length vc) (l.take 8) ∧ Below w.heap.size w w' := by
  obtain ⟨a, c, rfl, hlc, hat⟩ := hv
  have hcm := hm _ _ _ rfl
  unfold maxLen at hcm
  have HF : Hid (∀ w', Below w.heap.size w w' → SC w' (.slice a (l.take 8).length c) (l.take 8)) := fun w' hb => by
    refine SC.below (w := w) ⟨a, c, rfl, fun h0 => ?_⟩ hb
    obtain ⟨g, o, h1, h2, _, h3⟩ := hat (by rw [List.length_take] at h0; omega)
    exact ⟨g, o, h1, h2, h3.take 8⟩
  have hlt : (l.take 8).length = min 8 l.length := by rw [List.length_take]
  have HL : Hid ((l.take 8).length = min 8 l.length) := hlt
  by_cases h8 : 8 < l.length
  · have h8i : (8 : Int) < (l.length : Int) := by omega
    have h8c : (8 : Int) ≤ (c : Int) := by omega
    have hlt2 : (l.take 8).length = 8 := by rw [hlt]; exact Nat.min_eq_left (by omega)
    obtain ⟨g, o, rfl, h1, h2, h3⟩ := hat (by omega)
    clear h1 h2 h3
    rw [hlt2] at HF ⊢
    clear hlt hlt2 HL hat
    generalize l.length = N at *
    go_enter Tryd.func10, Tryd.ntmps10
    go_wp2
    exact few_end w _ _ _ _ _ _ _ rfl rfl (fun w' hb => ⟨_, _, rfl, HF.out w' hb, hb⟩)
  · have h8i : ¬ (8 : Int) < (l.length : Int) := by omega
    have hlt2 : (l.take 8).length = l.length := by rw [hlt]; exact Nat.min_eq_right (by omega)
    rw [hlt2] at HF ⊢
    clear hlt hlt2 HL hat
    generalize l.length = N at *
    go_enter Tryd.func10, Tryd.ntmps10
    go_wp2
    exact few_end w _ _ _ _ _ _ _ rfl rfl (fun w' hb => ⟨_, _, rfl, HF.out w' hb, hb⟩)
/-- Both catalogs, apart, with the same tables, all behind the block B. -/
structure Two (B : Nat) (w : World) (c m : Nat) (nv : Value) (E : List En) (r : Nat) (lv : Value) (L : List Tv) : Prop where
  cat : Cat w c m nv E
  rc : RCat (fun k => ¬ foot c m nv k) w r lv L
  eq : L.map (·.1) = (E.map (·.1)).reverse
  nd : (E.map (·.1.n)).Nodup
  ge : ∀ k, foot c m nv k ∨ k = r → B ≤ k
variable {B c m r : Nat} {nv lv : Value} {E : List En} {L : List Tv}
theorem Two.below (h : Two B w c m nv E r lv L) (hb : Below w.heap.size w w') : Two B w' c m nv E r lv L := ⟨h.cat.below hb, h.rc.below hb, h.eq, h.nd, h.ge⟩
/-- A name is found in both, or in none. -/
theorem find_rev {α : Type} (f : α → Bool) : ∀ l : List α, l.Pairwise (fun x y => ¬ (f x = true ∧ f y = true)) → l.reverse.find? f = l.find? f
  | [], _ => rfl
  | x :: l, h => by
    rw [List.pairwise_cons] at h
    rw [List.reverse_cons, List.find?_append, find_rev f l h.2]
    cases hx : f x
    · simp [hx]
    · have : l.find? f = none := List.find?_eq_none.2 (fun y hy hf => h.1 y hy ⟨hx, hf⟩)
      simp [hx, this]
theorem Two.find (h : Two B w c m nv E r lv L) (s : Bs) : (rfnd L s).map (·.1) = (fnd E s).map (·.1) := by
  have h1 : (rfnd L s).map (·.1) = (L.map (·.1)).find? (fun t => t.n == s) := by
    rw [rfnd, List.find?_map]; rfl
  have h2 : (fnd E s).map (·.1) = (E.map (·.1)).find? (fun t => t.n == s) := by
    rw [fnd, List.find?_map]; rfl
  rw [h1, h2, h.eq]
  refine find_rev _ _ ?_
  have := h.nd
  rw [show (E.map (·.1.n)) = (E.map (·.1)).map (·.n) by simp, List.Nodup, List.pairwise_map] at this
  refine this.imp fun hne ⟨ha, hb⟩ => hne ?_
  simp at ha hb
  rw [ha, hb]
theorem Two.len (h : Two B w c m nv E r lv L) : L.length = E.length := by
  have := congrArg List.length h.eq
  simpa using this
theorem Two.refuses (h : Two B w c m nv E r lv L) (t : Tb) : refuseR L t = refuse E t := by
  have hn := h.find t.n
  have hp := h.find t.p
  have e1 : (rfnd L t.n).isSome = (fnd E t.n).isSome := by
    have := congrArg Option.isSome hn
    simpa using this
  unfold refuseR refuse
  rw [e1, h.len]
  cases hf : fnd E t.p with
  | none =>
    rw [hf] at hp
    have : rfnd L t.p = none := by simpa using hp
    rw [this]
  | some x =>
    rw [hf] at hp
    obtain ⟨y, hy, hxy⟩ := Option.map_eq_some_iff.1 (hp.trans (Option.map_some ..))
    rw [hy]
    simp only [hxy]
theorem Cat.apart (h : Cat w c m nv E) (hr : Blk w r [lv] 63) {k : Nat} (hk : catB c m nv E k) : k ≠ r := by
  rintro rfl
  rcases hk with rfl | rfl | hk | ⟨x, hx, rfl⟩
  · exact h.blk.ne hr (by decide) rfl
  · exact hr.ne_map h.map rfl
  · exact hr.ne_row h.names (by decide) hk
  · exact (h.cols x hx).ne hr (by decide) rfl
theorem foot_cat {k : Nat} (hk : foot c m nv k) : catB c m nv E k := by
  rcases hk with h | h | h
  · exact .inl h
  · exact .inr (.inl h)
  · exact .inr (.inr (.inl h))
/-- The program's Create, then the reference's. -/
theorem Two.step1 {w1 : World} {nv' : Value} (h : Two B w c m nv E r lv L) (hk : Keep (foot c m nv) w w1) (hf : ∀ k, foot c m nv' k → foot c m nv k ∨ w.heap.size ≤ k) : RCat (fun k => ¬ foot c m nv' k) w1 r lv L := by
  have hrf : ¬ foot c m nv r := fun hx => h.cat.apart h.rc.blk (foot_cat hx) rfl
  refine ⟨h.rc.blk.block (hk.block r h.rc.blk.lt hrf), ?_, h.rc.ok, h.rc.few⟩
  have h1 : TL (fun k => (k ≠ r ∧ ¬ foot c m nv k) ∧ k < w.heap.size) w lv L := h.rc.tl.imp (fun g hg hq => ⟨hq, hg⟩)
  exact (h1.keep hk.size (fun k hk1 hk2 => hk.block k hk1 hk2.1.2)).imp (fun g _ hq => ⟨hq.1.1, fun hx => (hf g hx).elim hq.1.2 (fun h2 => by omega)⟩)
theorem Two.keep2 {w1 : World} (h : Cat w c m nv E) (hr : Blk w r [lv] 63) (hk : Keep (fun k => k = r) w w1) : Cat w1 c m nv E := h.keep fun k hk1 => hk.block k (h.lt hk1) (h.apart hr hk1)
end Go.Proofs.YtkoagjfbhkhfkaaDoor
