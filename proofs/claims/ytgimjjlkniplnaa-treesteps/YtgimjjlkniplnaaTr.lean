/- The tree: New, Put, Floor, Get, Delete, Len, Height, Count, Fork. -/
import Derived.Test.YtgimjjlkniplnaaWo
namespace Go.Proofs.Ytgimjjlkniplnaa
open Go.RowKit Go.Shelf
set_option maxRecDepth 100000
attribute [local go_sem] ta64_64 ta72_64 ta72_72 ta64_72 tb64_64 tb72_72
/-- A root may be so. -/
def Rt (h n : Nat) : Prop := n ≤ 8 ∧ (0 < h → 2 ≤ n)
def LPost (w : World) (kv : List Pr) (e : Ending) (w' : World) : Prop := ∃ x h n, e = .returned (.iface x.1 x.2) ∧ Part w' h n x kv ∧ Rt h n ∧ Below w.heap.size w w'
set_option maxHeartbeats 400000 in
theorem lowered45 {h n : Nat} {w : World} {x : Bx} {kv : List Pr} (hp : Part w h n x kv) (h8 : n ≤ 8) : Calls Try.prog 45 #[.iface x.1 x.2] w (LPost w kv) := by
  cases h with
  | zero =>
    have HR : Hid (LPost w kv (.returned (.iface x.1 x.2)) w) := ⟨x, 0, n, rfl, hp, ⟨h8, by omega⟩, Below.refl _ _⟩
    obtain ⟨a, c, rfl, -, -⟩ := hp.leaf
    clear hp
    go_enter Try.func45, Try.ntmps45
    go_wp2
    go_ret
    exact HR.out
  | succ h =>
    obtain ⟨a, c, ks, rfl, h2, h3, h4, h5, h6⟩ := hp.inner
    have hB := al w (.cells #[.slice a n c, .string (fst kv), .int .i64 (kv.length : Int)] 72)
    by_cases h1 : n = 1
    · subst h1
      obtain ⟨y, hy⟩ : ∃ y, ks = [y] := by
        match ks, h3 with
        | [y], _ => exact ⟨y, rfl⟩
      subst hy
      obtain ⟨m, q1, q2, q3⟩ := h6 y (by simp)
      have hkv : kv = y.2 := by rw [h5]; simp [flat]
      have HR : Hid (LPost w kv (.returned (.iface y.1.1 y.1.2)) (w.alloc (.cells #[.slice a 1 c, .string (fst kv), .int .i64 (kv.length : Int)] 72))) := ⟨y.1, h, m, rfl, by rw [hkv]; exact q3.below (al _ _), ⟨q2, by omega⟩, al _ _⟩
      obtain ⟨g, o, rfl, d0⟩ := EK.cell (h2.below hB) (i := 0) (x := y.1) rfl
      rw [Nat.add_zero] at d0
      generalize hs : fst kv = s at *
      generalize hk : kv.length = kl at *
      clear h2 h3 h5 h6 hp hB hkv q3 hs hk
      go_enter Try.func45, Try.ntmps45
      go_wp2
      go_ret
      exact HR.out
    · have HR : Hid (LPost w kv (.returned (.iface 72 (.agg #[.slice a n c, .string (fst kv), .int .i64 (kv.length : Int)]))) (w.alloc (.cells #[.slice a n c, .string (fst kv), .int .i64 (kv.length : Int)] 72))) := ⟨_, h + 1, n, rfl, hp.below hB, ⟨h8, by omega⟩, hB⟩
      have hn1 : ¬ ((n : Int) = 1) := by omega
      generalize hs : fst kv = s at *
      generalize hk : kv.length = kl at *
      clear h2 h3 h5 h6 hp hB hs hk
      go_enter Try.func45, Try.ntmps45
      go_wp2
      go_ret
      exact HR.out
/-- A change of a tree's own block leaves parts as they are. -/
theorem Part.keep {w w' : World} (hk : ∀ (g : Nat) (l : List Value) (t : TypeId), t = 33 ∨ t = 60 → Blk w g l t → Blk w' g l t) : ∀ {h n : Nat} {x : Bx} {kv : List Pr}, Part w h n x kv → Part w' h n x kv
  | 0, _, _, _, ⟨h1, h2, h3⟩ => ⟨h1, h2.keep fun g l q => hk g l 33 (.inl rfl) q, h3⟩
  | _ + 1, _, _, _, ⟨sl, ks, h1, h2, h3, h4, h5, h6⟩ => ⟨sl, ks, h1, h2.keep fun g l q => hk g l 60 (.inr rfl) q, h3, h4, h5, fun k hk' => by obtain ⟨m, q1, q2, q3⟩ := h6 k hk'; exact ⟨m, q1, q2, q3.keep hk⟩⟩
theorem Blk.ne {w : World} {g b : Nat} {l l' : List Value} {t t' : TypeId} (h : Blk w g l t) (k : Blk w b l' t') (ht : t ≠ t') : g ≠ b := fun e => by
  subst e
  unfold Blk at h k
  rw [h] at k
  simp at k
  exact ht k.2
/-- The tree at t holds these pairs. -/
structure TT (w : World) (t : Nat) (kv : List Pr) : Prop where
  ex : ∃ h n x, Blk w t [.iface x.1 x.2] 66 ∧ Part w h n x kv ∧ Rt h n
  srt : Srt kv
  few : kv.length ≤ 800
  key : ∀ p ∈ kv, p.1.size ≤ 64
theorem TT.keep {w w' : World} {t : Nat} {kv : List Pr} (h : TT w t kv) (hk : ∀ (g : Nat) (l : List Value) (ty : TypeId), ty = 33 ∨ ty = 60 ∨ ty = 66 ∧ g = t → Blk w g l ty → Blk w' g l ty) : TT w' t kv := by
  obtain ⟨hh, n, x, h1, h2, h3⟩ := h.ex
  exact ⟨⟨hh, n, x, hk t _ 66 (.inr (.inr ⟨rfl, rfl⟩)) h1, h2.keep (fun g l ty hty q => hk g l ty (hty.elim .inl (fun e => .inr (.inl e))) q), h3⟩, h.srt, h.few, h.key⟩
theorem TT.below {w w' : World} {t : Nat} {kv : List Pr} (h : TT w t kv) (b : Below w.heap.size w w') : TT w' t kv := h.keep fun _ _ _ _ q => q.below b
/-- What a deed on the tree at t leaves. -/
def Did (w : World) (t : Nat) (kv : List Pr) (w' : World) : Prop := TT w' t kv ∧ Keep (fun b => b = t) w w'
theorem did_set {w w1 : World} {t h n : Nat} {x x0 : Bx} {kv : List Pr} (hb : Below w.heap.size w w1) (hblk : Blk w1 t [.iface x0.1 x0.2] 66) (hp : Part w1 h n x kv) (hr : Rt h n) (hs : Srt kv) (hf : kv.length ≤ 800) (hk : ∀ p ∈ kv, p.1.size ≤ 64) : Did w t kv (w1.setCell ⟨t, 0, none⟩ (.iface x.1 x.2)) := by
  refine ⟨⟨⟨h, n, x, hblk.set (o := 0) _, hp.keep fun g l ty hty q => q.other ?_ _, hr⟩, hs, hf, hk⟩, Keep.set (F := fun b => b = t) (p := ⟨t, 0, none⟩) (Keep.of hb) (.inr rfl) _⟩
  exact Blk.ne q hblk (by rcases hty with rfl | rfl <;> decide)
def NewPost (w : World) (e : Ending) (w' : World) : Prop := ∃ t, e = .returned (.pointer (some ⟨t, 0, none⟩)) ∧ w.heap.size ≤ t ∧ TT w' t [] ∧ Below w.heap.size w w'
theorem new21 (w : World) : Calls Try.prog 21 #[] w (NewPost w) := by
  have hb := blk_new w [.iface 64 (.slice none 0 0)] 66
  have HR : Hid (NewPost w (.returned (.pointer (some ⟨w.heap.size, 0, none⟩))) (w.alloc (.cells #[.iface 64 (.slice none 0 0)] 66))) := ⟨w.heap.size, rfl, Nat.le_refl _, ⟨⟨0, 0, (64, .slice none 0 0), hb, leaf_of (LV.nil EP _ none 0), by omega, by omega⟩, List.Pairwise.nil, by simp, by simp⟩, al _ _⟩
  clear hb
  go_enter Try.func21, Try.ntmps21
  go_wp2
  go_ret
  exact HR.out
theorem top35 {w : World} {t : Nat} {v : Value} {ty : TypeId} (hb : Blk w t [v] ty) : Calls Try.prog 35 #[.pointer (some ⟨t, 0, none⟩)] w fun e w' => e = .returned v ∧ w = w' := by
  have c0 := hb.cell 0
  simp only [List.getElem?_cons_zero] at c0
  clear hb
  go_enter Try.func35, Try.ntmps35
  go_wp2
  go_ret
  exact ⟨rfl, rfl⟩
theorem top35_nil (w : World) : Calls Try.prog 35 #[.pointer none] w fun e w' => e = .returned (.iface 64 (.slice none 0 0)) ∧ w = w' := by
  go_enter Try.func35, Try.ntmps35
  go_wp2
  go_ret
  exact ⟨rfl, rfl⟩
set_option maxHeartbeats 1000000 in
theorem put31 {w : World} {t : Nat} {kv : List Pr} (ht : TT w t kv) (p : Pr) (hk : p.1.size ≤ 64) (hf : kv.length ≤ 799) : Calls Try.prog 31 #[.pointer (some ⟨t, 0, none⟩), .string p.1, .string p.2] w fun e w' => e = .returned (.int .i64 0) ∧ Did w t (put kv p) w' := by
  obtain ⟨h, n, x, hb, hp, hr⟩ := ht.ex
  have k43 := with43 (p := p) hp ht.srt (by omega) hr.1
  have hpl := put_ge ht.srt p
  have HX : Hid (Srt (put kv p) ∧ (put kv p).length ≤ 800 ∧ ∀ q ∈ put kv p, q.1.size ≤ 64) := by
    refine ⟨ht.srt.put p, by omega, fun q hq => ?_⟩
    rcases List.mem_append.1 hq with hq | hq
    · exact ht.key q (List.mem_filter.1 hq).1
    · rcases List.mem_cons.1 hq with rfl | hq
      · exact hk
      · exact ht.key q (List.mem_filter.1 hq).1
  have c0 := hb.cell 0
  simp only [List.getElem?_cons_zero] at c0
  have HBk : Hid (Blk w t [.iface x.1 x.2] 66) := hb
  have hks : ¬ ((64 : Int) < (p.1.size : Int)) := by omega
  have HR : Hid (Rt h n) := hr
  clear ht hp hb hr
  have HC : Hid (∀ (v1 : Value) (w1 : World), SPost w h n (put kv p) (.returned v1) w1 → (w1.cell? ⟨t, 0, none⟩ = some (.iface x.1 x.2) ∧ w1.frozen? ⟨t, 0, none⟩ = false) ∧
      ((∃ g o c, ∃ y : Bx, v1 = .slice (some ⟨g, o, none⟩) 1 c ∧ w1.cell? ⟨g, o, none⟩ = some (.iface y.1 y.2) ∧ Hid (Did w t (put kv p) (w1.setCell ⟨t, 0, none⟩ (.iface y.1 y.2)))) ∨
       (∃ a c, v1 = .slice a 2 c ∧ Calls Try.prog 44 #[.slice a 2 c] w1 (fun e w' => ∃ (s5 : ByteArray) (t5 : Int), e = .returned (.agg #[.slice a 2 c, .string s5, .int .i64 t5]) ∧ (∀ o : Obj, (w'.alloc o).cell? ⟨t, 0, none⟩ = some (.iface x.1 x.2) ∧ (w'.alloc o).frozen? ⟨t, 0, none⟩ = false) ∧ Hid (∀ o : Obj, Did w t (put kv p) ((w'.alloc o).setCell ⟨t, 0, none⟩ (.iface 72 (.agg #[.slice a 2 c, .string s5, .int .i64 t5])))))))) := fun v1 w1 hS => by
    obtain ⟨v, he, hB, hcase⟩ := hS
    cases he
    have hbk := HBk.out.below hB
    refine ⟨⟨hbk.cell 0, hbk.frozen 0⟩, ?_⟩
    rcases hcase with ⟨y, m, hv, e2, hpy, l0, l1⟩ | ⟨y, z, m, m2, hv, e2, hpy, hpz, l0, l1, l2, l3⟩
    · obtain ⟨a, c, rfl⟩ := hv.form
      obtain ⟨g, o, rfl, d0⟩ := EK.cell hv (i := 0) (x := y.1) rfl
      rw [e2] at hpy
      exact .inl ⟨g, o, c, y.1, rfl, d0, did_set hB hbk hpy ⟨l1, fun q => by have := HR.out.2 q; omega⟩ HX.out.1 HX.out.2.1 HX.out.2.2⟩
    · obtain ⟨a, c, rfl⟩ := hv.form
      refine .inr ⟨a, c, rfl, ?_⟩
      have hkd : Kids w1 h [y, z] := fun q hq => by
        simp at hq
        rcases hq with rfl | rfl
        · exact ⟨m, l0, l1, hpy⟩
        · exact ⟨m2, l2, l3, hpz⟩
      have hfl : flat [y, z] = put kv p := by simp [flat, e2]
      refine (innerOf44 (ks := [y, z]) hv (fun q hq => by obtain ⟨m, q1, _, q3⟩ := hkd q hq; exact ⟨h, m, by omega, q3⟩) (by rw [hfl]; omega) (by simp) (by simp)).mono fun e w' q => ?_
      obtain ⟨rfl, hB'⟩ := q
      have hin := inner_of (h := h) (ks := [y, z]) (by simp) (hv.below hB') (hkd.below hB')
      refine ⟨_, _, rfl, fun o => ⟨((hbk.below hB').below (al w' o)).cell 0, ((hbk.below hB').below (al w' o)).frozen 0⟩, fun o => ?_⟩
      refine did_set (x := (72, _)) (h := h + 1) (n := 2) (bmore hB (bmore hB' (al w' o))) ((hbk.below hB').below (al w' o)) ?_ ⟨by omega, by omega⟩ HX.out.1 HX.out.2.1 HX.out.2.2
      rw [hfl] at hin ⊢
      exact hin.below (al w' o)
  clear HBk HR HX hpl
  go_enter Try.func31, Try.ntmps31
  go_wp2_with (first
    | (go_at_call 43; (with_reducible refine k43.mono ?_); rintro e w1 hS; obtain ⟨v1, rfl⟩ : ∃ v1, e = .returned v1 := (by obtain ⟨v1, q, _⟩ := hS; exact ⟨v1, q⟩); obtain ⟨⟨c1, f1⟩, hcase⟩ := HC.out v1 w1 hS; clear hS k43; rcases hcase with ⟨g, o, c, y, rfl, d0, HD⟩ | ⟨a, c, rfl, k44⟩)
    | (go_at_call 44; (with_reducible refine k44.mono ?_); rintro e w2 ⟨s5, t5, rfl, hcf, HD⟩; obtain ⟨c2, f2⟩ := hcf (.cells #[.iface 72 (.agg #[.slice a 2 c, .string s5, .int .i64 t5])] 60)))
  · go_ret
    exact ⟨rfl, HD.out⟩
  · go_ret
    exact ⟨rfl, HD.out _⟩
end Go.Proofs.Ytgimjjlkniplnaa
