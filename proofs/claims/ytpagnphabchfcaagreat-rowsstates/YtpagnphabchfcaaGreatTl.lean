/- Whether two states are the same: the program's. -/
import Derived.Test.YtpagnphabchfcaaGreatTj
namespace Go.Proofs.YtpagnphabchfcaaGreat
open Go.RowKit Go.Shelf
set_option maxRecDepth 100000
theorem sub_eq {α : Type} [DecidableEq α] : ∀ {l m : List α}, l.Nodup → (∀ x, x ∈ l → x ∈ m) → m.length ≤ l.length → ∀ x, x ∈ m → x ∈ l
  | [], m, _, _, hl => fun x hx => by
    have : m = [] := List.eq_nil_of_length_eq_zero (by simpa using hl)
    rw [this] at hx
    cases hx
  | a :: l, m, hn, hs, hl => fun x hx => by
    obtain ⟨ha, hn⟩ := List.nodup_cons.1 hn
    have hm := hs a (by simp)
    by_cases e : x = a
    · simp [e]
    · refine List.mem_cons_of_mem _ (sub_eq (m := m.erase a) hn (fun y hy => ?_) ?_ x ?_)
      · exact (List.mem_erase_of_ne (fun (q : y = a) => ha (q ▸ hy))).2 (hs y (by simp [hy]))
      · rw [List.length_erase_of_mem hm]
        simp at hl
        omega
      · exact (List.mem_erase_of_ne e).2 hx
noncomputable def eqS (σ τ : List Tab) : Bool := @decide (σ = τ) (Classical.propDecidable _)
theorem eqS_t {σ τ : List Tab} (h : σ = τ) : eqS σ τ = true := by unfold eqS; exact @decide_eq_true _ (Classical.propDecidable _) h
theorem eqS_f {σ τ : List Tab} (h : ¬ σ = τ) : eqS σ τ = false := by unfold eqS; exact @decide_eq_false _ (Classical.propDecidable _) h
theorem state_eq {σ τ : List Tab} (hs : SortedS σ) (ht : SortedS τ) (hl : σ.length = τ.length) (h : ∀ x, x ∈ nms σ → getS σ x = getS τ x) : σ = τ := by
  have p1 : (nms σ).Pairwise (fun a b => cmpS a b = -1) := List.pairwise_map.2 hs
  have p2 : (nms τ).Pairwise (fun a b => cmpS a b = -1) := List.pairwise_map.2 ht
  have n1 : (nms σ).Nodup := p1.imp (fun {a b} h e => by rw [e, (ordS.eq _ _).2 rfl] at h; omega)
  have hsub : ∀ x, x ∈ nms σ → x ∈ nms τ := fun x hx => by
    obtain ⟨l, hl⟩ := getS_some.1 hx
    exact getS_some.2 ⟨l, by rw [← h x hx]; exact hl⟩
  have he : nms σ = nms τ := strictS_unique p1 p2 (fun x => ⟨hsub x, @sub_eq _ (fun _ _ => Classical.propDecidable _) _ _ n1 hsub (by simp [nms]; omega) x⟩)
  apply List.ext_getElem hl
  intro i h1 h2
  have e1 : (nms σ)[i]? = (nms τ)[i]? := by rw [he]
  unfold nms at e1
  rw [List.getElem?_map, List.getElem?_map, List.getElem?_eq_getElem h1, List.getElem?_eq_getElem h2] at e1
  simp only [Option.map_some, Option.some.injEq] at e1
  have g1 := (getS_at hs (List.getElem?_eq_getElem h1)).1
  have g2 := (getS_at ht (List.getElem?_eq_getElem h2)).1
  rw [h _ (List.mem_map.2 ⟨_, List.getElem_mem h1, rfl⟩), e1, g2] at g1
  exact Prod.ext e1 (Option.some.inj g1).symm
theorem Two.count {w : World} {s m r : Nat} {E : List (List UInt8 × Value)} {σ : List Tab} (h : Two w s m r E σ) : Maps.size (DT E) = σ.length := by
  have p1 : (nms σ).Pairwise (fun a b => cmpS a b = -1) := List.pairwise_map.2 h.sorted
  have n1 : (nms σ).Nodup := p1.imp (fun {a b} h e => by rw [e, (ordS.eq _ _).2 rfl] at h; omega)
  have hC : Collected (DT E) (fun _ => false) ((nms σ).map bs) := by
    refine ⟨List.Pairwise.map _ (fun a b hab e => hab (bs_inj e)) n1, fun x => ?_⟩
    rw [has_DT, List.mem_map]
    constructor
    · rintro ⟨y, hy, rfl⟩
      exact ⟨(h.keys y).2 hy, rfl⟩
    · rintro ⟨hx, _⟩
      exact ⟨ofL x, (h.keys (ofL x)).1 hx, rfl⟩
  have hp := (hC.perm h.sm.map keyed9 Tryz.underlying9 (fun _ => rfl)).length_eq
  obtain ⟨es, hes, _⟩ := h.sm.map.entries keyed9
  rw [hes] at hp ⊢
  simp [nms, strKeys] at hp
  simp [Maps.size, hp]
theorem Two.entry {w : World} {s m r : Nat} {E : List (List UInt8 × Value)} {σ : List Tab} (h : Two w s m r E σ) {x : List UInt8} {c : Value} {yd : DataW Value} {yp : List MemPlace} (hv : heldR c = some (yd, yp)) (hat : ∀ zd, (DT E).atKey (.string x) zd = yd) : ∃ l, getS σ (ofL x) = some l ∧ RRow w (fun _ => False) c l ∧ sortR l = l := by
  simp only [heldR, Option.some.injEq, Prod.mk.injEq] at hv
  have h1 := hat .nil
  rw [atKey_DT, ← hv.1] at h1
  cases hf : fnd E x with
  | none => rw [hf] at h1; cases h1
  | some y =>
    rw [hf] at h1
    simp only [Option.map_some, Option.getD_some, DataW.held.injEq] at h1
    have hm : ofL x ∈ nms σ := (h.keys (ofL x)).1 (by rw [bs_ofL, hf]; rfl)
    obtain ⟨l, hl⟩ := getS_some.1 hm
    obtain ⟨y', q1, q2⟩ := h.rows _ _ hl
    rw [bs_ofL, hf] at q1
    cases q1
    rw [h1] at q2
    refine ⟨l, hl, q2, ?_⟩
    unfold getS at hl
    obtain ⟨u, hu, e⟩ := Option.map_eq_some_iff.1 hl
    rw [← e]
    exact h.rise u (List.mem_of_find?_eq_some hu)
theorem sameT12 {w : World} {v v' : Value} {l l' : List Rw} (h : RRow w (fun _ => False) v l) (h' : RRow w (fun _ => False) v' l') (hr : sortR l = l) (hr' : sortR l' = l') : Calls Tryz.prog 12 #[v, v'] w fun e w' => e = .returned (.bool (decide (l = l'))) ∧ Below w.heap.size w w' := by
  obtain ⟨es, h1, h2, h3, h4⟩ := h
  obtain ⟨es', q1, q2, q3, q4⟩ := h'
  have := same15 h1 q1 h3 q3 h4 q4
  rw [h2, q2, hr, hr'] at this
  exact this
set_option maxHeartbeats 2000000 in
theorem equal72 {w : World} {s m r s' m' r' : Nat} {E E' : List (List UInt8 × Value)} {σ τ : List Tab} (h : Two w s m r E σ) (h' : Two w s' m' r' E' τ) :
    Calls Tryz.prog 72 #[.map (some m), .map (some m'), .func (.func 12) #[] #[]] w fun e w' => e = .returned (.bool (eqS σ τ)) ∧ Below w.heap.size w w' := by
  have l1 := fun ty => h.sm.map.len (t := 88) Tryz.underlying88 ty
  have l2 := fun ty => h'.sm.map.len (t := 88) Tryz.underlying88 ty
  rw [h.count] at l1
  rw [h'.count] at l2
  obtain ⟨N, hN⟩ : ∃ N, σ.length = N := ⟨_, rfl⟩
  obtain ⟨N', hN'⟩ : ∃ N, τ.length = N := ⟨_, rfl⟩
  rw [hN] at l1
  rw [hN'] at l2
  have hown := h.sm.map
  have HN : Hid (σ.length = N) := hN
  have HN' : Hid (τ.length = N') := hN'
  have H : Hid (Two w s m r E σ) := h
  have H' : Hid (Two w s' m' r' E' τ) := h'
  clear h h' hN hN'
  by_cases hne : N = N'
  · subst hne
    go_enter Tryz.func72, Tryz.ntmps72
    go_wp2_with (first
      | (at_range; refine wpList_range_own _ rfl _ 88 rfl 9 22 keyed9 Tryz.underlying88 _ m _ _ rfl hown ?_; intro w0 hrg0 hg0 hs0)
      | go_in)
    go_frame
    go_loopw [18] (fun _ wr => ∃ (left : Lit → Bool) (cnt : Nat), wr.ranges Tryz.prog 9 heldR m w.heap.size E.length (DT E) left cnt ∧ Hid (∀ x, x ∈ nms σ → left (.string (bs x)) = false → getS σ x = getS τ x) ∧ Hid (Below w.heap.size w wr)) (fun _ wr => wr.rangeLeft m w.heap.size)
    case atStart => exact ⟨_, _, hrg0, (fun x hx hl => by rw [has_DT, (H.out.keys x).2 hx] at hl; cases hl), (Below.refl _ _).grown hg0 (Nat.le_refl _) (fun j hj => by cases hj)⟩
    case round =>
      obtain ⟨left, cnt, hrg, hG, hB⟩ := hrel
      go_wp2_with (first
        | (at_next; refine wpList_next_ranges _ rfl _ rfl 9 keyed9 heldR (fun x => Value.string (ofL x)) (fun v => v) (fun key kl hk => by obtain ⟨x, hx, _⟩ := Maps.keyOf_str Tryz.underlying9 hk; exact ⟨x, hx⟩) (fun v y hv => ⟨v, rfl⟩) m w.heap.size E.length _ _ _ rfl hrg ?_ ?_)
        | go_in)
      · intro hcn hl0
        go_wp2
        go_ret
        have he : σ = τ := state_eq H.out.sorted H'.out.sorted (by rw [HN.out, HN'.out]) (fun x hx => hG.out x hx (hl0 _))
        exact ⟨by rw [eqS_t he]; rfl, hB.out⟩
      · intro x c kl yd yp w2 cnt2 hkey hlk hv hat hrg2 hlt hg2 hs2 hen
        try dsimp only at hkey hv hen ⊢
        obtain ⟨x', ex, hkl, _⟩ := Maps.keyOf_str Tryz.underlying9 hkey
        have hxx : x = x' := encStr_inj (show encStr x = encStr x' from ex)
        subst hxx
        subst hkl
        have hB2 : Below w.heap.size w w2 := hB.out.grown hg2 hB.out.size (fun j hj => by cases hj; exact Nat.le_refl _)
        obtain ⟨l, hl1, hl2, hl3⟩ := (H.out.below hB2).entry hv hat
        have HG2 : Hid (w2.ranges Tryz.prog 9 heldR m w.heap.size E.length (DT E) (fun z => left z && !z.sameKey (.string x)) cnt2) := hrg2
        have HB2 : Hid (Below w.heap.size w w2) := hB2
        have hown2 := (H'.out.below hB2).sm.map
        have HL1 : Hid (getS σ (ofL x) = some l) := hl1
        obtain ⟨pc, nc, cc, hfc⟩ := hl2.form
        subst hfc
        have hz2 := zero22 w2
        have hhd := has_DT x E'
        clear hrg2 hs2 hg2 hv hat hlk hB2 ex hl1
        cases hf : fnd E' x with
        | none =>
          rw [hf] at hhd
          go_wp2_with (first
            | (at_lookup; refine wpList_lookup_own_ok _ rfl _ _ 88 rfl 9 22 keyed9 Tryz.underlying88 heldR hz2 (.held (.slice none 0 0)) [] rfl m' _ _ rfl hown2 _ (.string x) rfl hkey ?_; intro v2 ps2 hv2; rw [hhd]; simp only [Option.isSome_none]; go_frame)
            | go_in)
          go_ret
          have hno : ¬ σ = τ := fun e => by
            have h0 := HL1.out
            rw [e] at h0
            have h1 := (H'.out.keys (ofL x)).2 (getS_some.2 ⟨l, h0⟩)
            rw [bs_ofL, hf] at h1
            cases h1
          exact ⟨by rw [eqS_f hno]; rfl, HB2.out⟩
        | some y2 =>
          rw [hf] at hhd
          obtain ⟨l2, q1, q2, q3⟩ := (H'.out.below HB2.out).entry (c := y2.2) (yd := .held y2.2) (yp := []) rfl (fun zd => by rw [atKey_DT, hf]; rfl)
          have HL2 : Hid (getS τ (ofL x) = some l2) := q1
          have k12 := sameT12 hl2 q2 hl3 q3
          have HV2 : Hid (∀ v2 ps2, heldR v2 = some ((DT E').atKey (.string x) (.held (.slice none 0 0)), ps2) → v2 = y2.2) := fun v2 ps2 hv2 => by
            rw [atKey_DT, hf] at hv2
            simp [heldR] at hv2
            exact hv2.1
          obtain ⟨yk, yv⟩ := y2
          simp only at k12 HV2 q2
          obtain ⟨pd, nd, cd, hfd⟩ := q2.form
          subst hfd
          clear q1 q2 q3 hl2 hl3 hf
          by_cases hll : l = l2
          · rw [decide_eq_true hll] at k12
            go_wp2_with (first
              | (at_lookup; refine wpList_lookup_own_ok _ rfl _ _ 88 rfl 9 22 keyed9 Tryz.underlying88 heldR hz2 (.held (.slice none 0 0)) [] rfl m' _ _ rfl hown2 _ (.string x) rfl hkey ?_; intro v2 ps2 hv2; have hv3 := HV2.out _ _ hv2; subst hv3; rw [hhd]; simp only [Option.isSome_some]; go_frame)
              | (go_at_fn 12; (with_reducible refine k12.mono ?_); rintro e w3 ⟨rfl, B3⟩)
              | (go_at_call 12; (with_reducible refine k12.mono ?_); rintro e w3 ⟨rfl, B3⟩)
              | go_in)
            have hrg3 := World.ranges.kept HG2.out (w' := w3) (row := none) ⟨B3.os, B3.tape, B3.output, B3.size, fun i hi _ => B3.block i hi⟩ (by simp) (by simp)
            go_roundw
            case rel =>
              refine ⟨_, cnt2, hrg3, fun z hz hl => ?_, bmore HB2.out B3⟩
              by_cases e : bs z = x
              · have e2 : z = ofL x := by rw [← e]; rfl
                rw [e2, HL1.out, HL2.out, hll]
              · refine hG.out z hz ?_
                have : (Lit.string (bs z)).sameKey (.string x) = false := by simp [Lit.sameKey, e]
                rw [this] at hl
                simpa using hl
            case measure => rw [hrg3.left_eq, hrg.left_eq]; exact hlt
          · rw [decide_eq_false hll] at k12
            go_wp2_with (first
              | (at_lookup; refine wpList_lookup_own_ok _ rfl _ _ 88 rfl 9 22 keyed9 Tryz.underlying88 heldR hz2 (.held (.slice none 0 0)) [] rfl m' _ _ rfl hown2 _ (.string x) rfl hkey ?_; intro v2 ps2 hv2; have hv3 := HV2.out _ _ hv2; subst hv3; rw [hhd]; simp only [Option.isSome_some]; go_frame)
              | (go_at_fn 12; (with_reducible refine k12.mono ?_); rintro e w3 ⟨rfl, B3⟩)
              | (go_at_call 12; (with_reducible refine k12.mono ?_); rintro e w3 ⟨rfl, B3⟩)
              | go_in)
            go_ret
            have hno : ¬ σ = τ := fun e => by
              have h1 := HL1.out
              rw [e, HL2.out] at h1
              exact hll (Option.some.inj h1).symm
            exact ⟨by rw [eqS_f hno]; rfl, bmore HB2.out B3⟩
  · have hne' : ¬ ((N : Int) = (N' : Int)) := by omega
    go_enter Tryz.func72, Tryz.ntmps72
    go_wp2
    go_ret
    exact ⟨by rw [eqS_f (fun e => hne (by rw [← HN.out, ← HN'.out, e]))]; rfl, Below.refl _ _⟩
set_option maxHeartbeats 1000000 in
theorem sameS33 {w : World} {s m r s' m' r' : Nat} {E E' : List (List UInt8 × Value)} {σ τ : List Tab} (h : Two w s m r E σ) (h' : Two w s' m' r' E' τ) :
    Calls Tryz.prog 33 #[.pointer (some ⟨s, 0, none⟩), .pointer (some ⟨s', 0, none⟩)] w fun e w' => e = .returned (.bool (eqS σ τ)) ∧ Below w.heap.size w w' := by
  have K0 : Below w.heap.size w w.drew := (Below.refl _ _).drew
  have k72 := equal72 (h.below K0) (h'.below K0)
  have HS : Hid (∀ W, Below w.heap.size w W → W.cell? ⟨s, 0, none⟩ = some (.map (some m)) ∧ W.cell? ⟨s', 0, none⟩ = some (.map (some m'))) := fun W k => ⟨(h.below k).sm.blk.cell 0, (h'.below k).sm.blk.cell 0⟩
  have hS0 := HS.out _ K0
  generalize eqS σ τ = b at *
  clear h h'
  go_enter Tryz.func33, Tryz.ntmps33
  go_wp2_with fail
  go_region_held3 (fun W => W.cell? ⟨s, 0, none⟩ = some (.map (some m)) ∧ W.cell? ⟨s', 0, none⟩ = some (.map (some m'))) (first | exact hS0 | exact HS.out _ KW) (first
    | (go_at_call 72; (with_reducible refine k72.mono ?_); rintro e w1 ⟨rfl, C1⟩; have KW := bmore K0 C1))
  go_wp2_with fail
  go_ret
  exact ⟨rfl, KW⟩
theorem sameS33_nil {w : World} {s : Nat} : Calls Tryz.prog 33 #[.pointer (some ⟨s, 0, none⟩), .pointer none] w fun e w' => e = .returned (.bool false) ∧ w' = w := by
  go_enter Tryz.func33, Tryz.ntmps33
  go_wp2
  go_ret
  exact ⟨rfl, rfl⟩
end Go.Proofs.YtpagnphabchfcaaGreat
