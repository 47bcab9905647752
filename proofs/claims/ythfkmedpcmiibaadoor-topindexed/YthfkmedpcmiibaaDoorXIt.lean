/- pairs, and what it yields: of a leaf. -/
import Derived.Test.YthfkmedpcmiibaaDoorXSe
namespace Go.Proofs.YthfkmedpcmiibaaDoor.T
open Go.RowKit Go.Shelf
set_option maxRecDepth 100000
attribute [local go_sem] Oper.semAt_some ta64_64 ta72_64 ta72_72 ta64_72 tb64_64 tb72_72
/-- A later world that has the older one's blocks. -/
structure Ag (w0 W : World) : Prop where
  size : w0.heap.size ≤ W.heap.size
  block : ∀ k, k < w0.heap.size → W.heap[k]? = w0.heap[k]?
theorem Ag.keep {w0 W W' : World} {O : Nat → Prop} (h : Ag w0 W) (k : Keep O W W') (hO : ∀ j, j < w0.heap.size → ¬ O j) : Ag w0 W' := ⟨Nat.le_trans h.size k.size, fun j hj => (k.block j (by have := h.size; omega) (hO j hj)).trans (h.block j hj)⟩
theorem Ag.blk {w0 W : World} (h : Ag w0 W) {g : Nat} {l : List Value} {t : TypeId} (hb : Blk w0 g l t) : Blk W g l t := (h.block g hb.lt).trans hb
theorem Ag.part {w0 W : World} (h : Ag w0 W) {hh n : Nat} {x : Bx} {kv : List Pr} (hp : Part w0 hh n x kv) : Part W hh n x kv := hp.keep fun _ _ _ _ q => h.blk q
theorem Ag.lv {w0 W : World} (h : Ag w0 W) {α : Type} {E : Ety α} {v : Value} {L : List α} (hp : LV E w0 v L) : LV E W v L := hp.keep fun _ _ q => h.blk q
/-- The boxes of a part and a key. -/
structure Bq (W : World) (b : Nat) (x : Bx) (k : ByteArray) : Prop where
  p : Blk W b [.iface x.1 x.2] 49
  k : Blk W (b + 1) [.string k] 9
theorem Bq.keep {O : Nat → Prop} {W W' : World} {b : Nat} {x : Bx} {k : ByteArray} (h : Bq W b x k) (kk : Keep O W W') (h0 : ¬ O b) (h1 : ¬ O (b + 1)) : Bq W' b x k := ⟨h.p.keep kk h0, h.k.keep kk h1⟩
def Gq (n b j : Nat) : Prop := j < n ∨ j = b ∨ j = b + 1
theorem pairs34 (x : Bx) (k : ByteArray) (W : World) : Calls Tryd.prog 19 #[.iface x.1 x.2, .string k] W fun e w' =>
    e = .returned (.func (.func 38) #[] #[.pointer (some ⟨W.heap.size, 0, none⟩), .pointer (some ⟨W.heap.size + 1, 0, none⟩)]) ∧ w' = (W.alloc (.cells #[.iface x.1 x.2] 49)).alloc (.cells #[.string k] 9) := by
  go_enter Tryd.func19, Tryd.ntmps19
  go_wp2
  go_ret
  exact ⟨rfl, rfl⟩
theorem bq_new (x : Bx) (k : ByteArray) (W : World) : Bq ((W.alloc (.cells #[.iface x.1 x.2] 49)).alloc (.cells #[.string k] 9)) W.heap.size x k :=
  ⟨(blk_new W [.iface x.1 x.2] 49).below (al _ _), blk_at (W.alloc (.cells #[.iface x.1 x.2] 49)) [.string k] 9 (by simp)⟩
theorem eg47 : ∀ args w, (callFunc 38 args).run Tryd.prog w = .ok (.enter 38 args) w := enters_of Tryd.func38 (by kernel_rfl) rfl
abbrev mark (D : Nat) : Deferred := { target := .collected D, args := #[] }
/-- A function's end, where loops have left blocks for deferred calls. -/
theorem leave_marks {fn : Func} {tmps : Array Value} {R : Ending → World → Prop} {v : Value} : ∀ (Ds : List Nat) (w : World), (∀ w', Keep (· ∈ Ds) w w' → (results fn tmps).run Tryd.prog w' = .ok v w' ∧ R (.returned v) w') → (∀ D ∈ Ds, w.heap[D]? = some (.deferred (some []))) → Ds.Nodup →
    LeavesInM Fence.wide 0 Tryd.prog fn tmps R (Ds.map mark) .returning w
  | [], w, hR, _, _ => ⟨v, (hR w (Keep.refl _ _)).1, (hR w (Keep.refl _ _)).2⟩
  | D :: Ds, w, hR, hD, hn => by
    refine ⟨by simp, .inl ⟨D, _, rfl, run_takeDeferred (hD D (by simp)), ?_⟩⟩
    have k : Keep (· ∈ D :: Ds) w (w.putObj D (.deferred none)) := (Keep.refl _ w).put (.inr (by simp)) _
    refine leave_marks Ds _ (fun w' k' => hR w' (k.trans k' (fun _ _ h => by simp [h]))) (fun D' h' => ?_) (List.nodup_cons.1 hn).2
    have hne : D' ≠ D := fun e => (List.nodup_cons.1 hn).1 (by rw [← e]; exact h')
    rw [World.putObj_heap_other hne]
    exact hD D' (by simp [h'])
/-- What a call of the iterator's answers. -/
def Ans {α : Type} (J Jx : (Nat → Prop) → List α → World → Prop) (O : Nat → Prop) (xs : List α) (W : World) (e : Ending) (W' : World) : Prop :=
  (∃ v, e = .returned v) ∧ ((∃ O', J O' xs W' ∧ Grew O O' W ∧ Keep O W W') ∨ (∃ pre O', pre <+: xs ∧ Jx O' pre W' ∧ Grew O O' W ∧ Keep O W W'))
def All47 (h : Nat) : Prop := ∀ (W w0 : World) (m : Nat) (x : Bx) (kv : List Pr) (b : Nat) (k : ByteArray), Part w0 h m x kv → Srt kv → kv.length ≤ 800 → Ag w0 W → w0.heap.size ≤ b → Bq W b x k →
  Runs Tryd.prog 38 #[.pointer (some ⟨b, 0, none⟩), .pointer (some ⟨b + 1, 0, none⟩)] prV (ge kv k) (Gq w0.heap.size b) W
set_option maxHeartbeats 1000000 in
theorem all47_leaf : All47 0 := by
  intro W w0 m x kv b k hp hs hlen hag hwb hbq l O J Jx hO hJs hJ hJx hY h0
  obtain ⟨a, c, rfl, hl, -⟩ := hp.leaf
  generalize hn : kv.length = n at *
  have hbl := hbq.k.lt
  have nO : ∀ j, j < w0.heap.size → ¬ O j := fun j hj h => (hO j h).1 (.inl hj)
  have nb0 : ¬ O b := fun h => (hO b h).1 (.inr (.inl rfl))
  have nb1 : ¬ O (b + 1) := fun h => (hO (b + 1) h).1 (.inr (.inr rfl))
  have nY : ¬ O W.heap.size := fun h => by have := (hO _ h).2; omega
  have bY := blk_new W [.func (.yield l) #[] #[]] 93
  have kY : Keep O W (W.alloc (.cells #[.func (.yield l) #[] #[]] 93)) := Keep.of (al _ _)
  have HK : Hid (∀ W', Keep O (W.alloc (.cells #[.func (.yield l) #[] #[]] 93)) W' → LV EP W' (.slice a n c) kv ∧ W'.cell? ⟨b, 0, none⟩ = some (.iface 47 (.slice a n c)) ∧ W'.cell? ⟨b + 1, 0, none⟩ = some (.string k) ∧ W'.cell? ⟨W.heap.size, 0, none⟩ = some (.func (.yield l) #[] #[])) := fun W' k' => by
    have kk : Keep O W W' := kY.trans k' (fun _ _ h => h)
    exact ⟨(hag.keep kk nO).lv hl, (hbq.p.keep kk nb0).cell 0, (hbq.k.keep kk nb1).cell 0, (bY.keep k' nY).cell 0⟩
  have k48 := place48 (k := k) (HK.out _ (Keep.refl _ _)).1 hs (by omega)
  obtain ⟨-, c1, c2, -⟩ := HK.out _ (Keep.refl _ _)
  have HAt : Hid (∀ i, At kv k i → ge kv k = kv.drop i) := fun i hi => (cut_lo hi).2
  have HN : Hid (kv.length = n) := hn
  have HJ : Hid _ := hJ
  have HJx : Hid _ := hJx
  have HY : Hid _ := hY
  have H0 : Hid _ := h0
  have HkY : Hid _ := kY
  clear hp hs hag hbq hO hJs hJ hJx hY h0 hl bY hn kY
  refine callsIn_of_wp Tryd.func38 rfl trivial ?_ rfl
  simp only [Tryd.ntmps38, List.size_toArray, List.length_cons, List.length_nil, Nat.reduceAdd, Nat.reduceSub, Array.replicate_succ, Array.replicate_zero, List.push_toArray, List.append_toArray, List.nil_append, List.cons_append]
  gi_wp2
  refine ⟨trivial, rfl, ((callsIn_wide (n := 0)).2 k48).mono ?_⟩
  rintro e w1 ⟨i, hi, ha, rfl, hB1⟩
  have HGe : Hid (ge kv k = kv.drop i) := HAt.out i ha
  have hin : i ≤ n := by rw [← HN.out]; exact hi
  have HB1 : Hid _ := hB1
  have K1 : Hid (Keep O (W.alloc (.cells #[.func (.yield l) #[] #[]] 93)) w1) := Keep.of hB1
  have hcap := (HK.out w1 K1.out).1.cap.2
  rw [HN.out] at hcap
  have i0 : (0 : Int) ≤ (i : Int) := by omega
  have i1 : (i : Int) ≤ (n : Int) := by omega
  have i2 : (n : Int) ≤ (c : Int) := by omega
  clear hi ha hB1 k48 c1 c2 HAt
  by_cases hlt : i < n
  · have hci : ¬ (c = i) := by omega
    obtain ⟨p0, hp0⟩ : ∃ p, kv[i]? = some p := ⟨_, List.getElem?_eq_getElem (by rw [HN.out]; omega)⟩
    obtain ⟨g, o, rfl, -, -⟩ := EP.cell (HK.out w1 K1.out).1 hp0
    clear hp0
    gi_wp2
    gi_loopw [27] (fun q wr => ∃ (j : Nat) (O' : Nat → Prop), q = .int .i64 (j : Int) ∧ Hid (j ≤ n - i) ∧ Hid (J O' ((kv.drop i).take j) wr) ∧ Hid (Grew O O' (W.alloc (.cells #[.func (.yield l) #[] #[]] 93))) ∧ Hid (Keep O (W.alloc (.cells #[.func (.yield l) #[] #[]] 93)) wr)) (fun q _ => (((n - i : Nat) : Int) - intOf q).toNat)
    case atStart => exact ⟨0, O, rfl, Nat.zero_le _, HJ.out _ _ _ _ H0.out (Keep.of (bmore (al _ _) HB1.out)), Grew.refl _ _, K1.out⟩
    case round =>
      obtain ⟨j, O', rfl, hj, hJ', hgr, hk⟩ := hrel
      by_cases hjn : j < n - i
      · have hji : (j : Int) < ((n - i : Nat) : Int) := by omega
        have hj0 : (0 : Int) ≤ (j : Int) := by omega
        obtain ⟨p, hp⟩ : ∃ p, kv[i + j]? = some p := ⟨_, List.getElem?_eq_getElem (by rw [HN.out]; omega)⟩
        obtain ⟨hLV, -, -, cY⟩ := HK.out wr hk.out
        obtain ⟨g', o', hgo, d0, d1⟩ := EP.cell hLV hp
        cases hgo
        rw [show o + (i + j) * 2 = o + i * 2 + j * 2 by omega] at d0 d1
        have HTk : Hid ((kv.drop i).take (j + 1) = (kv.drop i).take j ++ [p]) := by show _ = _; rw [List.take_add_one, List.getElem?_drop, hp]; rfl
        have kw := al wr (.cells #[.string p.1, .string p.2] 42)
        have KW : Hid (Keep O (W.alloc (.cells #[.func (.yield l) #[] #[]] 93)) (wr.alloc (.cells #[.string p.1, .string p.2] 42))) := hk.out.trans (Keep.of kw) (fun _ _ h => h)
        obtain ⟨-, -, -, cY2⟩ := HK.out _ KW.out
        have hYd := HY.out O' ((kv.drop i).take j) p (wr.alloc (.cells #[.string p.1, .string p.2] 42)) (HJ.out _ _ _ _ hJ'.out (Keep.of kw)) (by rw [HGe.out, ← HTk.out]; exact List.take_prefix _ _)
        rw [← HTk.out] at hYd
        obtain ⟨fn, tmps, assign, body, hy, hRd⟩ := hYd
        have HRd : Hid _ := hRd
        clear hp hLV cY hRd kw
        gi_wp2
        refine ⟨rfl, RoundIn.mono HRd.out ?_⟩
        rintro e W3 (⟨rfl, O3, hj3, hg3, hk3⟩ | ⟨rfl, O3, hj3, hg3, hk3⟩)
        · have HG3 : Hid (Grew O O3 (W.alloc (.cells #[.func (.yield l) #[] #[]] 93))) := hgr.out.trans hg3 KW.out.size
          have HK3 : Hid (Keep O (W.alloc (.cells #[.func (.yield l) #[] #[]] 93)) W3) := KW.out.trans hk3 (fun q hq h => (hgr.out q h).elim id (fun h => by omega))
          have HJ3 : Hid _ := hj3
          clear hj3 hg3 hk3
          gi_wp2
          go_roundw
          case rel => exact ⟨j + 1, O3, by simp, by show _ ≤ _; omega, HJ3.out, HG3.out, HK3.out⟩
          case measure => simp only [intOf]; omega
        · have HG3 : Hid (Grew O O3 W) := fun q hq => (hgr.out.trans hg3 KW.out.size q hq).elim .inl (fun h => .inr (by have := HkY.out.size; omega))
          have HK3 : Hid (Keep O W W3) := HkY.out.trans (KW.out.trans hk3 (fun q hq h => (hgr.out q h).elim id (fun h => by omega))) (fun _ _ h => h)
          have HJ3 : Hid _ := hj3
          have HPre : Hid ((kv.drop i).take (j + 1) <+: ge kv k) := by rw [HGe.out]; exact List.take_prefix _ _
          clear hj3 hg3 hk3
          gi_wp2
          refine bodyPost_ret (results_none rfl _ _ _) rfl ?_
          exact ⟨⟨_, rfl⟩, .inr ⟨_, O3, HPre.out, HJ3.out, HG3.out, HK3.out⟩⟩
      · have hji : ¬ (j : Int) < ((n - i : Nat) : Int) := by omega
        obtain rfl : j = n - i := by have := hj.out; omega
        have HAll : Hid ((kv.drop i).take (n - i) = ge kv k) := by show _ = _; rw [HGe.out, List.take_of_length_le (by rw [List.length_drop, HN.out]; omega)]
        gi_wp2
        go_end0
        exact ⟨⟨_, rfl⟩, .inl ⟨O', HAll.out ▸ hJ'.out, fun q hq => (hgr.out q hq).elim .inl (fun h => .inr (by have := HkY.out.size; omega)), HkY.out.trans hk.out (fun _ _ h => h)⟩⟩
  · obtain rfl : i = n := by omega
    have HNil : Hid (ge kv k = []) := by show _ = _; rw [HGe.out, List.drop_eq_nil_iff, HN.out]; omega
    have HFin : Hid (∃ O', J O' (ge kv k) w1 ∧ Grew O O' W ∧ Keep O W w1) := ⟨O, by rw [HNil.out]; exact HJ.out _ _ _ _ H0.out (Keep.of (bmore (al _ _) HB1.out)), Grew.refl _ _, HkY.out.trans K1.out (fun _ _ h => h)⟩
    by_cases hci : c = i
    · subst hci
      gi_wp2
      gi_loopw [27] (fun q wr => q = .int .i64 0 ∧ Hid (wr = w1)) (fun _ _ => 0)
      case atStart => exact ⟨rfl, rfl⟩
      case round =>
        obtain ⟨rfl, hw⟩ := hrel
        have hw' := hw.out
        subst hw'
        gi_wp2
        go_end0
        exact ⟨⟨_, rfl⟩, .inl HFin.out⟩
    · gi_wp2
      gi_loopw [27] (fun q wr => q = .int .i64 0 ∧ Hid (wr = w1)) (fun _ _ => 0)
      case atStart => exact ⟨rfl, rfl⟩
      case round =>
        obtain ⟨rfl, hw⟩ := hrel
        have hw' := hw.out
        subst hw'
        gi_wp2
        go_end0
        exact ⟨⟨_, rfl⟩, .inl HFin.out⟩
end Go.Proofs.YthfkmedpcmiibaaDoor.T
