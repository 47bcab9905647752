/- What an inner part yields. -/
import Derived.Test.YthfkmedpcmiibaaDoorXIt
namespace Go.Proofs.YthfkmedpcmiibaaDoor.T
open Go.RowKit Go.Shelf
set_option maxRecDepth 100000
attribute [local go_sem] Oper.semAt_some ta64_64 ta72_64 ta72_72 ta64_72 tb64_64 tb72_72
/-- What is said of a loop within the iterator. -/
def Iin (J : (Nat → Prop) → List Pr → World → Prop) (O : Nat → Prop) (W3 : World) (pre0 : List Pr) (O' : Nat → Prop) (q : List Pr) (W' : World) : Prop := J O' (pre0 ++ q) W' ∧ Grew O O' W3 ∧ Keep O W3 W'
theorem Iin.abide {J : (Nat → Prop) → List Pr → World → Prop} {O : Nat → Prop} {B : Nat} {W3 : World} {pre0 : List Pr} (hJ : Abide B J) (hs : B ≤ W3.heap.size) : Abide W3.heap.size (Iin J O W3 pre0) := by
  rintro O' q W1 W2 ⟨h1, h2, h3⟩ k
  exact ⟨hJ _ _ _ _ h1 (k.mono fun b _ h => ⟨h.1, by omega⟩), h2, h3.trans k (fun b hb h => by omega)⟩
/-- What holds from kid to kid. -/
structure LI (W w1 : World) (O : Nat → Prop) (J : (Nat → Prop) → List Pr → World → Prop) (pre : List Pr) (n j : Nat) (O1 : Nat → Prop) (Ds : List Nat) (wr : World) : Prop where
  le : j ≤ n
  len : Ds.length = j
  j : J O1 pre wr
  grew : Grew O O1 w1
  keep : Keep O w1 wr
  ds : ∀ D ∈ Ds, w1.heap.size ≤ D ∧ ¬ O1 D ∧ wr.heap[D]? = some (.deferred (some []))
  nodup : Ds.Nodup
  base : W.heap.size ≤ w1.heap.size
theorem LI.grew2 {W w1 wr W3 : World} {O O1 O4 : Nat → Prop} {J : (Nat → Prop) → List Pr → World → Prop} {pre : List Pr} {n j : Nat} {Ds : List Nat} (h : LI W w1 O J pre n j O1 Ds wr) (hgr : Grew O1 O4 W3) (hs : w1.heap.size ≤ W3.heap.size) : Grew O O4 w1 := fun q hq => (hgr q hq).elim (fun h1 => h.grew q h1) (fun h1 => .inr (by omega))
theorem LI.next {W w1 wr W3 W4 : World} {O O1 O4 : Nat → Prop} {J : (Nat → Prop) → List Pr → World → Prop} {pre : List Pr} {n j D : Nat} {Ds : List Nat} (h : LI W w1 O J pre n j O1 Ds wr) (k3 : Keep O1 wr W3) (hgr : Grew O1 O4 W3) (hk : Keep O1 W3 W4) (hD : w1.heap.size ≤ D ∧ wr.heap.size ≤ D) (hs : wr.heap.size ≤ W3.heap.size) (nD : ¬ O4 D) (hd : W4.heap[D]? = some (.deferred (some []))) :
    ((∀ q, q ∈ D :: Ds → ¬ O4 q) ∧ (∀ q, q ∈ D :: Ds → w1.heap.size ≤ q)) ∧ Keep O w1 W4 ∧ (D :: Ds).Nodup ∧ (∀ q, q ∈ D :: Ds → W4.heap[q]? = some (.deferred (some []))) := by
  have old : ∀ q ∈ Ds, q < wr.heap.size := fun q hq => (Array.getElem?_eq_some_iff.1 (h.ds q hq).2.2).1
  refine ⟨⟨fun q hq => ?_, fun q hq => ?_⟩, ?_, ?_, fun q hq => ?_⟩
  · rcases List.mem_cons.1 hq with rfl | hq
    · exact nD
    · intro h4
      have := old q hq
      exact (hgr q h4).elim (h.ds q hq).2.1 (fun h => by omega)
  · rcases List.mem_cons.1 hq with rfl | hq
    · exact hD.1
    · exact (h.ds q hq).1
  · exact (h.keep.trans k3 (fun q hq h1 => (h.grew q h1).elim id (fun h => by omega))).trans hk (fun q hq h1 => (h.grew q h1).elim id (fun h => by omega))
  · refine List.nodup_cons.2 ⟨fun hm => ?_, h.nodup⟩
    have := old D hm
    omega
  · rcases List.mem_cons.1 hq with rfl | hq
    · exact hd
    · have h1 := h.ds q hq
      have := old q hq
      rw [hk.block q (by omega) h1.2.1, k3.block q this h1.2.1]
      exact h1.2.2
theorem ge_flat (ks : List Kd) (k : ByteArray) : ge (flat ks) k = (ks.map fun y => ge y.2 k).flatten := by
  unfold ge flat
  induction ks with
  | nil => rfl
  | cons a l ih => simp [List.filter_append, ih]
theorem ge_from {ks : List Kd} {k : ByteArray} {i : Nat} {y : Kd} (ht : Tow ks k i y) : ge (flat ks) k = ((ks.drop i).map fun y => ge y.2 k).flatten := by
  conv => lhs; rw [← List.take_append_drop i ks, flat_app]
  rw [show ge (flat (ks.take i) ++ flat (ks.drop i)) k = ge (flat (ks.take i)) k ++ ge (flat (ks.drop i)) k from List.filter_append _ _]
  rw [show ge (flat (ks.take i)) k = [] from filter_none fun x hx => by rw [ht.mid.a x hx]; rfl, List.nil_append, ge_flat]
set_option maxHeartbeats 1000000 in
theorem all47_inner {h : Nat} (ih : All47 h) : All47 (h + 1) := by
  intro W w0 m x kv b k hp hs hlen hag hwb hbq l O J Jx hO hJs hJ hJx hY h0
  obtain ⟨a, c, ks, rfl, h2, h3, h4, h5, h6⟩ := hp.inner
  subst h5
  have hks : ks.length ≤ (flat ks).length := flat_len fun y hy => h6.pos hy
  obtain ⟨y0, ht⟩ := tow_i (k := k) h6 hs (by omega)
  have hgf := ge_from ht
  generalize hs0 : fst (flat ks) = s at *
  generalize hk0 : (flat ks).length = kl at *
  have hbl := hbq.k.lt
  have nO : ∀ j, j < w0.heap.size → ¬ O j := fun j hj h => (hO j h).1 (.inl hj)
  have nb0 : ¬ O b := fun h => (hO b h).1 (.inr (.inl rfl))
  have nb1 : ¬ O (b + 1) := fun h => (hO (b + 1) h).1 (.inr (.inr rfl))
  have nY : ∀ q, W.heap.size ≤ q → ¬ O q := fun q hq h => by have := (hO _ h).2; omega
  have hB2 : Below W.heap.size W ((W.alloc (.cells #[.func (.yield l) #[] #[]] 93)).alloc (.cells #[.slice a m c, .string s, .int .i64 (kl : Int)] 63)) := bal (al _ _) _
  have bY : Blk ((W.alloc (.cells #[.func (.yield l) #[] #[]] 93)).alloc (.cells #[.slice a m c, .string s, .int .i64 (kl : Int)] 63)) W.heap.size [.func (.yield l) #[] #[]] 93 := (blk_new W [.func (.yield l) #[] #[]] 93).below (al _ _)
  have bN : Blk ((W.alloc (.cells #[.func (.yield l) #[] #[]] 93)).alloc (.cells #[.slice a m c, .string s, .int .i64 (kl : Int)] 63)) (W.heap.size + 1) [.slice a m c, .string s, .int .i64 (kl : Int)] 63 := blk_at (W.alloc (.cells #[.func (.yield l) #[] #[]] 93)) [.slice a m c, .string s, .int .i64 (kl : Int)] 63 (by simp)
  have hsz2 : ((W.alloc (.cells #[.func (.yield l) #[] #[]] 93)).alloc (.cells #[.slice a m c, .string s, .int .i64 (kl : Int)] 63)).heap.size = W.heap.size + 2 := by simp
  obtain ⟨q1, q2⟩ : W.heap.size < W.heap.size + 2 ∧ W.heap.size + 1 < W.heap.size + 2 := by omega
  have c1 := (hbq.p.below (al W (.cells #[.func (.yield l) #[] #[]] 93))).cell 0
  simp only [List.getElem?_cons_zero] at c1
  refine callsIn_of_wp_marks Tryd.func38 rfl trivial (wpIn_wide.2 ?_) rfl
  simp only [Tryd.ntmps38, List.size_toArray, List.length_cons, List.length_nil, Nat.reduceAdd, Nat.reduceSub, Array.replicate_succ, Array.replicate_zero, List.push_toArray, List.append_toArray, List.nil_append, List.cons_append]
  go_wp2_with fail
  generalize (W.alloc (.cells #[.func (.yield l) #[] #[]] 93)).alloc (.cells #[.slice a m c, .string s, .int .i64 (kl : Int)] 63) = W2 at *
  have hag2 : Ag w0 W2 := hag.keep (Keep.of (F := fun _ => False) hB2) (fun _ _ => id)
  have hk2 : Kids W2 h ks := fun z hz => by obtain ⟨mz, z1, z2, z3⟩ := h6 z hz; exact ⟨mz, z1, z2, hag2.part z3⟩
  have k49 := toward49 (k := k) (s := s) (t := (kl : Int)) ((hag2.lv h2).below ((Below.refl _ _).drew)) (hk2.below ((Below.refl _ _).drew)) hs (by omega) (by omega)
  unfold TPost at k49
  generalize towI ks k = i at *
  have hi := (List.getElem?_eq_some_iff.1 ht.at_).1
  have hcap := h2.cap.2
  rw [List.length_map] at hcap
  have hci : ¬ (c = i) := by omega
  have i0 : (0 : Int) ≤ (i : Int) := by omega
  have i1 : (i : Int) ≤ (m : Int) := by omega
  have i2 : (m : Int) ≤ (c : Int) := by omega
  obtain ⟨g, o, rfl, d0⟩ := EK.cell h2 (i := i) (x := y0.1) (by rw [List.getElem?_map, ht.at_]; rfl)
  have hbq2 : Bq W2 b (63, .agg #[.slice (some ⟨g, o, none⟩) m c, .string s, .int .i64 (kl : Int)]) k := hbq.keep (Keep.of (F := fun _ => False) hB2) id id
  have HS : Hid (∀ W', Below W2.heap.size W2 W' → W'.cell? ⟨W.heap.size + 1, 0, none⟩ = some (.slice (some ⟨g, o, none⟩) m c) ∧ W'.cell? ⟨W.heap.size + 1, 1, none⟩ = some (.string s) ∧ W'.cell? ⟨W.heap.size + 1, 2, none⟩ = some (.int .i64 (kl : Int)) ∧ W'.cell? ⟨b + 1, 0, none⟩ = some (.string k)) := fun W' k' => ⟨(bN.below k').cell 0, (bN.below k').cell 1, (bN.below k').cell 2, (hbq2.k.below k').cell 0⟩
  have hS0 := HS.out W2.drew (Below.refl _ _).drew
  have HB2 : Hid _ := hB2
  have HY : Hid _ := hY
  have HJ : Hid _ := hJ
  have HJx : Hid _ := hJx
  have HJs : Hid _ := hJs
  have H0 : Hid _ := h0
  have HO : Hid _ := hO
  have HIH : Hid (All47 h) := ih
  have HL : Hid (LV EK w0 (.slice (some ⟨g, o, none⟩) m c) (ks.map (·.1))) := h2
  have HK6 : Hid (Kids w0 h ks) := h6
  have HSrt : Hid (Srt (flat ks)) := hs
  have HAg2 : Hid (Ag w0 W2) := hag2
  have HBY : Hid (Blk W2 W.heap.size [.func (.yield l) #[] #[]] 93) := bY
  have HBq2 : Hid (Bq W2 b (63, .agg #[.slice (some ⟨g, o, none⟩) m c, .string s, .int .i64 (kl : Int)]) k) := hbq2
  have HGF : Hid _ := hgf
  have HKL : Hid ((flat ks).length = kl) := hk0
  have HKS : Hid (ks.length = m) := h3
  have HSZ2 : Hid _ := hsz2
  clear hY hJ hJx hJs h0 hO ih h2 h6 hs hag2 bY bN hbq2 hgf hk0 h3 hag hbq hp hk2 ht d0 c1 hB2 hs0 hsz2
  go_region_held3 (fun W' => W'.cell? ⟨W.heap.size + 1, 0, none⟩ = some (.slice (some ⟨g, o, none⟩) m c) ∧ W'.cell? ⟨W.heap.size + 1, 1, none⟩ = some (.string s) ∧ W'.cell? ⟨W.heap.size + 1, 2, none⟩ = some (.int .i64 (kl : Int)) ∧ W'.cell? ⟨b + 1, 0, none⟩ = some (.string k)) (first | exact hS0 | exact HS.out _ HBa.out) (first
    | (go_at_call 34; (with_reducible refine k49.mono ?_); rintro e w1 ⟨rfl, hB1⟩; have HBa : Hid (Below W2.heap.size W2 w1) := bmore (Below.refl _ _).drew hB1; clear hB1 k49))
  go_wp2_with fail
  have HLoop : Hid (LI W w1 O J [] (m - i) 0 O [] w1) := ⟨Nat.zero_le _, rfl, HJ.out _ _ _ _ H0.out (Keep.of (bmore HB2.out HBa.out)), Grew.refl _ _, Keep.refl _ _, by simp, List.nodup_nil, (bmore HB2.out HBa.out).size⟩
  refine (wpIn_wide (n := 0)).1 (wpIn_loop (fun a' wr => ∃ (j : Nat) (q : Int) (O1 : Nat → Prop) (Ds : List Nat) (u11 u12 u47 u48 u49 u50 u51 u52 u53 u54 u55 u56 u57 u58 : Value), a' = { tmps := #[.func (.yield l) #[] #[], .pointer (some ⟨b, 0, none⟩), .pointer (some ⟨b + 1, 0, none⟩), .pointer (some ⟨W.heap.size, 0, none⟩), undef, undef, undef, undef, undef, .pointer (some ⟨W.heap.size + 1, 0, none⟩), undef, u11, u12, .iface 63 (.agg #[.slice (some ⟨g, o, none⟩) m c, .string s, .int .i64 (kl : Int)]), .tuple #[.slice none 0 0, .bool false], .bool false, .slice none 0 0, undef, undef, undef, undef, undef, undef, undef, undef, undef, undef, undef, undef, undef, undef, undef, undef, undef, undef, undef, .tuple #[.agg #[.slice (some ⟨g, o, none⟩) m c, .string s, .int .i64 (kl : Int)], .bool true], .bool true, .agg #[.slice (some ⟨g, o, none⟩) m c, .string s, .int .i64 (kl : Int)], .pointer (some ⟨W.heap.size + 1, 0, none⟩), .slice (some ⟨g, o, none⟩) m c, .agg #[.slice (some ⟨g, o, none⟩) m c, .string s, .int .i64 (kl : Int)], .string k, .int .i64 (i : Int), .slice (some ⟨g, o + i, none⟩) (m - i) (c - i), .int .i64 ((m - i : Nat) : Int), .int .i64 q, u47, u48, u49, u50, u51, u52, u53, u54, u55, u56, u57, u58], defers := Ds.map mark } ∧ q = (j : Int) ∧ LI W w1 O J (((ks.drop i).take j).map (fun y => ge y.2 k)).flatten (m - i) j O1 Ds wr) (fun a' _ => m - i - a'.defers.length) ?start ?round)
  case start => exact ⟨0, _, O, [], undef, undef, undef, undef, undef, undef, undef, undef, undef, undef, undef, undef, undef, undef, rfl, rfl, HLoop.out⟩
  case round =>
    rintro a' wr ⟨j, q, O1, Ds, u11, u12, u47, u48, u49, u50, u51, u52, u53, u54, u55, u56, u57, u58, rfl, rfl, hI⟩
    have HI : Hid _ := hI
    have hjm := hI.le
    have kO1 : Keep O W2 wr := (Keep.of (F := O) HBa.out).trans hI.keep (fun _ _ h => h)
    have nO1 : ∀ q, q < w1.heap.size → ¬ O q → ¬ O1 q := fun q hq hn h => (hI.grew q h).elim hn (fun h => by omega)
    have hs1 : W.heap.size + 2 ≤ w1.heap.size := by have := HBa.out.size; have := HSZ2.out; omega
    have HR : Hid (∀ W', Keep O1 wr W' → Ag w0 W' ∧ W'.cell? ⟨b + 1, 0, none⟩ = some (.string k) ∧ Blk W' W.heap.size [.func (.yield l) #[] #[]] 93) := fun W' k' => by
      have kk : ∀ q, q < W2.heap.size → ¬ O q → W'.heap[q]? = W2.heap[q]? := fun q hq hn => by
        have := HBa.out.size
        exact (k'.block q (by have := kO1.size; omega) (nO1 q (by omega) hn)).trans (kO1.block q hq hn)
      have hsz := HSZ2.out
      refine ⟨⟨?_, fun q hq => ?_⟩, ?_, ?_⟩
      · have := k'.size; have := kO1.size; have := HAg2.out.size; omega
      · have := HAg2.out.size
        exact (kk q (by omega) (nO q hq)).trans (HAg2.out.block q hq)
      · have := HBq2.out.k.block (kk (b + 1) (by omega) nb1)
        exact this.cell 0
      · exact HBY.out.block (kk W.heap.size (by omega) (nY _ (Nat.le_refl _)))
    obtain ⟨hag, cK, -⟩ := HR.out wr (Keep.refl _ _)
    refine wpIn_wide.2 ?_
    by_cases hjn : j < m - i
    · have hji : (j : Int) < ((m - i : Nat) : Int) := by omega
      have hj0 : (0 : Int) ≤ (j : Int) := by omega
      obtain ⟨y, hy⟩ : ∃ y, ks[i + j]? = some y := ⟨_, List.getElem?_eq_getElem (by rw [HKS.out]; omega)⟩
      obtain ⟨g', o', hgo, d0⟩ := EK.cell (hag.lv HL.out) (i := i + j) (x := y.1) (by rw [List.getElem?_map, hy]; rfl)
      cases hgo
      rw [← Nat.add_assoc] at d0
      have hym := List.mem_of_getElem? hy
      obtain ⟨my, y1, y2, y3⟩ := HK6.out y hym
      have HTk : Hid ((((ks.drop i).take (j + 1)).map (fun y => ge y.2 k)).flatten = (((ks.drop i).take j).map (fun y => ge y.2 k)).flatten ++ ge y.2 k) := by
        show _ = _
        rw [List.take_add_one, List.getElem?_drop, hy, List.map_append, List.flatten_append]
        simp
      have HPre : Hid ((((ks.drop i).take (j + 1)).map (fun y => ge y.2 k)).flatten <+: ge (flat ks) k) := by
        have e : ((ks.drop i).map fun y => ge y.2 k).flatten = (((ks.drop i).take (j + 1)).map (fun y => ge y.2 k)).flatten ++ (((ks.drop i).drop (j + 1)).map (fun y => ge y.2 k)).flatten := by rw [← List.flatten_append, ← List.map_append, List.take_append_drop]
        rw [HGF.out, e]
        exact List.prefix_append _ _
      have Hy3 : Hid (Part w0 h my y.1 y.2) := y3
      have HySrt : Hid (Srt y.2) := kid_srt HSrt.out hym
      have HyL : Hid (y.2.length ≤ 800) := by
        show _ ≤ _
        have : y.2.length ≤ (flat ks).length := by rw [flat_cut hy]; simp; omega
        have := HKL.out
        omega
      generalize hp1 : (((ks.drop i).take j).map (fun y => ge y.2 k)).flatten = pre1 at *
      clear hy hym y3 hag hI
      go_wp2_with (go_at_call 19; (with_reducible refine (pairs34 y.1 k wr).mono ?_); rintro e w3 ⟨rfl, rfl⟩)
      have hB3 : Below wr.heap.size wr ((wr.alloc (.cells #[.iface y.1.1 y.1.2] 49)).alloc (.cells #[.string k] 9)) := bal (al _ _) _
      have hbq3 := bq_new y.1 k wr
      have hs3 : ((wr.alloc (.cells #[.iface y.1.1 y.1.2] 49)).alloc (.cells #[.string k] 9)).heap.size = wr.heap.size + 2 := by simp
      generalize (wr.alloc (.cells #[.iface y.1.1 y.1.2] 49)).alloc (.cells #[.string k] 9) = W3 at *
      obtain ⟨B3, hB3e⟩ : ∃ B3, wr.heap.size = B3 := ⟨_, rfl⟩
      have HB3e : Hid (wr.heap.size = B3) := hB3e
      rw [hB3e] at hbq3 ⊢
      have HB3 : Hid _ := hB3
      have HBq3 : Hid _ := hbq3
      have HS3 : Hid _ := hs3
      clear hB3 hbq3 hs3 hB3e
      have hwr : w1.heap.size ≤ wr.heap.size := HI.out.keep.size
      have hw0 : w0.heap.size ≤ W2.heap.size := HAg2.out.size
      have hw01 : W2.heap.size ≤ w1.heap.size := HBa.out.size
      have hO1lt : ∀ q, O1 q → q < wr.heap.size := HJs.out _ _ _ HI.out.j
      have hO1w : ∀ q, O1 q → w0.heap.size ≤ q := fun q hq => by
        rcases Nat.lt_or_ge q w0.heap.size with h | h
        · exact absurd hq (nO1 q (by omega) (nO q h))
        · exact h
      have k3 : Keep O1 wr W3 := Keep.of HB3.out
      have hWW3 : W.heap.size ≤ W3.heap.size := by have := HB3.out.size; omega
      have hws : w0.heap.size ≤ wr.heap.size := by omega
      refine wpIn_wide.1 (wpIn_range (a := { tmps := #[.func (.yield l) #[] #[], .pointer (some ⟨b, 0, none⟩), .pointer (some ⟨b + 1, 0, none⟩), .pointer (some ⟨W.heap.size, 0, none⟩), undef, undef, undef, undef, undef, .pointer (some ⟨W.heap.size + 1, 0, none⟩), undef, .iface y.1.1 y.1.2, u12, .iface 63 (.agg #[.slice (some ⟨g, o, none⟩) m c, .string s, .int .i64 (kl : Int)]), .tuple #[.slice none 0 0, .bool false], .bool false, .slice none 0 0, undef, undef, undef, undef, undef, undef, undef, undef, undef, undef, undef, undef, undef, undef, undef, undef, undef, undef, undef, .tuple #[.agg #[.slice (some ⟨g, o, none⟩) m c, .string s, .int .i64 (kl : Int)], .bool true], .bool true, .agg #[.slice (some ⟨g, o, none⟩) m c, .string s, .int .i64 (kl : Int)], .pointer (some ⟨W.heap.size + 1, 0, none⟩), .slice (some ⟨g, o, none⟩) m c, .agg #[.slice (some ⟨g, o, none⟩) m c, .string s, .int .i64 (kl : Int)], .string k, .int .i64 (i : Int), .slice (some ⟨g, o + i, none⟩) (m - i) (c - i), .int .i64 ((m - i : Nat) : Int), .int .i64 (j : Int), .bool true, .pointer (some ⟨g, o + i + j, none⟩), .iface y.1.1 y.1.2, .iface y.1.1 y.1.2, .string k, .func (.func 38) #[] #[.pointer (some ⟨B3, 0, none⟩), .pointer (some ⟨B3 + 1, 0, none⟩)], u53, u54, u55, u56, u57, u58], defers := Ds.map mark }) (gf := 38) (lb := #[.pointer (some ⟨B3, 0, none⟩), .pointer (some ⟨B3 + 1, 0, none⟩)]) rfl eg47 rfl (enc := prV) (xs := ge y.2 k) (G := Gq w0.heap.size B3)
        (fun W' k' => HIH.out W' w0 my y.1 y.2 B3 k Hy3.out HySrt.out HyL.out ((HR.out W3 k3).1.keep (O := fun _ => False) (Keep.of k') (fun _ _ => id)) (by have := HB3e.out; omega) (Bq.keep (O := fun _ => False) HBq3.out (Keep.of k') id id)) (fun q hq => by have := HB3e.out; have := HS3.out; unfold Gq at hq; omega)
        (Iin J O1 W3 pre1) (fun c O' q W' => c = .ret ∧ Iin Jx O1 W3 pre1 O' q W') (fun O' q W' h => HJs.out _ _ _ h.1) (Iin.abide HJ.out hWW3) (fun c => fun O' q W1 W2 h k => ⟨h.1, Iin.abide HJx.out hWW3 _ _ _ _ h.2 k⟩)
        O1 (fun q hq => by have := hO1lt q hq; have := hO1w q hq; have := HB3e.out; have := HS3.out; unfold Gq; omega) ⟨by rw [List.append_nil]; exact HJ.out _ _ _ _ HI.out.j (Keep.of HB3.out), Grew.refl _ _, Keep.refl _ _⟩ (fun p blk => { tmps := #[.func (.yield l) #[] #[], .pointer (some ⟨b, 0, none⟩), .pointer (some ⟨b + 1, 0, none⟩), .pointer (some ⟨W.heap.size, 0, none⟩), undef, undef, undef, undef, undef, .pointer (some ⟨W.heap.size + 1, 0, none⟩), undef, .iface y.1.1 y.1.2, .pointer (some ⟨blk, 0, none⟩), .iface 63 (.agg #[.slice (some ⟨g, o, none⟩) m c, .string s, .int .i64 (kl : Int)]), .tuple #[.slice none 0 0, .bool false], .bool false, .slice none 0 0, undef, undef, undef, undef, undef, undef, undef, undef, undef, undef, undef, undef, undef, undef, undef, undef, undef, undef, undef, .tuple #[.agg #[.slice (some ⟨g, o, none⟩) m c, .string s, .int .i64 (kl : Int)], .bool true], .bool true, .agg #[.slice (some ⟨g, o, none⟩) m c, .string s, .int .i64 (kl : Int)], .pointer (some ⟨W.heap.size + 1, 0, none⟩), .slice (some ⟨g, o, none⟩) m c, .agg #[.slice (some ⟨g, o, none⟩) m c, .string s, .int .i64 (kl : Int)], .string k, .int .i64 (i : Int), .slice (some ⟨g, o + i, none⟩) (m - i) (c - i), .int .i64 ((m - i : Nat) : Int), .int .i64 (j : Int), .bool true, .pointer (some ⟨g, o + i + j, none⟩), .iface y.1.1 y.1.2, .iface y.1.1 y.1.2, .string k, .func (.func 38) #[] #[.pointer (some ⟨B3, 0, none⟩), .pointer (some ⟨B3 + 1, 0, none⟩)], prV p, u54, u55, u56, u57, u58], defers := [] }) (fun p => [.string p.1, .string p.2]) 42 ?assign ?body ?done ?stop)
      case assign =>
        intro l' x' W' K hK
        gi_wp2
        exact hK
      case body =>
        intro l' O' pre x W' blk hI2 hnb hle hsz hblk hpre
        obtain ⟨hj, hgr, hk⟩ := hI2
        have hYb : Blk W' W.heap.size [.func (.yield l) #[] #[]] 93 := (HR.out W' (k3.trans hk (fun _ _ h => h))).2.2
        have y1' := hYb.cell 0
        have hbl2 : Blk W' blk [.string x.1, .string x.2] 42 := hblk
        have z0 := hbl2.cell 0
        have z1 := hbl2.cell 1
        simp only [List.getElem?_cons_zero, List.getElem?_cons_succ] at y1' z0 z1
        have hpp : pre1 ++ pre ++ [x] <+: ge (flat ks) k := by
          refine List.IsPrefix.trans ?_ HPre.out
          rw [HTk.out, List.append_assoc]
          exact List.prefix_append_right_inj _ |>.2 hpre
        obtain ⟨fn, tmps, assign, body, hy, hRn⟩ := HY.out O' (pre1 ++ pre) x W' hj hpp
        have HG : Hid _ := hgr
        have HKp : Hid _ := hk
        clear hgr hk hbl2 hblk hj hpre hYb hpp
        gi_wp2
        replace hRn : RoundIn (Fence.wide.inRound l') 0 Tryd.prog l fn tmps assign body W' _ := hRn
        refine ⟨rfl, hRn.mono ?_⟩
        rintro e W'' (⟨rfl, O2, h1, h2, h3⟩ | ⟨rfl, O2, h1, h2, h3⟩)
        · gi_wp2
          exact ⟨O2, ⟨by rw [← List.append_assoc]; exact h1, Grew.trans (show Grew O1 O' W3 from HG.out) h2 HKp.out.size, HKp.out.trans h3 (fun k hk ho => (HG.out k ho).elim id (fun h => by omega))⟩, h2, h3⟩
        · gi_wp2
          exact ⟨O2, ⟨rfl, by rw [← List.append_assoc]; exact h1, Grew.trans (show Grew O1 O' W3 from HG.out) h2 HKp.out.size, HKp.out.trans h3 (fun k hk ho => (HG.out k ho).elim id (fun h => by omega))⟩, h2, h3⟩
      case stop =>
        rintro D c' O' pre W' hD nD hpre ⟨rfl, hx, hgx, hkx⟩ hgr hk hd
        have hfin := LI.next HI.out k3 hgr hk (by have := HB3.out.size; omega) HB3.out.size nD hd
        refine wpIn_wide.2 ?_
        go_wp2
        refine leave_marks (v := .tuple #[]) (D :: Ds) _ (fun w' k' => ?_) hfin.2.2.2 hfin.2.2.1
        have hkw : Keep O W w' := ((Keep.of (F := O) (bmore HB2.out HBa.out)).trans hfin.2.1 (fun _ _ h => h)).trans k' (fun q hq h => by have := hfin.1.2 q h; have := HB2.out.size; omega)
        exact ⟨results_none rfl _ _ _, ⟨_, rfl⟩, .inr ⟨pre1 ++ pre, O', by refine List.IsPrefix.trans ?_ HPre.out; rw [HTk.out]; exact List.prefix_append_right_inj _ |>.2 hpre, HJx.out _ _ _ _ hx (k'.mono fun q _ h => ⟨(hfin.1.1 q h), by have := hfin.1.2 q h; have := HB2.out.size; omega⟩), fun q hq => (LI.grew2 HI.out hgr (by have := HB3.out.size; omega) q hq).elim .inl (fun h => .inr (by have := HB2.out.size; omega)), hkw⟩⟩
      case done =>
        rintro D O4 W4 hD nD ⟨hj, hg4, hk4⟩ hgr hk hd
        have hfin := LI.next HI.out k3 hgr hk (by have := HB3.out.size; omega) HB3.out.size nD hd
        have HN : Hid (LI W w1 O J (((ks.drop i).take (j + 1)).map (fun y => ge y.2 k)).flatten (m - i) (j + 1) O4 (D :: Ds) W4) := ⟨by omega, by rw [List.length_cons, HI.out.len], by rw [HTk.out]; exact hj, LI.grew2 HI.out hgr (by have := HB3.out.size; omega), hfin.2.1, fun q hq => ⟨hfin.1.2 q hq, hfin.1.1 q hq, hfin.2.2.2 q hq⟩, hfin.2.2.1, HI.out.base⟩
        clear hfin hj hg4 hk4 hgr hk hd
        have HW : Hid (wrap64 ((j : Int) + 1) = ((j + 1 : Nat) : Int)) := by show _ = _; rw [IntWalk.wrap64_in _ (by have := HKS.out; omega)]; rfl
        have HM : Hid (m - i - (mark D :: Ds.map mark).length < m - i - (Ds.map mark).length) := by show _ < _; rw [List.length_cons, List.length_map, HI.out.len]; omega
        go_wp2_with fail
        refine ⟨⟨j + 1, _, O4, D :: Ds, _, _, _, _, _, _, _, _, _, _, _, _, _, _, rfl, HW.out, HN.out⟩, ?_⟩
        exact HM.out
    · have hji : ¬ (j : Int) < ((m - i : Nat) : Int) := by omega
      obtain rfl : j = m - i := by omega
      have HAll : Hid ((((ks.drop i).take (m - i)).map (fun y => ge y.2 k)).flatten = ge (flat ks) k) := by show _ = _; rw [HGF.out, List.take_of_length_le (by rw [List.length_drop, HKS.out]; omega)]
      go_wp2
      refine leave_marks (v := .tuple #[]) Ds _ (fun w' k' => ?_) (fun D hD => (HI.out.ds D hD).2.2) HI.out.nodup
      have hkw : Keep O W w' := ((Keep.of (F := O) (bmore HB2.out HBa.out)).trans HI.out.keep (fun _ _ h => h)).trans k' (fun q hq h => by have := (HI.out.ds q h).1; have := HI.out.base; omega)
      exact ⟨results_none rfl _ _ _, ⟨_, rfl⟩, .inl ⟨O1, by rw [← HAll.out]; exact HJ.out _ _ _ _ HI.out.j (k'.mono fun q _ h => ⟨(HI.out.ds q h).2.1, by have := (HI.out.ds q h).1; have := HI.out.base; omega⟩), fun q hq => (HI.out.grew q hq).elim .inl (fun h => .inr (by have := HI.out.base; omega)), hkw⟩⟩
theorem all47 : ∀ h, All47 h
  | 0 => all47_leaf
  | h + 1 => all47_inner (all47 h)
end Go.Proofs.YthfkmedpcmiibaaDoor.T
