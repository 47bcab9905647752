/- What meeting yields. -/
import Derived.Test.YtgglhicpfjihlaaMl
import Derived.Test.YtgglhicpfjihlaaMn
import Derived.Test.YtgglhicpfjihlaaR5
namespace Go.Proofs.Ytgglhicpfjihlaa
open Go.RowKit Go.Shelf
set_option maxRecDepth 100000
attribute [local go_sem] Oper.semAt_some

set_option maxHeartbeats 1000000 in
theorem runs56_node {f l : Int} {L R : T} {s : St} {W : World} {p : Option Addr} {n b : Nat} (ht : PT n W p (.node L s R)) (hn : n ≤ b) (hbx : Bx W b p f l) (hrc : ¬ (T.node L s R).rc ≤ f)
    (ihl : All56 f l L) (ihr : All56 f l R)
    (ll : Nat) (O : Nat → Prop) (J Jx : (Nat → Prop) → List St → World → Prop) (hO : ∀ k, O k → ¬ Gm n b k ∧ k < W.heap.size) (hJs : ∀ O pre W, J O pre W → ∀ b, O b → b < W.heap.size) (hJ : Abide W.heap.size J) (hJx : Abide W.heap.size Jx)
    (xs : List St) (hxs : xs = (T.node L s R).meets f l)
    (hY : ∀ O pre x W1, J O pre W1 → pre ++ [x] <+: xs → YieldAt Fence.wide 0 Try.prog ll #[SV x] W1 (Rnd J Jx O (pre ++ [x]) W1)) (h0 : J O [] W) :
    CallsIn Fence.wide 0 Try.prog 56 #[.func (.yield ll) #[] #[], .pointer (some ⟨b, 0, none⟩), .pointer (some ⟨b + 1, 0, none⟩), .pointer (some ⟨b + 1 + 1, 0, none⟩)] W (Ans J Jx O xs W) := by
  obtain ⟨g, pl, pr, rfl, hg, hgb, hL, hR⟩ := ht
  have hbs := hbx.b2.lt
  have hms : xs = L.meets f l ++ (if s.f > l then [] else (if s.t > f then [s] else []) ++ R.meets f l) := by rw [hxs, T.meets, if_neg hrc]
  have nG : ∀ k, Gm n b k → ¬ O k := fun k h o => (hO k o).1 h
  have ng : ¬ O g := nG g (.inl hg)
  have nb0 : ¬ O b := nG b (.inr (.inl rfl))
  have nb1 : ¬ O (b + 1) := nG (b + 1) (.inr (.inr (.inl rfl)))
  have nb2 : ¬ O (b + 1 + 1) := nG (b + 1 + 1) (.inr (.inr (.inr rfl)))
  have nY : ¬ O W.heap.size := fun h => by have := (hO _ h).2; omega
  -- what is read, in every world that keeps all but O's
  have HK : Hid (∀ W', Keep O W W' → (W'.cell? ⟨b, 0, none⟩ = some (.pointer (some ⟨g, 0, none⟩)) ∧ W'.cell? ⟨b + 1, 0, none⟩ = some (.int .i64 f) ∧ W'.cell? ⟨b + 1 + 1, 0, none⟩ = some (.int .i64 l)) ∧ (W'.cell? ⟨g, 0, none⟩ = some (.int .i64 s.f) ∧ W'.cell? ⟨g, 1, none⟩ = some (.int .i64 s.t) ∧ W'.cell? ⟨g, 2, none⟩ = some (.int .i64 s.i) ∧ W'.cell? ⟨g, 3, none⟩ = some (.pointer pl) ∧ W'.cell? ⟨g, 4, none⟩ = some (.pointer pr))) := fun W' k =>
    ⟨⟨(hbx.b0.keep k nb0).cell 0, (hbx.b1.keep k nb1).cell 0, (hbx.b2.keep k nb2).cell 0⟩, node_cells (hgb.keep k ng)⟩
  have HP : Hid (∀ W', Keep O W W' → PT n W' pl L ∧ PT n W' pr R) := fun W' k => ⟨hL.keep k (fun j hj => nG j (.inl hj)), hR.keep k (fun j hj => nG j (.inl hj))⟩
  have ht0 : PT n W (some ⟨g, 0, none⟩) (.node L s R) := ⟨g, pl, pr, rfl, hg, hgb, hL, hR⟩
  have K0 : Below W.heap.size W (W.alloc (.cells #[.func (.yield ll) #[] #[]] 71)).drew := (al _ _).drew
  have KY : Blk (W.alloc (.cells #[.func (.yield ll) #[] #[]] 71)).drew W.heap.size [.func (.yield ll) #[] #[]] 71 := blk_new W _ _
  have SZ : (W.alloc (.cells #[.func (.yield ll) #[] #[]] 71)).drew.heap.size = W.heap.size + 1 := by simp
  have k53 := end_at ht0 (by omega) _ K0
  obtain ⟨⟨c0, c1, c2⟩, d0, d1, d2, d3, d4⟩ := HK.out _ (Keep.of K0)
  have hS0 : (W.alloc (.cells #[.func (.yield ll) #[] #[]] 71)).drew.cell? ⟨b, 0, none⟩ = some (.pointer (some ⟨g, 0, none⟩)) ∧ (W.alloc (.cells #[.func (.yield ll) #[] #[]] 71)).drew.cell? ⟨b + 1, 0, none⟩ = some (.int .i64 f) := ⟨c0, c1⟩
  generalize (T.node L s R).rc = z at *
  have HJ : Hid _ := hJ
  have HJx : Hid _ := hJx
  have HJs : Hid _ := hJs
  have HY : Hid _ := hY
  have H0 : Hid _ := h0
  have HO : Hid _ := hO
  have HM : Hid _ := hms
  have HKY : Hid _ := KY
  have HSZ : Hid _ := SZ
  have HHn : Hid (n ≤ b ∧ b + 1 + 1 < W.heap.size) := ⟨hn, hbs⟩
  have HIL : Hid _ := ihl
  have HIR : Hid _ := ihr
  clear hJ hJx hJs hY h0 hO hms hxs ht0 hL hR hgb hbx nG KY hbs hn ihl ihr SZ c0 c1 c2 d0 d1 d2 d3 d4
  refine callsIn_of_wp_marks Try.func56 rfl trivial (wpIn_wide.2 ?_) rfl
  simp only [Try.ntmps56, List.size_toArray, List.length_cons, List.length_nil, Nat.reduceAdd, Nat.reduceSub, Array.replicate_succ, Array.replicate_zero, List.push_toArray, List.append_toArray, List.nil_append, List.cons_append]
  go_wp2_with fail
  go_region_held3 (fun W' => W'.cell? ⟨b, 0, none⟩ = some (.pointer (some ⟨g, 0, none⟩)) ∧ W'.cell? ⟨b + 1, 0, none⟩ = some (.int .i64 f)) (exact hS0) (first
    | (go_at_call 53; (with_reducible refine k53.mono ?_); rintro e w1 ⟨rfl, rfl⟩))
  go_wp2_with fail
  clear hS0 k53
  generalize (W.alloc (.cells #[.func (.yield ll) #[] #[]] 71)).drew = W2 at *
  have K1 : Below W.heap.size W W2.drew := K0.drew
  obtain ⟨hb3, hB3, hs3⟩ := m3 pl f l W2
  have HKK : Hid (Below W.heap.size W (((W2.alloc (.cells #[.pointer pl] 56)).alloc (.cells #[.int .i64 f] 3)).alloc (.cells #[.int .i64 l] 3)).drew) := bmore K0 hB3
  obtain ⟨⟨c0, c1, c2⟩, d0, d1, d2, d3, d4⟩ := HK.out _ (Keep.of K1)
  have hS1 : W2.drew.cell? ⟨b, 0, none⟩ = some (.pointer (some ⟨g, 0, none⟩)) ∧ W2.drew.cell? ⟨b + 1, 0, none⟩ = some (.int .i64 f) ∧ W2.drew.cell? ⟨b + 1 + 1, 0, none⟩ = some (.int .i64 l) ∧ W2.drew.cell? ⟨g, 3, none⟩ = some (.pointer pl) := ⟨c0, c1, c2, d3⟩
  have hS2 : (((W2.alloc (.cells #[.pointer pl] 56)).alloc (.cells #[.int .i64 f] 3)).alloc (.cells #[.int .i64 l] 3)).drew.cell? ⟨b, 0, none⟩ = some (.pointer (some ⟨g, 0, none⟩)) ∧ (((W2.alloc (.cells #[.pointer pl] 56)).alloc (.cells #[.int .i64 f] 3)).alloc (.cells #[.int .i64 l] 3)).drew.cell? ⟨b + 1, 0, none⟩ = some (.int .i64 f) ∧ (((W2.alloc (.cells #[.pointer pl] 56)).alloc (.cells #[.int .i64 f] 3)).alloc (.cells #[.int .i64 l] 3)).drew.cell? ⟨b + 1 + 1, 0, none⟩ = some (.int .i64 l) ∧ (((W2.alloc (.cells #[.pointer pl] 56)).alloc (.cells #[.int .i64 f] 3)).alloc (.cells #[.int .i64 l] 3)).drew.cell? ⟨g, 3, none⟩ = some (.pointer pl) := by
    obtain ⟨⟨c0, c1, c2⟩, d0, d1, d2, d3, d4⟩ := HK.out _ (Keep.of HKK.out)
    exact ⟨c0, c1, c2, d3⟩
  clear c0 c1 c2 d0 d1 d2 d3 d4
  go_region_held3 (fun W' => W'.cell? ⟨b, 0, none⟩ = some (.pointer (some ⟨g, 0, none⟩)) ∧ W'.cell? ⟨b + 1, 0, none⟩ = some (.int .i64 f) ∧ W'.cell? ⟨b + 1 + 1, 0, none⟩ = some (.int .i64 l) ∧ W'.cell? ⟨g, 3, none⟩ = some (.pointer pl)) (first | exact hS1 | exact hS2) (first
    | (go_at_call 50; (with_reducible refine (meeting50 _ _ _ _).mono ?_); rintro e w1 ⟨rfl, rfl⟩))
  go_wp2_with fail
  have hky : Blk W2 W.heap.size [.func (.yield ll) #[] #[]] 71 := HKY.out
  have HY3 : Hid (Blk (((W2.alloc (.cells #[.pointer pl] 56)).alloc (.cells #[.int .i64 f] 3)).alloc (.cells #[.int .i64 l] 3)).drew W.heap.size [.func (.yield ll) #[] #[]] 71) := hky.below hB3
  have hs2 : W2.heap.size = W.heap.size + 1 := HSZ.out
  have HS2 : Hid _ := hs2
  have HS3 : Hid _ := hs3
  clear hS1 hS2 hky HKY HSZ hs2 hs3
  generalize (((W2.alloc (.cells #[.pointer pl] 56)).alloc (.cells #[.int .i64 f] 3)).alloc (.cells #[.int .i64 l] 3)).drew = W3 at *
  generalize W2.heap.size = B3 at *
  obtain ⟨hn1, hn2⟩ := HHn.out
  have hO3 : ∀ k, O k → ¬ Gm n B3 k ∧ k < W3.heap.size := fun k h => by
    have h1 := HO.out k h
    have h2 := HS2.out
    have h3 := HS3.out
    unfold Gm at h1 ⊢
    omega
  have KW3 : Keep O W W3 := Keep.of HKK.out
  have hsW : W.heap.size ≤ W3.heap.size := HKK.out.size
  have HB3x : Hid _ := hb3
  refine wpIn_wide.1 (wpIn_range (a := { tmps := #[.func (.yield ll) #[] #[], .pointer (some ⟨b, 0, none⟩), .pointer (some ⟨b + 1, 0, none⟩), .pointer (some ⟨b + 1 + 1, 0, none⟩), .pointer (some ⟨W.heap.size, 0, none⟩), undef, undef, .pointer (some ⟨g, 0, none⟩), .int .i64 z, .int .i64 f, .bool (decide (z ≤ f)), .pointer (some ⟨g, 0, none⟩), .pointer (some ⟨g, 0, none⟩), .pointer (some ⟨g, 3, none⟩), .pointer pl, .int .i64 f, .int .i64 l, .func (.func 56) #[] #[.pointer (some ⟨B3, 0, none⟩), .pointer (some ⟨B3 + 1, 0, none⟩), .pointer (some ⟨B3 + 1 + 1, 0, none⟩)], undef, undef, undef, undef, undef, undef, undef, undef, undef, undef, undef, undef, undef, undef, undef, undef, undef, undef, undef, undef, undef, undef, undef, undef, undef, undef, undef, undef, undef, undef, undef, undef, undef, undef, undef, undef, undef, undef, undef, undef, undef, undef, undef, undef], defers := [] }) (gf := 56) (lb := #[.pointer (some ⟨B3, 0, none⟩), .pointer (some ⟨B3 + 1, 0, none⟩), .pointer (some ⟨B3 + 1 + 1, 0, none⟩)]) rfl eg56 rfl (enc := SV) (xs := L.meets f l) (G := Gm n B3)
    (fun W' k => HIL.out W' pl n B3 ((HP.out _ KW3).1.keep (O := fun _ => False) (Keep.of k) (fun _ _ => id)) (by have := HS2.out; omega) (HB3x.out.keep (O := fun _ => False) (Keep.of k) id id id)) (fun k h => by have := HS2.out; have := HS3.out; unfold Gm at h; omega)
    (Iin J O W3 []) (fun c O' q W' => c = .ret ∧ Iin Jx O W3 [] O' q W') (fun O' q W' h => HJs.out _ _ _ h.1) (Iin.abide HJ.out hsW) (fun c => fun O' q W1 W2 h k => ⟨h.1, Iin.abide HJx.out hsW _ _ _ _ h.2 k⟩)
    O hO3 ⟨HJ.out _ _ _ _ H0.out (Keep.of HKK.out), Grew.refl _ _, Keep.refl _ _⟩ (fun x blk => { tmps := #[.func (.yield ll) #[] #[], .pointer (some ⟨b, 0, none⟩), .pointer (some ⟨b + 1, 0, none⟩), .pointer (some ⟨b + 1 + 1, 0, none⟩), .pointer (some ⟨W.heap.size, 0, none⟩), .pointer (some ⟨blk, 0, none⟩), undef, .pointer (some ⟨g, 0, none⟩), .int .i64 z, .int .i64 f, .bool (decide (z ≤ f)), .pointer (some ⟨g, 0, none⟩), .pointer (some ⟨g, 0, none⟩), .pointer (some ⟨g, 3, none⟩), .pointer pl, .int .i64 f, .int .i64 l, .func (.func 56) #[] #[.pointer (some ⟨B3, 0, none⟩), .pointer (some ⟨B3 + 1, 0, none⟩), .pointer (some ⟨B3 + 1 + 1, 0, none⟩)], SV x, undef, undef, undef, undef, undef, undef, undef, undef, undef, undef, undef, undef, undef, undef, undef, undef, undef, undef, undef, undef, undef, undef, undef, undef, undef, undef, undef, undef, undef, undef, undef, undef, undef, undef, undef, undef, undef, undef, undef, undef, undef, undef, undef], defers := [] }) csS 68 ?assign ?body ?done ?stop)
  case assign =>
    intro l' x W' K hK
    gi_wp2
    exact hK
  case body =>
    intro l' O' pre x W' blk hI hnb hle hsz hblk hpre
    obtain ⟨hj, hgr, hk⟩ := hI
    have y1 := (HY3.out.keep hk nY).cell 0
    have hbl : Blk W' blk (csS x) 68 := hblk
    have z0 := hbl.cell 0
    have z1 := hbl.cell 1
    have z2 := hbl.cell 2
    simp only [csS, List.getElem?_cons_zero, List.getElem?_cons_succ] at y1 z0 z1 z2
    obtain ⟨fn, tmps, assign, body, hy, hRn⟩ := HY.out O' pre x W' hj (hpre.trans (by rw [HM.out]; exact List.prefix_append _ _))
    have HG : Hid _ := hgr
    have HKp : Hid _ := hk
    clear hgr hk hbl hblk hj hpre
    gi_wp2
    replace hRn : RoundIn (Fence.wide.inRound l') 0 Try.prog ll fn tmps assign body W' _ := hRn
    refine ⟨rfl, hRn.mono ?_⟩
    rintro e W'' (⟨rfl, O2, h1, h2, h3⟩ | ⟨rfl, O2, h1, h2, h3⟩)
    · gi_wp2
      exact ⟨O2, ⟨h1, Grew.trans (show Grew O O' W3 from HG.out) h2 HKp.out.size, HKp.out.trans h3 (fun k hk ho => (HG.out k ho).elim id (fun h => by omega))⟩, h2, h3⟩
    · gi_wp2
      exact ⟨O2, ⟨rfl, h1, Grew.trans (show Grew O O' W3 from HG.out) h2 HKp.out.size, HKp.out.trans h3 (fun k hk ho => (HG.out k ho).elim id (fun h => by omega))⟩, h2, h3⟩
  case stop =>
    rintro D c O' pre W' hD nD hpre ⟨rfl, hx, hgx, hkx⟩ hgr hk hd
    refine wpIn_wide.2 ?_
    go_wp2
    refine leave_marks (v := .tuple #[]) [D] _ (fun w' k => ?_) (fun D' h => by simp at h; subst h; exact hd) (by simp)
    have hkw : Keep O W w' := (KW3.trans hk (fun _ _ h => h)).trans k (fun i hi h => by simp at h; omega)
    exact ⟨results_none rfl _ _ _, ⟨_, rfl⟩, .inr ⟨pre, O', hpre.trans (by rw [HM.out]; exact List.prefix_append _ _), HJx.out _ _ _ _ hx (k.mono fun i _ h => by simp at h; subst h; exact ⟨nD, by omega⟩), fun i hi => (hgr i hi).elim .inl (fun h => .inr (by omega)), hkw⟩⟩
  case done =>
    rintro D O4 W4 hD nD ⟨hj, hg4, hk4⟩ hgr hk hd
    have KW4 : Keep O W W4 := KW3.trans hk (fun _ _ h => h)
    have hWW : W.heap.size ≤ W4.heap.size := KW4.size
    have hj4 : J O4 (L.meets f l) W4 := hj
    have hgO : Grew O O4 W := fun i hi => (hgr i hi).elim .inl (fun h => .inr (by omega))
    have old : ∀ {k}, k < W.heap.size → ¬ O k → ¬ O4 k := fun hk hn h => (hgO _ h).elim hn (fun h => by omega)
    have hO4 : ∀ k, O4 k → n ≤ k ∧ k < W4.heap.size := fun k h => ⟨(hgO k h).elim (fun h => by have := (HO.out k h).1; unfold Gm at this; omega) (fun h => by omega), HJs.out _ _ _ hj4 k h⟩
    have dlt := (Array.getElem?_eq_some_iff.1 hd).1
    have hglt : g < W.heap.size := by omega
    -- what is read behind the loop
    have HC4 : Hid (∀ W', Keep O4 W4 W' → (W'.cell? ⟨b, 0, none⟩ = some (.pointer (some ⟨g, 0, none⟩)) ∧ W'.cell? ⟨b + 1, 0, none⟩ = some (.int .i64 f) ∧ W'.cell? ⟨b + 1 + 1, 0, none⟩ = some (.int .i64 l)) ∧ (W'.cell? ⟨g, 0, none⟩ = some (.int .i64 s.f) ∧ W'.cell? ⟨g, 1, none⟩ = some (.int .i64 s.t) ∧ W'.cell? ⟨g, 2, none⟩ = some (.int .i64 s.i) ∧ W'.cell? ⟨g, 4, none⟩ = some (.pointer pr)) ∧ Blk W' W.heap.size [.func (.yield ll) #[] #[]] 71) := fun W' k => by
      obtain ⟨⟨c0, c1, c2⟩, d0, d1, d2, d3, d4⟩ := HK.out _ KW4
      have hb4 : Blk W4 W.heap.size [.func (.yield ll) #[] #[]] 71 := HY3.out.keep hk nY
      have nY4 : ¬ O4 W.heap.size := fun h => (hgr _ h).elim nY (fun h => by have := HS3.out; have := HS2.out; omega)
      refine ⟨⟨(k.cell (by omega) (old (by omega) nb0)).trans c0, (k.cell (by omega) (old (by omega) nb1)).trans c1, (k.cell (by omega) (old (by omega) nb2)).trans c2⟩, ⟨(k.cell (by omega) (old (by omega) ng)).trans d0, (k.cell (by omega) (old (by omega) ng)).trans d1, (k.cell (by omega) (old (by omega) ng)).trans d2, (k.cell (by omega) (old (by omega) ng)).trans d4⟩, hb4.keep k nY4⟩
    have HJ4 : Hid _ := hj4
    have HD4 : Hid _ := hd
    have Hfin : Hid (∀ W5 O5, Keep O4 W4 W5 → Grew O4 O5 W4 → (∀ O' W', J O' xs W' → Grew O5 O' W5 → Keep (fun k => O5 k ∨ k = D) W5 W' → Ans J Jx O xs W (.returned (.tuple #[])) W') ∧ (∀ O' pre W', pre <+: xs → Jx O' pre W' → Grew O5 O' W5 → Keep (fun k => O5 k ∨ k = D) W5 W' → Ans J Jx O xs W (.returned (.tuple #[])) W')) := fun W5 O5 k5 g5 => by
      have g : ∀ {O' : Nat → Prop}, Grew O5 O' W5 → Grew O O' W := fun h i hi => (h i hi).elim (fun h => (g5 i h).elim (fun h => hgO i h) (fun h => .inr (by omega))) (fun h => .inr (by have := k5.size; omega))
      have kk : ∀ {W'}, Keep (fun k => O5 k ∨ k = D) W5 W' → Keep O W W' := fun h => ((KW4.trans k5 (fun i hi h => (hgO i h).elim id (fun h => by omega))).trans h (fun i hi h => h.elim (fun h => (g5 i h).elim (fun h => (hgO i h).elim id (fun h => by omega)) (fun h => by omega)) (fun h => by omega)))
      exact ⟨fun O' W' h1 h2 h3 => ⟨⟨_, rfl⟩, .inl ⟨O', h1, g h2, kk h3⟩⟩, fun O' pre W' h0 h1 h2 h3 => ⟨⟨_, rfl⟩, .inr ⟨pre, O', h0, h1, g h2, kk h3⟩⟩⟩
    have HPR : Hid (PT n W4 pr R) := (HP.out _ KW4).2
    have Hold : Hid (¬ O4 D ∧ W.heap.size ≤ D ∧ D < W4.heap.size ∧ n ≤ W4.heap.size) := ⟨nD, by omega, dlt, by omega⟩
    have HO4 : Hid _ := hO4
    have Hlt : Hid (W.heap.size < W4.heap.size ∧ W.heap.size ≤ W4.heap.size) := ⟨by have := HS3.out; have := HS2.out; have := hk.size; omega, hWW⟩
    have Hnb : Hid (¬ O4 b ∧ ¬ O4 (b + 1) ∧ ¬ O4 (b + 1 + 1)) := ⟨old (by omega) nb0, old (by omega) nb1, old (by omega) nb2⟩
    have HHn2 : Hid (n ≤ b ∧ b + 1 + 1 < W.heap.size) := HHn.out
    have HnY : Hid (¬ O4 W.heap.size) := fun h => (hgr _ h).elim nY (fun h => by have := HS3.out; have := HS2.out; omega)
    have HM2 := HM.out
    clear hD nD hj hg4 hk4 hgr hk hd KW4 hWW hj4 hgO hO4 dlt hglt HK HP HY3 HS2 HS3 hn1 hn2 hO3 KW3 hsW HB3x HIL HKK HHn H0 HO K0 K1
    have hc4 := HC4.out _ ((Keep.refl O4 W4).drew)
    obtain ⟨⟨c0, c1, c2⟩, ⟨d0, d1, d2, d4⟩, cY⟩ := hc4
    have cY0 := cY.cell 0
    simp only [List.getElem?_cons_zero] at cY0
    by_cases h1 : s.f > l
    · have HM3 : Hid (xs = L.meets f l) := by show _ = _; rw [HM2, if_pos h1, List.append_nil]
      clear HM2
      go_wp2_with fail
      refine reg5_no1 (st := s.t) h1 (fun W' e => by subst e; exact ⟨c0, c1, c2, d0, d1⟩) (fun nq => ?_)
      go_wp2_with fail
      have kq : Keep O4 W4 (W4.drewN nq) := Keep.of ⟨rfl, rfl, rfl, Nat.le_refl _, fun _ _ => rfl⟩
      refine leave_marks (v := .tuple #[]) [D] _ (fun w' k => ⟨results_none rfl _ _ _, (Hfin.out _ O4 kq (Grew.refl _ _)).1 O4 w' ?_ (Grew.refl _ _) (k.mono fun i _ h => .inr (by simpa using h))⟩) (fun D' h => by simp at h; subst h; exact HD4.out) (by simp)
      rw [HM3.out]
      exact HJ.out _ _ _ _ HJ4.out (Keep.trans (Keep.of ⟨rfl, rfl, rfl, Nat.le_refl _, fun _ _ => rfl⟩ : Keep (fun b => ¬ O4 b ∧ W.heap.size ≤ b) W4 (W4.drewN nq)) k (fun i _ h => by simp at h; subst h; exact ⟨Hold.out.1, Hold.out.2.1⟩))
    · by_cases h2 : s.t > f
      · have HM3 : Hid (L.meets f l ++ [s] ++ R.meets f l = xs) := by show _ = _; rw [HM2, if_neg h1, if_pos h2, List.append_assoc]
        clear HM2
        have jd : J O4 (L.meets f l) W4.drew := HJ.out _ _ _ _ HJ4.out (Keep.refl _ W4).drew
        have hY4 := HY.out O4 (L.meets f l) s W4.drew jd (by rw [← HM3.out]; exact List.prefix_append _ _)
        have HY4 : Hid _ := hY4
        clear hY4 jd
        go_wp2_with fail
        refine wpIn_wide.1 (reg5_yield (by omega) (by omega) c0 c1 c2 d0 d1 d2 cY0 HY4.out (fun e W' h => h.elim (fun h => .inl h.1) (fun h => .inr h.1)) (fun W5 hr => ?_) (fun W5 hr => ?_))
        · obtain ⟨O5, j5, g5, k5⟩ : ∃ O5, J O5 (L.meets f l ++ [s]) W5 ∧ Grew O4 O5 W4.drew ∧ Keep O4 W4.drew W5 := by
            rcases hr with ⟨_, h⟩ | ⟨h, _⟩
            · exact h
            · cases h
          clear hr
          have k5' : Keep O4 W4 W5 := (Keep.refl O4 W4).drew.trans k5 (fun _ _ h => h)
          have old5 : ∀ {k}, k < W4.heap.size → ¬ O4 k → ¬ O5 k := fun hk hn h => (g5 _ h).elim hn (fun h => by have : W4.heap.size ≤ _ := h; omega)
          obtain ⟨e1, e2, e3, e4⟩ := Hold.out
          obtain ⟨e5, e6⟩ := Hlt.out
          have hn1 := HHn2.out
          have ng4 : ∀ {k}, k < n → ¬ O4 k := fun hk h => by have := (HO4.out _ h).1; omega
          have nb4 := Hnb.out
          have HC5 : Hid (∀ W', Keep O5 W5 W' → W'.cell? ⟨b, 0, none⟩ = some (.pointer (some ⟨g, 0, none⟩)) ∧ W'.cell? ⟨b + 1, 0, none⟩ = some (.int .i64 f) ∧ W'.cell? ⟨b + 1 + 1, 0, none⟩ = some (.int .i64 l) ∧ W'.cell? ⟨g, 4, none⟩ = some (.pointer pr)) := fun W' k => by
            obtain ⟨⟨c0, c1, c2⟩, ⟨d0, d1, d2, d4⟩, cY⟩ := HC4.out _ k5'
            have s5 := k5'.size
            exact ⟨(k.cell (by omega) (old5 (by omega) nb4.1)).trans c0, (k.cell (by omega) (old5 (by omega) nb4.2.1)).trans c1, (k.cell (by omega) (old5 (by omega) nb4.2.2)).trans c2, (k.cell (by omega) (old5 (by omega) (ng4 hg))).trans d4⟩
          have t1 : Hid (PT n W5 pr R) := PT.keep k5' (fun j hj => ng4 hj) HPR.out
          have t2 : Hid (Blk W5 W.heap.size [.func (.yield ll) #[] #[]] 71) := (HC4.out _ k5').2.2
          have t3 : Hid (¬ O5 W.heap.size) := old5 e5 HnY.out
          have t4 : Hid (n ≤ W5.heap.size) := by have := k5'.size; show _ ≤ _; omega
          have t5 : Hid (∀ k, O5 k → n ≤ k ∧ k < W5.heap.size) := fun k h => ⟨(g5 k h).elim (fun h => (HO4.out k h).1) (fun h => by have : W4.heap.size ≤ _ := h; omega), HJs.out _ _ _ j5 k h⟩
          have t6 : Hid (W.heap.size ≤ W5.heap.size) := by have := k5'.size; show _ ≤ _; omega
          have t7 : Hid _ := j5
          have t8 : Hid (W5.heap[D]? = some (.deferred (some []))) := (k5'.block D e3 e1).trans HD4.out
          have t9 : Hid (¬ O5 D) := old5 e3 e1
          have t10 : Hid (W.heap.size ≤ D) := e2
          have t11 : Hid _ := (Hfin.out W5 O5 k5' g5).1
          have t12 : Hid _ := (Hfin.out W5 O5 k5' g5).2
          clear j5 g5 k5 k5' old5 e1 e2 e3 e4 e5 e6 hn1 ng4 nb4 c0 c1 c2 d0 d1 d2 d4 cY cY0
          go_wp2_with fail
          exact tail6 (by assumption) HC5.out t1.out t2.out t3.out t4.out t5.out t6.out HJ.out HJx.out HJs.out HY.out HM3.out t7.out t8.out t9.out t10.out HIR.out t11.out t12.out
        · obtain ⟨O5, j5, g5, k5⟩ : ∃ O5, Jx O5 (L.meets f l ++ [s]) W5 ∧ Grew O4 O5 W4.drew ∧ Keep O4 W4.drew W5 := by
            rcases hr with ⟨h, _⟩ | ⟨_, h⟩
            · cases h
            · exact h
          have k5' : Keep O4 W4 W5 := (Keep.refl O4 W4).drew.trans k5 (fun _ _ h => h)
          obtain ⟨e1, e2, e3, e4⟩ := Hold.out
          have n5 : ¬ O5 D := fun h => (g5 _ h).elim e1 (fun h => by have : W4.heap.size ≤ _ := h; omega)
          have Hj5 : Hid _ := j5
          have Hg5 : Hid (Grew O4 O5 W4) := g5
          have Hk5 : Hid _ := k5'
          clear hr j5 g5 k5 k5' c0 c1 c2 d0 d1 d2 d4 cY cY0
          go_wp2_with fail
          refine leave_marks (v := .tuple #[]) [D] _ (fun w' k => ⟨results_none rfl _ _ _, (Hfin.out W5 O5 Hk5.out Hg5.out).2 O5 (L.meets f l ++ [s]) w' (by rw [← HM3.out]; exact List.prefix_append _ _) ?_ (Grew.refl _ _) (k.mono fun i _ h => .inr (by simpa using h))⟩) (fun D' h => by simp at h; subst h; exact (Hk5.out.block D' e3 e1).trans HD4.out) (by simp)
          exact HJx.out _ _ _ _ Hj5.out (k.mono fun i _ h => by simp at h; subst h; exact ⟨n5, e2⟩)
      · have HM3 : Hid (L.meets f l ++ R.meets f l = xs) := by show _ = _; rw [HM2, if_neg h1, if_neg h2, List.nil_append]
        clear HM2
        go_wp2_with fail
        refine reg5_no2 (sf := s.f) (st := s.t) (f := f) (l := l) (by omega) (by omega) (fun W' e => by subst e; exact ⟨c0, c1, c2, d0, d1⟩) (fun nq => ?_)
        obtain ⟨W5, hW5⟩ : ∃ W5, W4.drewN nq = W5 := ⟨_, rfl⟩
        obtain ⟨O5, j5, g5, k5⟩ : ∃ O5, J O5 (L.meets f l) W5 ∧ Grew O4 O5 W4.drew ∧ Keep O4 W4.drew W5 := by
          rw [← hW5]
          exact ⟨O4, HJ.out _ _ _ _ HJ4.out (Keep.of ⟨rfl, rfl, rfl, Nat.le_refl _, fun _ _ => rfl⟩), Grew.refl _ _, Keep.of ⟨rfl, rfl, rfl, Nat.le_refl _, fun _ _ => rfl⟩⟩
        rw [hW5]
        clear hW5
        have k5' : Keep O4 W4 W5 := (Keep.refl O4 W4).drew.trans k5 (fun _ _ h => h)
        have old5 : ∀ {k}, k < W4.heap.size → ¬ O4 k → ¬ O5 k := fun hk hn h => (g5 _ h).elim hn (fun h => by have : W4.heap.size ≤ _ := h; omega)
        obtain ⟨e1, e2, e3, e4⟩ := Hold.out
        obtain ⟨e5, e6⟩ := Hlt.out
        have hn1 := HHn2.out
        have ng4 : ∀ {k}, k < n → ¬ O4 k := fun hk h => by have := (HO4.out _ h).1; omega
        have nb4 := Hnb.out
        have HC5 : Hid (∀ W', Keep O5 W5 W' → W'.cell? ⟨b, 0, none⟩ = some (.pointer (some ⟨g, 0, none⟩)) ∧ W'.cell? ⟨b + 1, 0, none⟩ = some (.int .i64 f) ∧ W'.cell? ⟨b + 1 + 1, 0, none⟩ = some (.int .i64 l) ∧ W'.cell? ⟨g, 4, none⟩ = some (.pointer pr)) := fun W' k => by
          obtain ⟨⟨c0, c1, c2⟩, ⟨d0, d1, d2, d4⟩, cY⟩ := HC4.out _ k5'
          have s5 := k5'.size
          exact ⟨(k.cell (by omega) (old5 (by omega) nb4.1)).trans c0, (k.cell (by omega) (old5 (by omega) nb4.2.1)).trans c1, (k.cell (by omega) (old5 (by omega) nb4.2.2)).trans c2, (k.cell (by omega) (old5 (by omega) (ng4 hg))).trans d4⟩
        have t1 : Hid (PT n W5 pr R) := PT.keep k5' (fun j hj => ng4 hj) HPR.out
        have t2 : Hid (Blk W5 W.heap.size [.func (.yield ll) #[] #[]] 71) := (HC4.out _ k5').2.2
        have t3 : Hid (¬ O5 W.heap.size) := old5 e5 HnY.out
        have t4 : Hid (n ≤ W5.heap.size) := by have := k5'.size; show _ ≤ _; omega
        have t5 : Hid (∀ k, O5 k → n ≤ k ∧ k < W5.heap.size) := fun k h => ⟨(g5 k h).elim (fun h => (HO4.out k h).1) (fun h => by have : W4.heap.size ≤ _ := h; omega), HJs.out _ _ _ j5 k h⟩
        have t6 : Hid (W.heap.size ≤ W5.heap.size) := by have := k5'.size; show _ ≤ _; omega
        have t7 : Hid _ := j5
        have t8 : Hid (W5.heap[D]? = some (.deferred (some []))) := (k5'.block D e3 e1).trans HD4.out
        have t9 : Hid (¬ O5 D) := old5 e3 e1
        have t10 : Hid (W.heap.size ≤ D) := e2
        have t11 : Hid _ := (Hfin.out W5 O5 k5' g5).1
        have t12 : Hid _ := (Hfin.out W5 O5 k5' g5).2
        clear j5 g5 k5 k5' old5 e1 e2 e3 e4 e5 e6 hn1 ng4 nb4 c0 c1 c2 d0 d1 d2 d4 cY cY0
        go_wp2_with fail
        exact tail6 (by assumption) HC5.out t1.out t2.out t3.out t4.out t5.out t6.out HJ.out HJx.out HJs.out HY.out HM3.out t7.out t8.out t9.out t10.out HIR.out t11.out t12.out

theorem all56 (f l : Int) (hf : least ≤ f) : ∀ t : T, All56 f l t
  | .nil => by
    intro W p n b ht hnb hbx ll O J Jx hO hJs hJ hJx hY h0
    exact runs56_none (t := .nil) (n := 0) (by exact ht) (Nat.zero_le _) hbx hf ll O J Jx hJ h0
  | .node L s R => by
    intro W p n b ht hnb hbx ll O J Jx hO hJs hJ hJx hY h0
    by_cases hrc : (T.node L s R).rc ≤ f
    · have := runs56_none ht (by have := hbx.b2.lt; omega) hbx hrc ll O J Jx hJ h0
      rw [show (T.node L s R).meets f l = [] by rw [T.meets, if_pos hrc]]
      exact this
    · exact runs56_node ht hnb hbx hrc (all56 f l hf L) (all56 f l hf R) ll O J Jx hO hJs hJ hJx _ rfl hY h0
end Go.Proofs.Ytgglhicpfjihlaa
