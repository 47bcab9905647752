/- The rest of meeting's function: the loop over those to the right. -/
import Derived.Test.YtgglhicpfjihlaaMe
namespace Go.Proofs.Ytgglhicpfjihlaa
open Go.RowKit Go.Shelf
set_option maxRecDepth 100000
attribute [local go_sem] Oper.semAt_some

def csS (x : St) : List Value := [.int .i64 x.f, .int .i64 x.t, .int .i64 x.i]
theorem eg56 : ∀ args w, (callFunc 56 args).run Try.prog w = .ok (.enter 56 args) w := enters_of Try.func56 (by kernel_rfl) rfl
theorem m3 (p : Option Addr) (a b : Int) (W : World) : Bx (((W.alloc (.cells #[.pointer p] 56)).alloc (.cells #[.int .i64 a] 3)).alloc (.cells #[.int .i64 b] 3)).drew W.heap.size p a b ∧ Below W.heap.size W (((W.alloc (.cells #[.pointer p] 56)).alloc (.cells #[.int .i64 a] 3)).alloc (.cells #[.int .i64 b] 3)).drew ∧ (((W.alloc (.cells #[.pointer p] 56)).alloc (.cells #[.int .i64 a] 3)).alloc (.cells #[.int .i64 b] 3)).drew.heap.size = W.heap.size + 3 :=
  ⟨⟨(bx_new p a b W).b0, (bx_new p a b W).b1, (bx_new p a b W).b2⟩, (bmore (bmore (al _ _) (al _ _)) (al _ _)).drew, by simp⟩
/-- What is said of a loop within the iterator. -/
def Iin (J : (Nat → Prop) → List St → World → Prop) (O : Nat → Prop) (W3 : World) (pre0 : List St) (O' : Nat → Prop) (q : List St) (W' : World) : Prop := J O' (pre0 ++ q) W' ∧ Grew O O' W3 ∧ Keep O W3 W'
theorem Iin.abide {J : (Nat → Prop) → List St → World → Prop} {O : Nat → Prop} {B : Nat} {W3 : World} {pre0 : List St} (hJ : Abide B J) (hs : B ≤ W3.heap.size) : Abide W3.heap.size (Iin J O W3 pre0) := by
  rintro O' q W1 W2 ⟨h1, h2, h3⟩ k
  exact ⟨hJ _ _ _ _ h1 (k.mono fun b _ h => ⟨h.1, by omega⟩), h2, h3.trans k (fun b hb h => by omega)⟩
def All56 (f l : Int) (t : T) : Prop := ∀ (W : World) (p : Option Addr) (n b : Nat), PT n W p t → n ≤ b → Bx W b p f l → Runs Try.prog 56 #[.pointer (some ⟨b, 0, none⟩), .pointer (some ⟨b + 1, 0, none⟩), .pointer (some ⟨b + 1 + 1, 0, none⟩)] SV (t.meets f l) (Gm n b) W

set_option maxHeartbeats 1000000 in
theorem tail6 {f l : Int} {R : T} {pr : Option Addr} {n b g ll D Y B0 : Nat} {v5 v6 v7 v8 v9 v10 v11 v12 v13 v14 v15 v16 v17 v18 v19 v20 v21 v22 v23 v24 v25 v26 v27 v28 v29 v30 v31 v32 v33 v34 v35 v36 v37 v38 v39 v40 v41 v42 v43 v44 v45 v46 v47 v48 v49 : Value} {O5 : Nat → Prop} {W5 : World} {J Jx : (Nat → Prop) → List St → World → Prop} {xs pre1 : List St} {RR : Ending → World → Prop} {K : Act → World → Prop} (hKK : ∀ a w, Code.wp Try.prog (Code.block 2 (Code.rangeFunc (Operand.tmp 56) #[57] (Code.region 7 #[{ dst := some 6, op := Op.alloc 68, type := 0, pos := "ivals.go:281", after := #[], guard := none }, { dst := none, op := Op.store 68 (Operand.tmp 6) (Operand.tmp 57), type := 0, pos := "ivals.go:281", after := #[{ on := 0, ground := Ground.data }, { on := 0, ground := Ground.phase }], guard := none }] false) (Code.block 3 ((Code.region 8 #[{ dst := some 58, op := Op.load 71 (Operand.tmp 4), type := 71, pos := "ivals.go:282", after := #[], guard := none }, { dst := some 59, op := Op.load 68 (Operand.tmp 6), type := 68, pos := "ivals.go:282", after := #[], guard := none }, { dst := some 60, op := Op.call { callee := Callee.value (Operand.tmp 58), args := #[Operand.tmp 59], argTypes := #[68] }, type := 4, pos := "ivals.go:282", after := #[{ on := 0, ground := Ground.data }, { on := 1, ground := Ground.data }], guard := none }, { dst := some 61, op := Op.unOp UnOp.not 4 (Operand.tmp 60), type := 4, pos := "ivals.go:282", after := #[{ on := 2, ground := Ground.data }], guard := none }] false).seq (Code.cond (Operand.tmp 61) Code.ret Code.skip))))) (bodyPostM Fence.wide 0 Try.prog Try.f56 RR) a w → K a w)
    (hc : ∀ W', Keep O5 W5 W' → W'.cell? ⟨b, 0, none⟩ = some (.pointer (some ⟨g, 0, none⟩)) ∧ W'.cell? ⟨b + 1, 0, none⟩ = some (.int .i64 f) ∧ W'.cell? ⟨b + 1 + 1, 0, none⟩ = some (.int .i64 l) ∧ W'.cell? ⟨g, 4, none⟩ = some (.pointer pr)) (hPT : PT n W5 pr R) (hYb : Blk W5 Y [.func (.yield ll) #[] #[]] 71) (nY : ¬ O5 Y) (hn : n ≤ W5.heap.size)
    (hO5 : ∀ k, O5 k → n ≤ k ∧ k < W5.heap.size) (hB0 : B0 ≤ W5.heap.size) (hJ : Abide B0 J) (hJx : Abide B0 Jx) (hJs : ∀ O pre W, J O pre W → ∀ b, O b → b < W.heap.size)
    (hY : ∀ O pre x W1, J O pre W1 → pre ++ [x] <+: xs → YieldAt Fence.wide 0 Try.prog ll #[SV x] W1 (Rnd J Jx O (pre ++ [x]) W1)) (hxs : pre1 ++ R.meets f l = xs) (hj : J O5 pre1 W5)
    (hd : W5.heap[D]? = some (.deferred (some []))) (nD : ¬ O5 D) (hDB : B0 ≤ D) (ihr : All56 f l R)
    (hA1 : ∀ O' W', J O' xs W' → Grew O5 O' W5 → Keep (fun k => O5 k ∨ k = D) W5 W' → RR (.returned (.tuple #[])) W')
    (hA2 : ∀ O' pre W', pre <+: xs → Jx O' pre W' → Grew O5 O' W5 → Keep (fun k => O5 k ∨ k = D) W5 W' → RR (.returned (.tuple #[])) W') :
    Code.wp Try.prog (Code.region 6 #[{ dst := some 50, op := Op.load 56 (Operand.tmp 1), type := 56, pos := "ivals.go:281", after := #[], guard := none }, { dst := some 51, op := Op.nilCheck (Operand.tmp 50), type := 0, pos := "ivals.go:281", after := #[{ on := 0, ground := Ground.data }], guard := none }, { dst := some 52, op := Op.fieldAddr 70 (Operand.tmp 51) 2, type := 0, pos := "ivals.go:281", after := #[{ on := 1, ground := Ground.data }], guard := none }, { dst := some 53, op := Op.load 56 (Operand.tmp 52), type := 56, pos := "ivals.go:281", after := #[{ on := 2, ground := Ground.data }], guard := none }, { dst := some 54, op := Op.load 3 (Operand.tmp 2), type := 3, pos := "ivals.go:281", after := #[], guard := none }, { dst := some 55, op := Op.load 3 (Operand.tmp 3), type := 3, pos := "ivals.go:281", after := #[], guard := none }, { dst := some 56, op := Op.call { callee := Callee.value (Operand.func 50), args := #[Operand.tmp 53, Operand.tmp 54, Operand.tmp 55], argTypes := #[56, 3, 3] }, type := 65, pos := "ivals.go:281", after := #[{ on := 3, ground := Ground.data }, { on := 4, ground := Ground.data }, { on := 5, ground := Ground.data }], guard := none }] true) (Exit.then K (bodyPostM Fence.wide 0 Try.prog Try.f56 RR)) { tmps := #[.func (.yield ll) #[] #[], .pointer (some ⟨b, 0, none⟩), .pointer (some ⟨b + 1, 0, none⟩), .pointer (some ⟨b + 1 + 1, 0, none⟩), .pointer (some ⟨Y, 0, none⟩), v5, v6, v7, v8, v9, v10, v11, v12, v13, v14, v15, v16, v17, v18, v19, v20, v21, v22, v23, v24, v25, v26, v27, v28, v29, v30, v31, v32, v33, v34, v35, v36, v37, v38, v39, v40, v41, v42, v43, v44, v45, v46, v47, v48, v49, undef, undef, undef, undef, undef, undef, undef, undef, undef, undef, undef, undef], defers := [mark D] } W5 := by
  obtain ⟨hb3, hB3, hs3⟩ := m3 pr f l W5
  have hS1 := hc _ ((Keep.refl O5 W5).drew)
  have hS2 := hc (((W5.alloc (.cells #[.pointer pr] 56)).alloc (.cells #[.int .i64 f] 3)).alloc (.cells #[.int .i64 l] 3)).drew (Keep.of hB3)
  have HY3 : Hid (Blk (((W5.alloc (.cells #[.pointer pr] 56)).alloc (.cells #[.int .i64 f] 3)).alloc (.cells #[.int .i64 l] 3)).drew Y [.func (.yield ll) #[] #[]] 71) := hYb.below hB3
  have HPT : Hid (PT n (((W5.alloc (.cells #[.pointer pr] 56)).alloc (.cells #[.int .i64 f] 3)).alloc (.cells #[.int .i64 l] 3)).drew pr R) := hPT.keep (O := fun _ => False) (Keep.of hB3) (fun _ _ => id)
  have HB3x : Hid _ := hb3
  have HKK : Hid _ := hB3
  have HS3 : Hid _ := hs3
  have HD : Hid ((((W5.alloc (.cells #[.pointer pr] 56)).alloc (.cells #[.int .i64 f] 3)).alloc (.cells #[.int .i64 l] 3)).drew.heap[D]? = some (.deferred (some []))) := (hB3.block D (Array.getElem?_eq_some_iff.1 hd).1).trans hd
  have HDL : Hid _ := (Array.getElem?_eq_some_iff.1 hd).1
  have HJ : Hid _ := hJ
  have HJx : Hid _ := hJx
  have HJs : Hid _ := hJs
  have HY : Hid _ := hY
  have H0 : Hid _ := hj
  have HO : Hid _ := hO5
  have HX : Hid _ := hxs
  have HI : Hid _ := ihr
  have HA1 : Hid _ := hA1
  have HA2 : Hid _ := hA2
  have HN : Hid (n ≤ W5.heap.size ∧ B0 ≤ W5.heap.size ∧ B0 ≤ D) := ⟨hn, hB0, hDB⟩
  clear hc hPT hYb hn hO5 hB0 hJ hJx hJs hY hxs hj hd hDB ihr hA1 hA2 hb3 hs3 hB3
  go_wp2_with fail
  go_region_held3 (fun W' => W'.cell? ⟨b, 0, none⟩ = some (.pointer (some ⟨g, 0, none⟩)) ∧ W'.cell? ⟨b + 1, 0, none⟩ = some (.int .i64 f) ∧ W'.cell? ⟨b + 1 + 1, 0, none⟩ = some (.int .i64 l) ∧ W'.cell? ⟨g, 4, none⟩ = some (.pointer pr)) (first | exact hS1 | exact hS2) (first
    | (go_at_call 50; (with_reducible refine (meeting50 _ _ _ _).mono ?_); rintro e w1 ⟨rfl, rfl⟩))
  clear hS1 hS2
  go_wp2_with fail
  generalize (((W5.alloc (.cells #[.pointer pr] 56)).alloc (.cells #[.int .i64 f] 3)).alloc (.cells #[.int .i64 l] 3)).drew = W6 at *
  obtain ⟨B6, hB6⟩ : ∃ B6, W5.heap.size = B6 := ⟨_, rfl⟩
  have HB6 : Hid _ := hB6
  rw [hB6]
  clear hB6
  have K6 : Keep O5 W5 W6 := Keep.of HKK.out
  refine wpIn_wide.1 (wpIn_range (a := { tmps := #[.func (.yield ll) #[] #[], .pointer (some ⟨b, 0, none⟩), .pointer (some ⟨b + 1, 0, none⟩), .pointer (some ⟨b + 1 + 1, 0, none⟩), .pointer (some ⟨Y, 0, none⟩), v5, v6, v7, v8, v9, v10, v11, v12, v13, v14, v15, v16, v17, v18, v19, v20, v21, v22, v23, v24, v25, v26, v27, v28, v29, v30, v31, v32, v33, v34, v35, v36, v37, v38, v39, v40, v41, v42, v43, v44, v45, v46, v47, v48, v49, .pointer (some ⟨g, 0, none⟩), .pointer (some ⟨g, 0, none⟩), .pointer (some ⟨g, 4, none⟩), .pointer pr, .int .i64 f, .int .i64 l, .func (.func 56) #[] #[.pointer (some ⟨B6, 0, none⟩), .pointer (some ⟨B6 + 1, 0, none⟩), .pointer (some ⟨B6 + 1 + 1, 0, none⟩)], undef, undef, undef, undef, undef], defers := [mark D] }) (gf := 56) (lb := #[.pointer (some ⟨B6, 0, none⟩), .pointer (some ⟨B6 + 1, 0, none⟩), .pointer (some ⟨B6 + 1 + 1, 0, none⟩)]) rfl eg56 rfl (enc := SV) (xs := R.meets f l) (G := Gm n B6)
    (fun W' k => HI.out W' pr n B6 (PT.keep (O := fun _ => False) (Keep.of k) (fun _ _ => id) HPT.out) (by have := HN.out; have := HB6.out; omega) (Bx.keep (O := fun _ => False) (HB6.out ▸ HB3x.out) (Keep.of k) id id id)) (fun k h => by have := HN.out; have := HB6.out; have := HS3.out; unfold Gm at h; omega)
    (Iin J O5 W6 pre1) (fun c O' q W' => c = .ret ∧ Iin Jx O5 W6 pre1 O' q W') (fun O' q W' h => HJs.out _ _ _ h.1) (Iin.abide HJ.out (by have := HN.out; have := HS3.out; omega)) (fun c => fun O' q W1 W2 h k => ⟨h.1, Iin.abide HJx.out (by have := HN.out; have := HS3.out; omega) _ _ _ _ h.2 k⟩)
    O5 (fun k h => by have := HO.out k h; have := HB6.out; have := HS3.out; unfold Gm; omega) ⟨by rw [List.append_nil]; exact HJ.out _ _ _ _ H0.out (Keep.of HKK.out), Grew.refl _ _, Keep.refl _ _⟩ (fun x blk => { tmps := #[.func (.yield ll) #[] #[], .pointer (some ⟨b, 0, none⟩), .pointer (some ⟨b + 1, 0, none⟩), .pointer (some ⟨b + 1 + 1, 0, none⟩), .pointer (some ⟨Y, 0, none⟩), v5, .pointer (some ⟨blk, 0, none⟩), v7, v8, v9, v10, v11, v12, v13, v14, v15, v16, v17, v18, v19, v20, v21, v22, v23, v24, v25, v26, v27, v28, v29, v30, v31, v32, v33, v34, v35, v36, v37, v38, v39, v40, v41, v42, v43, v44, v45, v46, v47, v48, v49, .pointer (some ⟨g, 0, none⟩), .pointer (some ⟨g, 0, none⟩), .pointer (some ⟨g, 4, none⟩), .pointer pr, .int .i64 f, .int .i64 l, .func (.func 56) #[] #[.pointer (some ⟨B6, 0, none⟩), .pointer (some ⟨B6 + 1, 0, none⟩), .pointer (some ⟨B6 + 1 + 1, 0, none⟩)], SV x, undef, undef, undef, undef], defers := [] }) csS 68 ?assign ?body ?done ?stop)
  case assign =>
    intro l' x W' K hK
    gi_wp2
    exact hK
  case body =>
    intro l' O' pre x W' blk hI hnb hle hsz hblk hpre
    obtain ⟨hj, hgr, hk⟩ := hI
    have y1 := (HY3.out.keep hk nY).cell 0
    have hbl : Blk W' blk (csS x) 68 := hblk
    have z0 := hbl.cell 0
    have z1 := hbl.cell 1
    have z2 := hbl.cell 2
    simp only [csS, List.getElem?_cons_zero, List.getElem?_cons_succ] at y1 z0 z1 z2
    obtain ⟨fn, tmps, assign, body, hy, hRn⟩ := HY.out O' (pre1 ++ pre) x W' hj (by rw [← HX.out, List.append_assoc]; exact (List.prefix_append_right_inj _).2 hpre)
    have HG : Hid _ := hgr
    have HKp : Hid _ := hk
    clear hgr hk hbl hblk hj hpre
    gi_wp2
    replace hRn : RoundIn (Fence.wide.inRound l') 0 Try.prog ll fn tmps assign body W' _ := hRn
    refine ⟨rfl, hRn.mono ?_⟩
    rintro e W'' (⟨rfl, O2, h1, h2, h3⟩ | ⟨rfl, O2, h1, h2, h3⟩)
    · gi_wp2
      exact ⟨O2, ⟨by rw [← List.append_assoc]; exact h1, Grew.trans (show Grew O5 O' W6 from HG.out) h2 HKp.out.size, HKp.out.trans h3 (fun k hk ho => (HG.out k ho).elim id (fun h => by omega))⟩, h2, h3⟩
    · gi_wp2
      exact ⟨O2, ⟨rfl, by rw [← List.append_assoc]; exact h1, Grew.trans (show Grew O5 O' W6 from HG.out) h2 HKp.out.size, HKp.out.trans h3 (fun k hk ho => (HG.out k ho).elim id (fun h => by omega))⟩, h2, h3⟩
  case stop =>
    rintro D2 c O' pre W' hD2 nD2 hpre ⟨rfl, hx, hgx, hkx⟩ hgr hk hd2
    have hne : D2 ≠ D := by have := HDL.out; have := HS3.out; omega
    have nD' : ¬ O' D := fun h => (hgr D h).elim nD (fun h => by have := HDL.out; have := HS3.out; omega)
    refine wpIn_wide.2 ?_
    go_wp2
    refine leave_marks (v := .tuple #[]) [D2, D] _ (fun w' k => ?_) (fun D' h => by simp at h; rcases h with rfl | rfl; exact hd2; exact (hk.block D' (Array.getElem?_eq_some_iff.1 HD.out).1 nD).trans HD.out) (by simp [hne])
    refine ⟨results_none rfl _ _ _, HA2.out O' (pre1 ++ pre) w' (by rw [← HX.out]; exact (List.prefix_append_right_inj _).2 hpre) (HJx.out _ _ _ _ hx (k.mono fun i _ h => ?_)) (fun i hi => (hgr i hi).elim .inl (fun h => .inr (by have := HS3.out; omega))) (((K6.trans hk (fun _ _ h => h)).mono (fun _ _ h => .inl h)).trans k (fun i hi h => ?_))⟩
    · simp at h
      rcases h with rfl | rfl
      · exact ⟨nD2, by have := HN.out; have := HS3.out; omega⟩
      · exact ⟨nD', by have := HN.out; omega⟩
    · simp at h
      rcases h with rfl | rfl
      · have := HS3.out; omega
      · exact .inr rfl
  case done =>
    rintro D2 O' W' hD2 nD2 ⟨hx, hgx, hkx⟩ hgr hk hd2
    have hne : D2 ≠ D := by have := HDL.out; have := HS3.out; omega
    have nD' : ¬ O' D := fun h => (hgr D h).elim nD (fun h => by have := HDL.out; have := HS3.out; omega)
    go_wp2
    refine leave_marks (v := .tuple #[]) [D2, D] _ (fun w' k => ?_) (fun D' h => by simp at h; rcases h with rfl | rfl; exact hd2; exact (hk.block D' (Array.getElem?_eq_some_iff.1 HD.out).1 nD).trans HD.out) (by simp [hne])
    have hx2 : J O' xs w' := by
      rw [← HX.out]
      refine HJ.out _ _ _ _ hx (k.mono fun i _ h => ?_)
      simp at h
      rcases h with rfl | rfl
      · exact ⟨nD2, by have := HN.out; have := HS3.out; omega⟩
      · exact ⟨nD', by have := HN.out; omega⟩
    refine ⟨results_none rfl _ _ _, HA1.out O' w' hx2 (fun i hi => (hgr i hi).elim .inl (fun h => .inr (by have := HS3.out; omega))) (((K6.trans hk (fun _ _ h => h)).mono (fun _ _ h => .inl h)).trans k (fun i hi h => ?_))⟩
    simp at h
    rcases h with rfl | rfl
    · have := HS3.out; omega
    · exact .inr rfl
end Go.Proofs.Ytgglhicpfjihlaa
