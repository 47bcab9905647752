/- The law TopTables. -/
import Derived.Test.YtkoagjfbhkhfkaaTl
namespace Go.Proofs.Ytkoagjfbhkhfkaa
open Go.RowKit Go.Lib
set_option maxRecDepth 100000
variable {w wr w1 w2 : World} {c m : Nat} {nv nv' : Value} {E E' : List En}
abbrev n4 : List Value := [.string ⟨#[97]⟩, .string ⟨#[98]⟩, .string ⟨#[99]⟩, .string ⟨#[100]⟩]
/-- What stands at each round. -/
structure TI (w wr : World) (c m : Nat) (nv : Value) (E : List En) : Prop where
  cat : Cat wr c m nv E
  cols : ∀ x ∈ E, x.1.cols = kr
  bel : Below w.heap.size w wr
  nb : Blk wr w.heap.size n4 9
  ge : ∀ k, foot c m nv k → w.heap.size < k
theorem TI.below (h : TI w wr c m nv E) (hb : Below wr.heap.size wr w1) : TI w w1 c m nv E := ⟨h.cat.below hb, h.cols, bmore h.bel hb, h.nb.below hb, h.ge⟩
theorem TI.step (h : TI w wr c m nv E) (h' : Cat w1 c m nv' E') (hk : Keep (foot c m nv) wr w1) (hf : ∀ k, foot c m nv' k → foot c m nv k ∨ wr.heap.size ≤ k) (hc : ∀ x ∈ E', x.1.cols = kr) : TI w w1 c m nv' E' :=
  ⟨h', hc, h.bel.trans (hk.below h.bel.size (fun i hi => Nat.le_of_lt (h.ge i hi))), h.nb.block (hk.block _ h.nb.lt (fun hf => by have := h.ge _ hf; omega)), fun k hk => (hf k hk).elim (h.ge k) (fun h1 => Nat.lt_of_lt_of_le h.nb.lt h1)⟩
theorem right_x (w1 : World) : Calls Try.prog 8 #[TB ⟨#[120]⟩ (.slice (some ⟨w1.heap.size, 0, none⟩) 1 1) ⟨#[]⟩ 0] (w1.alloc (.cells #[.string ⟨#[107]⟩, .int .u8 1] 29)) fun e w' => e = .returned (.bool true) ∧ Below (w1.alloc (.cells #[.string ⟨#[107]⟩, .int .u8 1] 29)).heap.size (w1.alloc (.cells #[.string ⟨#[107]⟩, .int .u8 1] 29)) w' := by
  have h := right8 ⟨#[120]⟩ ⟨#[]⟩ (.slice (some ⟨w1.heap.size, 0, none⟩) 1 1) [([107], 1)] 0 (w1.alloc (.cells #[.string ⟨#[107]⟩, .int .u8 1] 29)) (SC.blk (l := [([107], 1)]) (blk_new w1 (cellsC [([107], 1)]) 29)) (by decide) (by decide) (by decide) (by decide)
  rwa [show rtB (bs ⟨#[120]⟩) [([107], 1)] (bs ⟨#[]⟩) 0 = true by decide +kernel] at h
theorem kr_blk (w : World) : Blk (w.alloc (.cells #[.string ⟨#[107]⟩, .int .u8 1, .string ⟨#[114]⟩, .int .u8 1] 29)) w.heap.size (cellsC kr) 29 := blk_new w (cellsC kr) 29
/-- What Get and Create do in a round. -/
theorem get_round (h : TI w wr c m nv E) (s : Bs) (hs : s.length ≤ 100000) {B : Bool} (hB : (fnd E s).isSome = B) : ∀ w1, Below wr.heap.size wr w1 → Calls Try.prog 5 #[.pointer (some ⟨c, 0, none⟩), .string (str s)] w1 fun e w' => ∃ a va vl vc b r, e = .returned (.tuple #[TB a (.slice va vl vc) b r, .bool B]) ∧ Below w1.heap.size w1 w' := fun w1 h1 => by
  have := get5_any (h.cat.below h1) (str s) (by rw [str_size]; exact hs)
  rwa [bs_str, hB] at this
theorem create_round (h : TI w wr c m nv E) (n p : Bs) (r : Int) (hn : n.length ≤ 100000) (hp : p.length ≤ 100000) {R : Int} (hR : refuse E ⟨n, kr, p, r⟩ = R) : ∀ w1, Below wr.heap.size wr w1 → ∀ v, SC w1 v kr → Calls Try.prog 6 #[.pointer (some ⟨c, 0, none⟩), TB (str n) v (str p) r] w1 fun e w' => e = .returned (.int .i64 R) ∧ ∃ nv' E', TI w w' c m nv' E' ∧ Keep (fun k => k < wr.heap.size) w1 w' ∧ E'.length = (if R = 0 then E.length + 1 else E.length) := fun w1 h1 v hv => by
  have h2 := h.below h1
  have := create6_any h2.cat (str n) (str p) v kr r hv (by decide) (by rw [str_size]; exact hn) (by rw [str_size]; exact hp) (by decide)
  rw [bs_str, bs_str, hR] at this
  refine this.mono fun e w' ⟨h3, nv', E', h4, h5, h6, h7⟩ => ⟨h3, nv', E', h2.step h4 h5 h6 ?_, ?_, ?_⟩
  · rcases h7 with ⟨_, rfl⟩ | ⟨_, g, rfl⟩
    · exact h.cols
    · intro x hx
      rcases List.mem_cons.1 hx with rfl | hx
      · rfl
      · exact h.cols x hx
  · refine ⟨h5.os, h5.tape, h5.output, h5.size, fun k hk hf => h5.block k hk (fun hk2 => hf ?_)⟩
    refine h.cat.lt ?_
    rcases hk2 with rfl | rfl | hk2
    · exact .inl rfl
    · exact .inr (.inl rfl)
    · exact .inr (.inr (.inl hk2))
  · rcases h7 with ⟨h8, rfl⟩ | ⟨h8, g, rfl⟩
    · rw [if_neg h8]
    · rw [if_pos h8]; rfl
set_option maxHeartbeats 4000000 in
theorem top3 (v : Value) (l : List (UInt8 × UInt8)) (w : World) (hv : PS w v l) :
    Calls Try.prog 3 #[v] w fun e w' => e = .returned (.bool true) ∧ Below w.heap.size w w' := by
  obtain ⟨a, cp, rfl, hat⟩ := hv
  have HA : Hid (0 < l.length → ∃ g o, a = some ⟨g, o, none⟩ ∧ g < w.heap.size ∧ ∀ i x, l[i]? = some x → w.cell? ⟨g, o + i * 2, none⟩ = some (.int .u8 (x.1.toNat : Int)) ∧ w.cell? ⟨g, o + i * 2 + 1, none⟩ = some (.int .u8 (x.2.toNat : Int))) := hat
  obtain ⟨N, hN⟩ : ∃ N, l.length = N := ⟨_, rfl⟩
  have HNN : Hid (l.length = N) := hN
  rw [hN]
  clear hN hat
  go_enter Try.func3, Try.ntmps3
  go_wp2_with (go_at_call 4; refine (new4 _).mono ?_; rintro e w1 ⟨c, m, rfl, hcat, hc, hm, hb1⟩)
  have HT0 : Hid (TI w w1 c m (.slice none 0 0) []) := ⟨hcat, by simp, bmore (al _ _) hb1, (blk_new w n4 9).below hb1, fun k hk => by
    simp at hc hm
    rcases hk with rfl | rfl | hk
    · omega
    · omega
    · cases hk⟩
  clear hcat hc hm hb1
  go_loopw [5, 6] (fun vn vi wr => ∃ (k : Nat) (nv : Value) (E : List En), k ≤ N ∧ k ≤ 12 ∧ vi = .int .i64 (k : Int) ∧ vn = .int .i64 (E.length : Int) ∧ Hid (TI w wr c m nv E)) (fun _ vi _ => 12 - (RowKit.intOf vi).toNat)
  case atStart => exact ⟨0, _, [], by omega, by omega, rfl, rfl, HT0⟩
  case round =>
    obtain ⟨k, nv, E, hk, hk12, rfl, rfl, HT⟩ := hrel
    have H7 := names7 HT.out.cat
    have H8 := right_x
    have F0 := HT.out.bel
    by_cases hkn : k < N
    · have h1 : (k : Int) < (N : Int) := by omega
      by_cases hk2 : k < 12
      · have h2 : (k : Int) < 12 := by omega
        obtain ⟨x, hx⟩ : ∃ x, l[k]? = some x := ⟨_, List.getElem?_eq_getElem (by rw [HNN.out]; exact hkn)⟩
        obtain ⟨g, o, rfl, hgl, hco⟩ := HA.out (by rw [HNN.out]; omega)
        obtain ⟨h3, h4⟩ := hco k x hx
        have c0 := (F0.cell (p := ⟨g, o + k * 2, none⟩) hgl).trans h3
        have c1 := (F0.cell (p := ⟨g, o + k * 2 + 1, none⟩) hgl).trans h4
        have hgw : g < wr.heap.size := Nat.lt_of_lt_of_le hgl F0.size
        clear h3 h4 hco hx
        obtain ⟨x0, x1⟩ := x
        simp only at c0 c1
        obtain ⟨q, hq, hq4⟩ : ∃ q : Nat, Int.tmod (x0.toNat : Int) 4 = (q : Int) ∧ q < 4 := ⟨x0.toNat % 4, by rw [Int.tmod_eq_emod_of_nonneg (by omega)]; omega, by omega⟩
        obtain ⟨s, hs, hs5⟩ : ∃ s : Nat, Int.tmod (x1.toNat : Int) 5 = (s : Int) ∧ s < 5 := ⟨x1.toNat % 5, by rw [Int.tmod_eq_emod_of_nonneg (by omega)]; omega, by omega⟩
        have hq0 : (0 : Int) ≤ (q : Int) := by omega
        have hq4i : (q : Int) < 4 := by omega
        have hx0 : (x0.toNat : Int) < 256 := by have := x0.toNat_lt; omega
        have hx1 : (x1.toNat : Int) < 256 := by have := x1.toNat_lt; omega
        have d0 := HT.out.nb.here (names4 hq4)
        have hnw : ∀ j, (str (nm j)).size = 1 := fun _ => rfl
        have hem : ∀ j, (str (nm j)).toList.isEmpty = false := fun j => by rw [toList_data]; rfl
        have hwr : w.heap.size < wr.heap.size := HT.out.nb.lt
        generalize x0.toNat = y0 at *
        generalize x1.toNat = y1 at *
        by_cases hs4 : s < 4
        · have hs0 : (0 : Int) ≤ (s : Int) := by omega
          have hs4i : (s : Int) < 4 := by omega
          have d1 := fun o1 o2 => (HT.out.nb.below (bal (al wr o1) o2)).here (names4 hs4)
          have hrt : rtB (nm q) kr (nm s) 1 = true := right_nm2 q s hq4 hs4
          have hrf := refuse_kr HT.out.cols hrt (.inr rfl)
          obtain ⟨B2, hB2⟩ : ∃ B, (fnd E (nm s)).isSome = B := ⟨_, rfl⟩
          have H5p : Hid _ := get_round HT.out (nm s) (by simp [nm]) hB2
          cases hB1 : (fnd E (nm q)).isSome
          · by_cases h3 : 3 ≤ E.length
            · have h3i : (3 : Int) ≤ (E.length : Int) := by omega
              have hR : refuse E ⟨nm q, kr, (nm s), 1⟩ = 4 := by rw [hrf]; simp [hB1, h3]
              have H5q : Hid _ := get_round HT.out (nm q) (by simp [nm]) hB1
              have H6 : Hid _ := create_round HT.out (nm q) (nm s) 1 (by simp [nm]) (by simp [nm]) hR
              clear hrf hrt hR
              go_wp2_with (first
                | (go_at_call 5; (with_reducible refine (H5q.out _ (bal (al wr _) _)).mono ?_); rintro e w2 ⟨a2, p2, l2, q2, b2, r2, rfl, hb2⟩; have bT2 : Blk w2 (wr.heap.size + 1) [.string (str (nm q)), .slice (some ⟨wr.heap.size, 0, none⟩) 2 2, .string (str (nm s)), .int .i64 1] 32 := (blk_at (wr.alloc _) _ 32 (by simp)).below hb2; have t2 := fun o => (bT2.below (al w2 o)).here (j := 2) rfl; have bA2 : Blk w2 wr.heap.size (cellsC kr) 29 := (kr_blk wr).below (bmore (al _ _) hb2))
                | (go_at_call 5; (with_reducible refine (H5p.out _ (bmore (bmore (bal (al wr _) _) hb2) (al _ _))).mono ?_); rintro e w3 ⟨a3, p3, l3, q3, b3, r3, rfl, hb3⟩; have bT3 := (bT2.below (al _ _)).below hb3; have t30 := fun o => (bT3.below (al w3 o)).here (j := 0) rfl; have t31 := fun o => (bT3.below (al w3 o)).here (j := 1) rfl; have t32 := fun o => (bT3.below (al w3 o)).here (j := 2) rfl; have t33 := fun o => (bT3.below (al w3 o)).here (j := 3) rfl; have HS3 : Hid (∀ o, SC (w3.alloc o) (.slice (some ⟨wr.heap.size, 0, none⟩) 2 2) kr) := fun o => SC.blk (l := kr) (((bA2.below (al _ _)).below hb3).below (al w3 o)))
                | (go_at_call 6; (with_reducible refine (H6.out _ (bmore (bmore (bmore (bal (al wr _) _) hb2) (al _ _)) (bmore hb3 (al _ _))) _ (HS3.out _)).mono ?_); rintro e w4 ⟨rfl, nv4, E4, hT4, hk4, hl4⟩; have bT4 := (bT3.below (al _ _)).block (hk4.block _ (bT3.below (al _ _)).lt (by simp)); have t4 := bT4.here (j := 2) rfl; have HT4 : Hid (TI w w4 c m nv4 E4) := hT4; clear hT4 hk4))
              go_roundw
              case rel => exact ⟨k + 1, nv4, E4, by omega, by omega, by simp, by rw [hl4]; rfl, HT4⟩
              case measure => simp [RowKit.intOf]; omega
            · have h3i : ¬ (3 : Int) ≤ (E.length : Int) := by omega
              cases B2
              · have hR : refuse E ⟨nm q, kr, (nm s), 1⟩ = 5 := by rw [hrf, hB1, hB2]; simp [h3, nm]
                have H5q : Hid _ := get_round HT.out (nm q) (by simp [nm]) hB1
                have H6 : Hid _ := create_round HT.out (nm q) (nm s) 1 (by simp [nm]) (by simp [nm]) hR
                clear hrf hrt hR
                go_wp2_with (first
                  | (go_at_call 5; (with_reducible refine (H5q.out _ (bal (al wr _) _)).mono ?_); rintro e w2 ⟨a2, p2, l2, q2, b2, r2, rfl, hb2⟩; have bT2 : Blk w2 (wr.heap.size + 1) [.string (str (nm q)), .slice (some ⟨wr.heap.size, 0, none⟩) 2 2, .string (str (nm s)), .int .i64 1] 32 := (blk_at (wr.alloc _) _ 32 (by simp)).below hb2; have t2 := fun o => (bT2.below (al w2 o)).here (j := 2) rfl; have bA2 : Blk w2 wr.heap.size (cellsC kr) 29 := (kr_blk wr).below (bmore (al _ _) hb2))
                  | (go_at_call 5; (with_reducible refine (H5p.out _ (bmore (bmore (bal (al wr _) _) hb2) (al _ _))).mono ?_); rintro e w3 ⟨a3, p3, l3, q3, b3, r3, rfl, hb3⟩; have bT3 := (bT2.below (al _ _)).below hb3; have t30 := fun o => (bT3.below (al w3 o)).here (j := 0) rfl; have t31 := fun o => (bT3.below (al w3 o)).here (j := 1) rfl; have t32 := fun o => (bT3.below (al w3 o)).here (j := 2) rfl; have t33 := fun o => (bT3.below (al w3 o)).here (j := 3) rfl; have HS3 : Hid (∀ o, SC (w3.alloc o) (.slice (some ⟨wr.heap.size, 0, none⟩) 2 2) kr) := fun o => SC.blk (l := kr) (((bA2.below (al _ _)).below hb3).below (al w3 o)))
                  | (go_at_call 6; (with_reducible refine (H6.out _ (bmore (bmore (bmore (bal (al wr _) _) hb2) (al _ _)) (bmore hb3 (al _ _))) _ (HS3.out _)).mono ?_); rintro e w4 ⟨rfl, nv4, E4, hT4, hk4, hl4⟩; have bT4 := (bT3.below (al _ _)).block (hk4.block _ (bT3.below (al _ _)).lt (by simp)); have t4 := bT4.here (j := 2) rfl; have HT4 : Hid (TI w w4 c m nv4 E4) := hT4; clear hT4 hk4))
                go_roundw
                case rel => exact ⟨k + 1, nv4, E4, by omega, by omega, by simp, by rw [hl4]; rfl, HT4⟩
                case measure => simp [RowKit.intOf]; omega
              · have hR : refuse E ⟨nm q, kr, (nm s), 1⟩ = 0 := by rw [hrf, hB1, hB2]; simp [h3, nm]
                have H5q : Hid _ := get_round HT.out (nm q) (by simp [nm]) hB1
                have H6 : Hid _ := create_round HT.out (nm q) (nm s) 1 (by simp [nm]) (by simp [nm]) hR
                clear hrf hrt hR
                go_wp2_with (first
                  | (go_at_call 5; (with_reducible refine (H5q.out _ (bal (al wr _) _)).mono ?_); rintro e w2 ⟨a2, p2, l2, q2, b2, r2, rfl, hb2⟩; have bT2 : Blk w2 (wr.heap.size + 1) [.string (str (nm q)), .slice (some ⟨wr.heap.size, 0, none⟩) 2 2, .string (str (nm s)), .int .i64 1] 32 := (blk_at (wr.alloc _) _ 32 (by simp)).below hb2; have t2 := fun o => (bT2.below (al w2 o)).here (j := 2) rfl; have bA2 : Blk w2 wr.heap.size (cellsC kr) 29 := (kr_blk wr).below (bmore (al _ _) hb2))
                  | (go_at_call 5; (with_reducible refine (H5p.out _ (bmore (bmore (bal (al wr _) _) hb2) (al _ _))).mono ?_); rintro e w3 ⟨a3, p3, l3, q3, b3, r3, rfl, hb3⟩; have bT3 := (bT2.below (al _ _)).below hb3; have t30 := fun o => (bT3.below (al w3 o)).here (j := 0) rfl; have t31 := fun o => (bT3.below (al w3 o)).here (j := 1) rfl; have t32 := fun o => (bT3.below (al w3 o)).here (j := 2) rfl; have t33 := fun o => (bT3.below (al w3 o)).here (j := 3) rfl; have HS3 : Hid (∀ o, SC (w3.alloc o) (.slice (some ⟨wr.heap.size, 0, none⟩) 2 2) kr) := fun o => SC.blk (l := kr) (((bA2.below (al _ _)).below hb3).below (al w3 o)))
                  | (go_at_call 6; (with_reducible refine (H6.out _ (bmore (bmore (bmore (bal (al wr _) _) hb2) (al _ _)) (bmore hb3 (al _ _))) _ (HS3.out _)).mono ?_); rintro e w4 ⟨rfl, nv4, E4, hT4, hk4, hl4⟩; have bT4 := (bT3.below (al _ _)).block (hk4.block _ (bT3.below (al _ _)).lt (by simp)); have t4 := bT4.here (j := 2) rfl; have HT4 : Hid (TI w w4 c m nv4 E4) := hT4; clear hT4 hk4))
                go_roundw
                case rel => exact ⟨k + 1, nv4, E4, by omega, by omega, by simp, by rw [hl4]; rfl, HT4⟩
                case measure => simp [RowKit.intOf]; omega
          · have hR : refuse E ⟨nm q, kr, (nm s), 1⟩ = 6 := by rw [hrf]; simp [hB1]
            have H5q : Hid _ := get_round HT.out (nm q) (by simp [nm]) hB1
            have H6 : Hid _ := create_round HT.out (nm q) (nm s) 1 (by simp [nm]) (by simp [nm]) hR
            clear hrf hrt hR
            go_wp2_with (first
              | (go_at_call 5; (with_reducible refine (H5q.out _ (bal (al wr _) _)).mono ?_); rintro e w2 ⟨a2, p2, l2, q2, b2, r2, rfl, hb2⟩; have bT2 : Blk w2 (wr.heap.size + 1) [.string (str (nm q)), .slice (some ⟨wr.heap.size, 0, none⟩) 2 2, .string (str (nm s)), .int .i64 1] 32 := (blk_at (wr.alloc _) _ 32 (by simp)).below hb2; have t2 := fun o => (bT2.below (al w2 o)).here (j := 2) rfl; have bA2 : Blk w2 wr.heap.size (cellsC kr) 29 := (kr_blk wr).below (bmore (al _ _) hb2))
              | (go_at_call 5; (with_reducible refine (H5p.out _ (bmore (bmore (bal (al wr _) _) hb2) (al _ _))).mono ?_); rintro e w3 ⟨a3, p3, l3, q3, b3, r3, rfl, hb3⟩; have bT3 := (bT2.below (al _ _)).below hb3; have t30 := fun o => (bT3.below (al w3 o)).here (j := 0) rfl; have t31 := fun o => (bT3.below (al w3 o)).here (j := 1) rfl; have t32 := fun o => (bT3.below (al w3 o)).here (j := 2) rfl; have t33 := fun o => (bT3.below (al w3 o)).here (j := 3) rfl; have HS3 : Hid (∀ o, SC (w3.alloc o) (.slice (some ⟨wr.heap.size, 0, none⟩) 2 2) kr) := fun o => SC.blk (l := kr) (((bA2.below (al _ _)).below hb3).below (al w3 o)))
              | (go_at_call 6; (with_reducible refine (H6.out _ (bmore (bmore (bmore (bal (al wr _) _) hb2) (al _ _)) (bmore hb3 (al _ _))) _ (HS3.out _)).mono ?_); rintro e w4 ⟨rfl, nv4, E4, hT4, hk4, hl4⟩; have bT4 := (bT3.below (al _ _)).block (hk4.block _ (bT3.below (al _ _)).lt (by simp)); have t4 := bT4.here (j := 2) rfl; have HT4 : Hid (TI w w4 c m nv4 E4) := hT4; clear hT4 hk4))
            go_roundw
            case rel => exact ⟨k + 1, nv4, E4, by omega, by omega, by simp, by rw [hl4]; rfl, HT4⟩
            case measure => simp [RowKit.intOf]; omega
        · have hs4i : ¬ (s : Int) < 4 := by omega
          have hrt : rtB (nm q) kr [] 0 = true := right_nm q hq4
          have hrf := refuse_kr HT.out.cols hrt (.inl rfl)
          obtain ⟨B2, hB2⟩ : ∃ B, (fnd E []).isSome = B := ⟨_, rfl⟩
          have H5p : Hid (∀ w1, Below wr.heap.size wr w1 → Calls Try.prog 5 #[.pointer (some ⟨c, 0, none⟩), .string ⟨#[]⟩] w1 fun e w' => ∃ a va vl vc b r, e = .returned (.tuple #[TB a (.slice va vl vc) b r, .bool B2]) ∧ Below w1.heap.size w1 w') := get_round HT.out [] (by simp) hB2
          cases hB1 : (fnd E (nm q)).isSome
          · by_cases h3 : 3 ≤ E.length
            · have h3i : (3 : Int) ≤ (E.length : Int) := by omega
              have hR : refuse E ⟨nm q, kr, [], 0⟩ = 4 := by rw [hrf]; simp [hB1, h3]
              have H5q : Hid _ := get_round HT.out (nm q) (by simp [nm]) hB1
              have H6 : Hid (∀ w1, Below wr.heap.size wr w1 → ∀ v, SC w1 v kr → Calls Try.prog 6 #[.pointer (some ⟨c, 0, none⟩), TB (str (nm q)) v ⟨#[]⟩ 0] w1 fun e w' => e = .returned (.int .i64 4) ∧ ∃ nv' E', TI w w' c m nv' E' ∧ Keep (fun k => k < wr.heap.size) w1 w' ∧ E'.length = (if (4 : Int) = 0 then E.length + 1 else E.length)) := create_round HT.out (nm q) [] 0 (by simp [nm]) (by simp) hR
              clear hrf hrt hR
              go_wp2_with (first
                | (go_at_call 5; (with_reducible refine (H5q.out _ (bal (al wr _) _)).mono ?_); rintro e w2 ⟨a2, p2, l2, q2, b2, r2, rfl, hb2⟩; have bT2 : Blk w2 (wr.heap.size + 1) [.string (str (nm q)), .slice (some ⟨wr.heap.size, 0, none⟩) 2 2, .string ⟨#[]⟩, .int .i64 0] 32 := (blk_at (wr.alloc _) _ 32 (by simp)).below hb2; have t2 := fun o => (bT2.below (al w2 o)).here (j := 2) rfl; have bA2 : Blk w2 wr.heap.size (cellsC kr) 29 := (kr_blk wr).below (bmore (al _ _) hb2))
                | (go_at_call 5; (with_reducible refine (H5p.out _ (bmore (bmore (bal (al wr _) _) hb2) (al _ _))).mono ?_); rintro e w3 ⟨a3, p3, l3, q3, b3, r3, rfl, hb3⟩; have bT3 := (bT2.below (al _ _)).below hb3; have t30 := fun o => (bT3.below (al w3 o)).here (j := 0) rfl; have t31 := fun o => (bT3.below (al w3 o)).here (j := 1) rfl; have t32 := fun o => (bT3.below (al w3 o)).here (j := 2) rfl; have t33 := fun o => (bT3.below (al w3 o)).here (j := 3) rfl; have HS3 : Hid (∀ o, SC (w3.alloc o) (.slice (some ⟨wr.heap.size, 0, none⟩) 2 2) kr) := fun o => SC.blk (l := kr) (((bA2.below (al _ _)).below hb3).below (al w3 o)))
                | (go_at_call 6; (with_reducible refine (H6.out _ (bmore (bmore (bmore (bal (al wr _) _) hb2) (al _ _)) (bmore hb3 (al _ _))) _ (HS3.out _)).mono ?_); rintro e w4 ⟨rfl, nv4, E4, hT4, hk4, hl4⟩; have bT4 := (bT3.below (al _ _)).block (hk4.block _ (bT3.below (al _ _)).lt (by simp)); have t4 := bT4.here (j := 2) rfl; have HT4 : Hid (TI w w4 c m nv4 E4) := hT4; clear hT4 hk4))
              go_roundw
              case rel => exact ⟨k + 1, nv4, E4, by omega, by omega, by simp, by rw [hl4]; rfl, HT4⟩
              case measure => simp [RowKit.intOf]; omega
            · have h3i : ¬ (3 : Int) ≤ (E.length : Int) := by omega
              have hR : refuse E ⟨nm q, kr, [], 0⟩ = 0 := by rw [hrf]; simp [hB1, h3]
              have H5q : Hid _ := get_round HT.out (nm q) (by simp [nm]) hB1
              have H6 : Hid (∀ w1, Below wr.heap.size wr w1 → ∀ v, SC w1 v kr → Calls Try.prog 6 #[.pointer (some ⟨c, 0, none⟩), TB (str (nm q)) v ⟨#[]⟩ 0] w1 fun e w' => e = .returned (.int .i64 0) ∧ ∃ nv' E', TI w w' c m nv' E' ∧ Keep (fun k => k < wr.heap.size) w1 w' ∧ E'.length = (if (0 : Int) = 0 then E.length + 1 else E.length)) := create_round HT.out (nm q) [] 0 (by simp [nm]) (by simp) hR
              clear hrf hrt hR
              go_wp2_with (first
                | (go_at_call 5; (with_reducible refine (H5q.out _ (bal (al wr _) _)).mono ?_); rintro e w2 ⟨a2, p2, l2, q2, b2, r2, rfl, hb2⟩; have bT2 : Blk w2 (wr.heap.size + 1) [.string (str (nm q)), .slice (some ⟨wr.heap.size, 0, none⟩) 2 2, .string ⟨#[]⟩, .int .i64 0] 32 := (blk_at (wr.alloc _) _ 32 (by simp)).below hb2; have t2 := fun o => (bT2.below (al w2 o)).here (j := 2) rfl; have bA2 : Blk w2 wr.heap.size (cellsC kr) 29 := (kr_blk wr).below (bmore (al _ _) hb2))
                | (go_at_call 5; (with_reducible refine (H5p.out _ (bmore (bmore (bal (al wr _) _) hb2) (al _ _))).mono ?_); rintro e w3 ⟨a3, p3, l3, q3, b3, r3, rfl, hb3⟩; have bT3 := (bT2.below (al _ _)).below hb3; have t30 := fun o => (bT3.below (al w3 o)).here (j := 0) rfl; have t31 := fun o => (bT3.below (al w3 o)).here (j := 1) rfl; have t32 := fun o => (bT3.below (al w3 o)).here (j := 2) rfl; have t33 := fun o => (bT3.below (al w3 o)).here (j := 3) rfl; have HS3 : Hid (∀ o, SC (w3.alloc o) (.slice (some ⟨wr.heap.size, 0, none⟩) 2 2) kr) := fun o => SC.blk (l := kr) (((bA2.below (al _ _)).below hb3).below (al w3 o)))
                | (go_at_call 6; (with_reducible refine (H6.out _ (bmore (bmore (bmore (bal (al wr _) _) hb2) (al _ _)) (bmore hb3 (al _ _))) _ (HS3.out _)).mono ?_); rintro e w4 ⟨rfl, nv4, E4, hT4, hk4, hl4⟩; have bT4 := (bT3.below (al _ _)).block (hk4.block _ (bT3.below (al _ _)).lt (by simp)); have t4 := bT4.here (j := 2) rfl; have HT4 : Hid (TI w w4 c m nv4 E4) := hT4; clear hT4 hk4))
              go_roundw
              case rel => exact ⟨k + 1, nv4, E4, by omega, by omega, by simp, by rw [hl4]; rfl, HT4⟩
              case measure => simp [RowKit.intOf]; omega
          · have hR : refuse E ⟨nm q, kr, [], 0⟩ = 6 := by rw [hrf]; simp [hB1]
            have H5q : Hid _ := get_round HT.out (nm q) (by simp [nm]) hB1
            have H6 : Hid (∀ w1, Below wr.heap.size wr w1 → ∀ v, SC w1 v kr → Calls Try.prog 6 #[.pointer (some ⟨c, 0, none⟩), TB (str (nm q)) v ⟨#[]⟩ 0] w1 fun e w' => e = .returned (.int .i64 6) ∧ ∃ nv' E', TI w w' c m nv' E' ∧ Keep (fun k => k < wr.heap.size) w1 w' ∧ E'.length = (if (6 : Int) = 0 then E.length + 1 else E.length)) := create_round HT.out (nm q) [] 0 (by simp [nm]) (by simp) hR
            clear hrf hrt hR
            go_wp2_with (first
              | (go_at_call 5; (with_reducible refine (H5q.out _ (bal (al wr _) _)).mono ?_); rintro e w2 ⟨a2, p2, l2, q2, b2, r2, rfl, hb2⟩; have bT2 : Blk w2 (wr.heap.size + 1) [.string (str (nm q)), .slice (some ⟨wr.heap.size, 0, none⟩) 2 2, .string ⟨#[]⟩, .int .i64 0] 32 := (blk_at (wr.alloc _) _ 32 (by simp)).below hb2; have t2 := fun o => (bT2.below (al w2 o)).here (j := 2) rfl; have bA2 : Blk w2 wr.heap.size (cellsC kr) 29 := (kr_blk wr).below (bmore (al _ _) hb2))
              | (go_at_call 5; (with_reducible refine (H5p.out _ (bmore (bmore (bal (al wr _) _) hb2) (al _ _))).mono ?_); rintro e w3 ⟨a3, p3, l3, q3, b3, r3, rfl, hb3⟩; have bT3 := (bT2.below (al _ _)).below hb3; have t30 := fun o => (bT3.below (al w3 o)).here (j := 0) rfl; have t31 := fun o => (bT3.below (al w3 o)).here (j := 1) rfl; have t32 := fun o => (bT3.below (al w3 o)).here (j := 2) rfl; have t33 := fun o => (bT3.below (al w3 o)).here (j := 3) rfl; have HS3 : Hid (∀ o, SC (w3.alloc o) (.slice (some ⟨wr.heap.size, 0, none⟩) 2 2) kr) := fun o => SC.blk (l := kr) (((bA2.below (al _ _)).below hb3).below (al w3 o)))
              | (go_at_call 6; (with_reducible refine (H6.out _ (bmore (bmore (bmore (bal (al wr _) _) hb2) (al _ _)) (bmore hb3 (al _ _))) _ (HS3.out _)).mono ?_); rintro e w4 ⟨rfl, nv4, E4, hT4, hk4, hl4⟩; have bT4 := (bT3.below (al _ _)).block (hk4.block _ (bT3.below (al _ _)).lt (by simp)); have t4 := bT4.here (j := 2) rfl; have HT4 : Hid (TI w w4 c m nv4 E4) := hT4; clear hT4 hk4))
            go_roundw
            case rel => exact ⟨k + 1, nv4, E4, by omega, by omega, by simp, by rw [hl4]; rfl, HT4⟩
            case measure => simp [RowKit.intOf]; omega
      · have h2 : ¬ (k : Int) < 12 := by omega
        go_wp2_with (first
          | (go_at_call 7; refine H7.mono ?_; rintro e w2 ⟨g, rfl, hg, hbn, hb2⟩)
          | (go_at_call 8; refine (H8 w2).mono ?_; rintro e w3 ⟨rfl, hb3⟩))
        go_ret
        exact ⟨rfl, bmore F0 (bmore hb2 (bmore (al _ _) hb3))⟩
    · have h1 : ¬ (k : Int) < (N : Int) := by omega
      go_wp2_with (first
        | (go_at_call 7; refine H7.mono ?_; rintro e w2 ⟨g, rfl, hg, hbn, hb2⟩)
        | (go_at_call 8; refine (H8 w2).mono ?_; rintro e w3 ⟨rfl, hb3⟩))
      go_ret
      exact ⟨rfl, bmore F0 (bmore hb2 (bmore (al _ _) hb3))⟩
end Go.Proofs.Ytkoagjfbhkhfkaa
