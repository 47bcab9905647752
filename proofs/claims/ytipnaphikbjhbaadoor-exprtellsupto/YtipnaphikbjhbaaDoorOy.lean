/- The law ExprEqual. -/
import Derived.Test.YtipnaphikbjhbaaDoorRe
import Derived.BigQuiet
namespace Go.Proofs.YtipnaphikbjhbaaDoor
open Go.RowKit
set_option maxRecDepth 100000
variable {w w' W W0 : World} {cs : List Cd} {cols : List Co} {vals : List Va}
theorem A3.c8 {b : Nat} {s1 s2 s3 : Value} (h : A3 W0 W b s1 s2 s3 cs cols vals) (hk : ∀ x ∈ cs, x.kids.length ≤ 1048576) (nm : Bs) : Calls Tryd.prog 8 #[s1, .string (str nm)] W fun e w' => e = .returned (.tuple #[vlV (equalV cs nm).1, .bool (equalV cs nm).2]) ∧ Below W.heap.size W w' :=
  equal8 nm h.lc (Nat.le_trans h.n1 (by decide)) (fun x hx => by have := hk x hx; omega)
/-- A case and a value in a block. -/
structure A4 (w W : World) (s1 s2 s3 : Value) (cs : List Cd) (cols : List Co) (vals : List Va) (P : Nat) (d : Va) : Prop where
  a3 : A3 w W w.heap.size s1 s2 s3 cs cols vals
  bx : T.Blk W P [.int .u8 (d.1 : Int), .int .i64 d.2.1, .string (str d.2.2)] 30
section
variable {s1 s2 s3 : Value} {P : Nat} {d : Va}
theorem A4.below (h : A4 w W s1 s2 s3 cs cols vals P d) (k : Below W.heap.size W w') : A4 w w' s1 s2 s3 cs cols vals P d := ⟨h.a3.below k, h.bx.below k⟩
theorem A3.a4 {w8 : World} (h : A3 w W w.heap.size s1 s2 s3 cs cols vals) (k : Below W.heap.size W w8) (d : Va) : A4 w (w8.alloc (.cells #[.int .u8 (d.1 : Int), .int .i64 d.2.1, .string (str d.2.2)] 30)) s1 s2 s3 cs cols vals w8.heap.size d :=
  ⟨(h.below k).below (T.al _ _), T.blk_new w8 [.int .u8 (d.1 : Int), .int .i64 d.2.1, .string (str d.2.2)] 30⟩
end
/-- No column ahead of k has this name. -/
def FirstP (cols : List Co) (cn : Bs) (k : Nat) (ff : Bool) : Prop := ff = true ↔ ∀ (j : Nat) (d : Co), j < k → cols[j]? = some d → d.1 ≠ cn
theorem FirstP.zero (cols : List Co) (cn : Bs) : FirstP cols cn 0 true := ⟨fun _ _ _ hj => absurd hj (Nat.not_lt_zero _), fun _ => rfl⟩
theorem FirstP.keep {cn : Bs} {k : Nat} (h : FirstP cols cn k false) : FirstP cols cn (k + 1) false := ⟨fun h => (by cases h), fun g => h.2 (fun j d hj => g j d (by omega))⟩
theorem FirstP.no {cn : Bs} {k : Nat} {c : Co} (hc : cols[k]? = some c) (he : c.1 = cn) : FirstP cols cn (k + 1) false := ⟨fun h => (by cases h), fun h => absurd he (h k _ (by omega) hc)⟩
theorem FirstP.yes {cn : Bs} {k : Nat} {c : Co} (h : FirstP cols cn k true) (hc : cols[k]? = some c) (he : c.1 ≠ cn) : FirstP cols cn (k + 1) true := ⟨fun _ j d hj hd => by
  by_cases hjk : j = k
  · subst hjk
    rw [hc] at hd
    cases hd
    exact he
  · exact h.1 rfl j d (by omega) hd, fun _ => rfl⟩
theorem FirstP.all {cn : Bs} {k : Nat} (h : FirstP cols cn k true) : ∀ (j : Nat) (d : Co), j < k → cols[j]? = some d → d.1 ≠ cn := h.1 rfl
theorem law_plain {i : Nat} {c : Co} (hh : holdsV cols vals cs = true) (hc : cols[i]? = some c) (hf : ∀ (j : Nat) (d : Co), j < i → cols[j]? = some d → d.1 ≠ c.1) (h2 : (equalV cs c.1).2 = true) : vals[i]? = some (equalV cs c.1).1 := by
  have := equalV_holds hh h2
  unfold valOf at this
  rw [colN_first hc hf] at this
  exact this
set_option maxHeartbeats 16000000 in
/-- The law ExprEqual. -/
theorem equal4 {v : Value} (h : ICase w v cs cols vals) (hkk : ∀ x ∈ cs, x.kids.length ≤ 1048576) (hg : Good w) : Calls Tryd.prog 4 #[v] w fun e w' => e = .returned (.bool true) ∧ Below w.heap.size w w' := by
  obtain ⟨a1, c1, a2, c2, a3, c3, rfl, h1, h2, h3, m1, m2, m3⟩ := h.ex
  have k7 := few7 (W := w.alloc (.cells #[.slice a1 cs.length c1, .slice a2 cols.length c2, .slice a3 vals.length c3] 26)) a1 cs.length c1 a2 cols.length c2 a3 vals.length c3 h1.cap h2.cap.2 h3.cap.2 (fun e => h1.addr (by omega)) (fun e => lv_addr h2 (by omega)) (fun e => lv_addr h3 (by omega)) m1 m2 m3
  have HST : Hid (∀ w6, Below (w.alloc (.cells #[.slice a1 cs.length c1, .slice a2 cols.length c2, .slice a3 vals.length c3] 26)).heap.size (w.alloc (.cells #[.slice a1 cs.length c1, .slice a2 cols.length c2, .slice a3 vals.length c3] 26)) w6 → _) := fun w6 k6 => a3_start h1 h2 h3 h.kids h.size hg (T.al w _) (Nat.le_refl _) (T.blk_new w [.slice a1 cs.length c1, .slice a2 cols.length c2, .slice a3 vals.length c3] 26) k6
  have HKK : Hid (∀ x ∈ cs.take 40, x.kids.length ≤ 1048576) := fun x hx => hkk x (List.mem_of_mem_take hx)
  have q2 : min cols.length 8 = (cols.take 8).length := by rw [List.length_take]; exact Nat.min_comm _ _
  have q3 : min vals.length 8 = (vals.take 8).length := by rw [List.length_take]; exact Nat.min_comm _ _
  rw [q2, q3] at k7 HST
  have hN2 : (cols.take 8).length ≤ 8 := by rw [List.length_take]; exact Nat.min_le_left _ _
  have hN3 : (vals.take 8).length ≤ 8 := by rw [List.length_take]; exact Nat.min_le_left _ _
  generalize cs.length = l1 at *
  generalize cols.length = l2 at *
  generalize vals.length = l3 at *
  clear h h1 h2 h3 m1 m2 m3 hg q2 q3 hkk
  generalize min l1 40 = e1 at *
  generalize cs.take 40 = cs at *
  generalize cols.take 8 = cols at *
  generalize vals.take 8 = vals at *
  obtain ⟨n2, hn2⟩ : ∃ n, cols.length = n := ⟨_, rfl⟩
  obtain ⟨n3, hn3⟩ : ∃ n, vals.length = n := ⟨_, rfl⟩
  have HE2 : Hid (cols.length = n2) := hn2
  have HE3 : Hid (vals.length = n3) := hn3
  rw [hn2, hn3] at k7 HST
  rw [hn2] at hN2
  rw [hn3] at hN3
  clear hn2 hn3
  cases hh : holdsV cols vals cs
  · go_enter Tryd.func4, Tryd.ntmps4
    go_wp2_with (first
      | (go_at_call 10; have hq := H8.out.c10; (with_reducible refine Calls.mono hq ?_); clear hq; rintro e w9 ⟨rfl, h9⟩; have H9 : Hid _ := h9; clear h9)
      | (go_at_call 13; have hq := H7.out.c13; rw [hh] at hq; (with_reducible refine Calls.mono hq ?_); clear hq; rintro e w8 ⟨rfl, h8⟩; have H8 : Hid _ := h8; clear h8)
      | (go_at_call 7; refine Calls.mono k7 ?_; rintro e w6 ⟨rfl, k6⟩; obtain ⟨⟨f1, f2, f3, f4, f5, f6⟩, g6⟩ := HST.out w6 k6; obtain ⟨x0, x1, x2⟩ := g6.cells; have H7 : Hid _ := g6; clear g6 k6))
    go_ret
    exact ⟨rfl, H9.out.bel⟩
  · have HH : Hid (holdsV cols vals cs = true) := hh
    go_enter Tryd.func4, Tryd.ntmps4
    go_wp2_with (first
      | (go_at_call 13; have hq := H7.out.c13; rw [hh] at hq; (with_reducible refine Calls.mono hq ?_); clear hq; rintro e w8 ⟨rfl, h8⟩; have H8 : Hid _ := h8; clear h8)
      | (go_at_call 7; refine Calls.mono k7 ?_; rintro e w6 ⟨rfl, k6⟩; obtain ⟨⟨f1, f2, f3, f4, f5, f6⟩, g6⟩ := HST.out w6 k6; obtain ⟨x0, x1, x2⟩ := g6.cells; have H7 : Hid _ := g6; clear g6 k6))
    clear hh H7 f1 f2 f3 f4 f5 f6 x0 x1 x2 HST
    go_loopw [3] (fun q wr => ∃ (i : Nat), q = .int .i64 (i : Int) ∧ Hid (i ≤ n2) ∧ Hid (A3 w wr w.heap.size (.slice a1 e1 c1) (.slice a2 n2 c2) (.slice a3 n3 c3) cs cols vals)) (fun q _ => n2 - (RowKit.intOf q).toNat)
    case atStart => exact ⟨0, rfl, Nat.zero_le _, H8⟩
    case round =>
      obtain ⟨i, rfl, hi3, h6⟩ := hrel
      have hii := hi3.out
      obtain ⟨z0, z1, z2⟩ := h6.out.cells
      by_cases hlt : i < n2
      · have hj1 : (i : Int) < (n2 : Int) := by omega
        have hj0 : (0 : Int) ≤ (i : Int) := by omega
        have hw1 : IntKind.i64.wrap ((i : Int) + 1) = (i : Int) + 1 := wrap_small _ (by omega) (by omega)
        obtain ⟨⟨cn, ck⟩, hc⟩ : ∃ c, cols[i]? = some c := ⟨_, List.getElem?_eq_getElem (by rw [HE2.out]; exact hlt)⟩
        have HC : Hid (cols[i]? = some (cn, ck)) := hc
        obtain ⟨g2, o2, rfl, hc2⟩ := h6.out.cv.at hc
        clear hc hc2
        have HD : Hid (A3 w wr.drew w.heap.size (.slice a1 e1 c1) (.slice (some ⟨g2, o2, none⟩) n2 c2) (.slice a3 n3 c3) cs cols vals) := h6.out.below (Below.refl _ _).drew
        have HDa : Hid (A3 w (wr.alloc (.cells #[.int .u8 0, .int .i64 0, .string ⟨#[]⟩] 30)).drew w.heap.size (.slice a1 e1 c1) (.slice (some ⟨g2, o2, none⟩) n2 c2) (.slice a3 n3 c3) cs cols vals) := h6.out.below ((T.al wr _).trans (Below.refl _ _).drew)
        have HS : Hid (∀ W, A3 w W w.heap.size (.slice a1 e1 c1) (.slice (some ⟨g2, o2, none⟩) n2 c2) (.slice a3 n3 c3) cs cols vals → W.cell? ⟨w.heap.size, 0, none⟩ = some (.slice a1 e1 c1) ∧ W.cell? ⟨w.heap.size, 1, none⟩ = some (.slice (some ⟨g2, o2, none⟩) n2 c2) ∧ W.cell? ⟨g2, o2 + i * 2, none⟩ = some (.string (str cn))) := fun W h => by
          obtain ⟨g', o', e, hc'⟩ := h.cv.at HC.out
          cases e
          have := hc' 0 (by decide)
          exact ⟨h.cells.1, h.cells.2.1, by simpa [EK] using this⟩
        generalize hD : equalV cs cn = D at *
        have HDD : Hid (equalV cs cn = D) := hD
        clear hD
        obtain ⟨⟨dk, dn, dt⟩, db⟩ := D
        have HW : Hid (∀ w8, Below (wr.alloc (.cells #[.int .u8 0, .int .i64 0, .string ⟨#[]⟩] 30)).drew.heap.size (wr.alloc (.cells #[.int .u8 0, .int .i64 0, .string ⟨#[]⟩] 30)).drew w8 → (w8.cell? ⟨wr.heap.size, 0, none⟩ = some (.int .u8 0) ∧ w8.frozen? ⟨wr.heap.size, 0, none⟩ = false ∧ (w8.setCell ⟨wr.heap.size, 0, none⟩ (.int .u8 (dk : Int))).cell? ⟨wr.heap.size, 1, none⟩ = some (.int .i64 0) ∧ (w8.setCell ⟨wr.heap.size, 0, none⟩ (.int .u8 (dk : Int))).frozen? ⟨wr.heap.size, 1, none⟩ = false ∧ ((w8.setCell ⟨wr.heap.size, 0, none⟩ (.int .u8 (dk : Int))).setCell ⟨wr.heap.size, 1, none⟩ (.int .i64 dn)).cell? ⟨wr.heap.size, 2, none⟩ = some (.string ⟨#[]⟩) ∧ ((w8.setCell ⟨wr.heap.size, 0, none⟩ (.int .u8 (dk : Int))).setCell ⟨wr.heap.size, 1, none⟩ (.int .i64 dn)).frozen? ⟨wr.heap.size, 2, none⟩ = false) ∧ A4 w (((w8.setCell ⟨wr.heap.size, 0, none⟩ (.int .u8 (dk : Int))).setCell ⟨wr.heap.size, 1, none⟩ (.int .i64 dn)).setCell ⟨wr.heap.size, 2, none⟩ (.string (str dt))) (.slice a1 e1 c1) (.slice (some ⟨g2, o2, none⟩) n2 c2) (.slice a3 n3 c3) cs cols vals wr.heap.size (dk, dn, dt)) := fun w8 b8 => by
          have hb : T.Blk w8 wr.heap.size [.int .u8 0, .int .i64 0, .string ⟨#[]⟩] 30 := (T.blk_new wr [.int .u8 0, .int .i64 0, .string ⟨#[]⟩] 30).below ((Below.refl _ _).drew.trans b8)
          have hx := bx3 hb (.int .u8 (dk : Int)) (.int .i64 dn) (.string (str dt))
          have hBB : Below wr.heap.size wr (((w8.setCell ⟨wr.heap.size, 0, none⟩ (.int .u8 (dk : Int))).setCell ⟨wr.heap.size, 1, none⟩ (.int .i64 dn)).setCell ⟨wr.heap.size, 2, none⟩ (.string (str dt))) := T.bset (T.bset (T.bset ((T.al wr (.cells #[.int .u8 0, .int .i64 0, .string ⟨#[]⟩] 30)).trans (((Below.refl _ _).drew.trans b8).mono (by simp))) (p := ⟨wr.heap.size, 0, none⟩) (Nat.le_refl _) _) (p := ⟨wr.heap.size, 1, none⟩) (Nat.le_refl _) _) (p := ⟨wr.heap.size, 2, none⟩) (Nat.le_refl _) _
          exact ⟨hx.1, h6.out.below hBB, ((hb.set (o := 0) _).set (o := 1) _).set (o := 2) _⟩
        have HC8 : Hid (∀ W, A3 w W w.heap.size (.slice a1 e1 c1) (.slice (some ⟨g2, o2, none⟩) n2 c2) (.slice a3 n3 c3) cs cols vals → Calls Tryd.prog 8 #[.slice a1 e1 c1, .string (str cn)] W fun e w' => e = .returned (.tuple #[.agg #[.int .u8 (dk : Int), .int .i64 dn, .string (str dt)], .bool db]) ∧ Below W.heap.size W w') := fun W h => by
          have := h.c8 HKK.out cn
          rw [HDD.out] at this
          exact this
        go_wp2
        go_region_held3 (fun W => W.cell? ⟨w.heap.size, 0, none⟩ = some (.slice a1 e1 c1) ∧ W.cell? ⟨w.heap.size, 1, none⟩ = some (.slice (some ⟨g2, o2, none⟩) n2 c2) ∧ W.cell? ⟨g2, o2 + i * 2, none⟩ = some (.string (str cn))) (first | exact HS.out _ HF.out.a3 | exact HS.out _ (HD.out.below B8.out) | exact HS.out _ HD.out | exact HS.out _ HDa.out | exact HS.out _ (HDa.out.below B8.out) | exact HS.out _ ((HD.out.below B8.out).below (T.al _ _))) (first
          | (go_at_call 8; have hq := HC8.out _ HD.out; (with_reducible refine Calls.mono hq ?_); clear hq; rintro e w8 ⟨rfl, b8⟩; have B8 : Hid _ := b8; have HF : Hid _ := HD.out.a4 b8 (dk, dn, dt); clear b8)
          | (go_at_call 8; have hq := HC8.out _ HDa.out; (with_reducible refine Calls.mono hq ?_); clear hq; rintro e w8 ⟨rfl, b8⟩; have B8 : Hid _ := b8; obtain ⟨⟨f1, f2, f3, f4, f5, f6⟩, f7⟩ := HW.out _ b8; have HF : Hid _ := f7; clear b8 f7))
        · generalize (w8.alloc (.cells #[.int .u8 (dk : Int), .int .i64 dn, .string (str dt)] 30)) = W9 at HF ⊢
          generalize w8.heap.size = P at HF ⊢
          clear B8 HDa HD HC8 HW z0 z1 z2
          go_wp2_with fail
          go_loopw [6, 7] (fun p q wr => ∃ (k : Nat) (ff : Bool), p = .bool ff ∧ q = .int .i64 (k : Int) ∧ Hid (k ≤ i) ∧ Hid (FirstP cols cn k ff) ∧ Hid (A4 w wr (.slice a1 e1 c1) (.slice (some ⟨g2, o2, none⟩) n2 c2) (.slice a3 n3 c3) cs cols vals P (dk, dn, dt))) (fun _ q _ => i - (RowKit.intOf q).toNat)
          case atStart => exact ⟨0, true, rfl, rfl, Nat.zero_le _, FirstP.zero _ _, HF⟩
          case round =>
            obtain ⟨k, ff, rfl, rfl, hk3, hff, h62⟩ := hrel
            have hkk := hk3.out
            have y0 := h62.out.a3.cells.2.1
            by_cases hlk : k < i
            · have hj3 : (k : Int) < (i : Int) := by omega
              have hj4 : (0 : Int) ≤ (k : Int) := by omega
              have hj5 : (k : Int) < (n2 : Int) := by omega
              have hw2 : IntKind.i64.wrap ((k : Int) + 1) = (k : Int) + 1 := wrap_small _ (by omega) (by omega)
              obtain ⟨⟨xn, xk⟩, hx⟩ : ∃ x, cols[k]? = some x := ⟨_, List.getElem?_eq_getElem (by rw [HE2.out]; omega)⟩
              have y1 : wr.cell? ⟨g2, o2 + i * 2, none⟩ = some (.string (str cn)) := (HS.out _ h62.out.a3).2.2
              have y2 : wr.cell? ⟨g2, o2 + k * 2, none⟩ = some (.string (str xn)) := by
                obtain ⟨g', o', e, hc'⟩ := h62.out.a3.cv.at hx
                cases e
                have := hc' 0 (by decide)
                simpa [EK] using this
              have HX : Hid (cols[k]? = some (xn, xk)) := hx
              clear hx
              cases ff
              · have HF' : Hid (FirstP cols cn (k + 1) false) := FirstP.keep hff.out
                clear y1 y2
                go_wp2
                go_quiet (fail)
                go_wp2_with fail
                go_roundw
                case rel => exact ⟨k + 1, false, rfl, by simp, by show _ ≤ _; omega, HF', h62.out.below (belN (Below.refl _ _) _)⟩
                case measure => simp [RowKit.intOf]; omega
              · by_cases hcn : xn = cn
                · have e1 : (xn == cn) = true := by simp [hcn]
                  have e2 : (!(xn == cn)) = false := by simp [hcn]
                  have HF' : Hid (FirstP cols cn (k + 1) false) := FirstP.no HX.out hcn
                  clear hcn
                  go_wp2
                  go_quiet (fail)
                  go_wp2_with fail
                  go_roundw
                  case rel => exact ⟨k + 1, false, rfl, by simp, by show _ ≤ _; omega, HF', h62.out.below (belN (Below.refl _ _) _)⟩
                  case measure => simp [RowKit.intOf]; omega
                · have e1 : (xn == cn) = false := beq_eq_false_iff_ne.2 hcn
                  have e2 : (!(xn == cn)) = true := by rw [e1]; rfl
                  have HF' : Hid (FirstP cols cn (k + 1) true) := FirstP.yes hff.out HX.out hcn
                  clear hcn
                  go_wp2
                  go_quiet (fail)
                  go_wp2_with fail
                  go_roundw
                  case rel => exact ⟨k + 1, true, rfl, by simp, by show _ ≤ _; omega, HF', h62.out.below (belN (Below.refl _ _) _)⟩
                  case measure => simp [RowKit.intOf]; omega
            · obtain rfl : k = i := by omega
              have hk' : ¬ (k : Int) < (k : Int) := by omega
              cases db
              · go_wp2
                go_quiet (fail)
                go_wp2_with fail
                go_roundw
                case rel => exact ⟨k + 1, by simp, by show _ ≤ _; omega, h62.out.a3.below (belN (Below.refl _ _) _)⟩
                case measure => simp [RowKit.intOf]; omega
              · cases ff
                · go_wp2
                  go_quiet (fail)
                  go_wp2_with fail
                  go_roundw
                  case rel => exact ⟨k + 1, by simp, by show _ ≤ _; omega, h62.out.a3.below (belN (Below.refl _ _) _)⟩
                  case measure => simp [RowKit.intOf]; omega
                · have hv := law_plain HH.out HC.out (FirstP.all hff.out) (by rw [HDD.out])
                  rw [HDD.out] at hv
                  have hv3 : k < n3 := by have := (List.getElem?_eq_some_iff.1 hv).1; rw [HE3.out] at this; exact this
                  have hj6 : (k : Int) < (n3 : Int) := by omega
                  have hj7 : ¬ (n3 : Int) ≤ (k : Int) := by omega
                  have hj8 : decide ((n3 : Int) ≤ (k : Int)) = false := decide_eq_false hj7
                  obtain ⟨g3, o3, rfl, hc3⟩ := h62.out.a3.vv.at hv
                  have y3 := h62.out.a3.cells.2.2
                  have y4 : wr.cell? ⟨g3, o3 + k * 3, none⟩ = some (.int .u8 (dk : Int)) := hc3 0 (by decide)
                  have y5 : wr.cell? ⟨g3, o3 + k * 3 + 1, none⟩ = some (.int .i64 dn) := hc3 1 (by decide)
                  have y6 : wr.cell? ⟨g3, o3 + k * 3 + 2, none⟩ = some (.string (str dt)) := hc3 2 (by decide)
                  have y7 := h62.out.bx.cell 0
                  have y8 := h62.out.bx.cell 1
                  have y9 := h62.out.bx.cell 2
                  simp only [List.getElem?_cons_succ, List.getElem?_cons_zero] at y7 y8 y9
                  clear hv hc3
                  go_wp2
                  go_quiet (fail)
                  go_wp2_with fail
                  go_roundw
                  case rel => exact ⟨k + 1, by simp, by show _ ≤ _; omega, h62.out.a3.below (belN (Below.refl _ _) _)⟩
                  case measure => simp [RowKit.intOf]; omega
        · generalize (((w8.setCell ⟨wr.heap.size, 0, none⟩ (.int .u8 (dk : Int))).setCell ⟨wr.heap.size, 1, none⟩ (.int .i64 dn)).setCell ⟨wr.heap.size, 2, none⟩ (.string (str dt))) = W9 at HF ⊢
          generalize wr.heap.size = P at HF ⊢
          clear B8 HDa HD HC8 HW z0 z1 z2
          go_wp2_with fail
          go_loopw [6, 7] (fun p q wr => ∃ (k : Nat) (ff : Bool), p = .bool ff ∧ q = .int .i64 (k : Int) ∧ Hid (k ≤ i) ∧ Hid (FirstP cols cn k ff) ∧ Hid (A4 w wr (.slice a1 e1 c1) (.slice (some ⟨g2, o2, none⟩) n2 c2) (.slice a3 n3 c3) cs cols vals P (dk, dn, dt))) (fun _ q _ => i - (RowKit.intOf q).toNat)
          case atStart => exact ⟨0, true, rfl, rfl, Nat.zero_le _, FirstP.zero _ _, HF⟩
          case round =>
            obtain ⟨k, ff, rfl, rfl, hk3, hff, h62⟩ := hrel
            have hkk := hk3.out
            have y0 := h62.out.a3.cells.2.1
            by_cases hlk : k < i
            · have hj3 : (k : Int) < (i : Int) := by omega
              have hj4 : (0 : Int) ≤ (k : Int) := by omega
              have hj5 : (k : Int) < (n2 : Int) := by omega
              have hw2 : IntKind.i64.wrap ((k : Int) + 1) = (k : Int) + 1 := wrap_small _ (by omega) (by omega)
              obtain ⟨⟨xn, xk⟩, hx⟩ : ∃ x, cols[k]? = some x := ⟨_, List.getElem?_eq_getElem (by rw [HE2.out]; omega)⟩
              have y1 : wr.cell? ⟨g2, o2 + i * 2, none⟩ = some (.string (str cn)) := (HS.out _ h62.out.a3).2.2
              have y2 : wr.cell? ⟨g2, o2 + k * 2, none⟩ = some (.string (str xn)) := by
                obtain ⟨g', o', e, hc'⟩ := h62.out.a3.cv.at hx
                cases e
                have := hc' 0 (by decide)
                simpa [EK] using this
              have HX : Hid (cols[k]? = some (xn, xk)) := hx
              clear hx
              cases ff
              · have HF' : Hid (FirstP cols cn (k + 1) false) := FirstP.keep hff.out
                clear y1 y2
                go_wp2
                go_quiet (fail)
                go_wp2_with fail
                go_roundw
                case rel => exact ⟨k + 1, false, rfl, by simp, by show _ ≤ _; omega, HF', h62.out.below (belN (Below.refl _ _) _)⟩
                case measure => simp [RowKit.intOf]; omega
              · by_cases hcn : xn = cn
                · have e1 : (xn == cn) = true := by simp [hcn]
                  have e2 : (!(xn == cn)) = false := by simp [hcn]
                  have HF' : Hid (FirstP cols cn (k + 1) false) := FirstP.no HX.out hcn
                  clear hcn
                  go_wp2
                  go_quiet (fail)
                  go_wp2_with fail
                  go_roundw
                  case rel => exact ⟨k + 1, false, rfl, by simp, by show _ ≤ _; omega, HF', h62.out.below (belN (Below.refl _ _) _)⟩
                  case measure => simp [RowKit.intOf]; omega
                · have e1 : (xn == cn) = false := beq_eq_false_iff_ne.2 hcn
                  have e2 : (!(xn == cn)) = true := by rw [e1]; rfl
                  have HF' : Hid (FirstP cols cn (k + 1) true) := FirstP.yes hff.out HX.out hcn
                  clear hcn
                  go_wp2
                  go_quiet (fail)
                  go_wp2_with fail
                  go_roundw
                  case rel => exact ⟨k + 1, true, rfl, by simp, by show _ ≤ _; omega, HF', h62.out.below (belN (Below.refl _ _) _)⟩
                  case measure => simp [RowKit.intOf]; omega
            · obtain rfl : k = i := by omega
              have hk' : ¬ (k : Int) < (k : Int) := by omega
              cases db
              · go_wp2
                go_quiet (fail)
                go_wp2_with fail
                go_roundw
                case rel => exact ⟨k + 1, by simp, by show _ ≤ _; omega, h62.out.a3.below (belN (Below.refl _ _) _)⟩
                case measure => simp [RowKit.intOf]; omega
              · cases ff
                · go_wp2
                  go_quiet (fail)
                  go_wp2_with fail
                  go_roundw
                  case rel => exact ⟨k + 1, by simp, by show _ ≤ _; omega, h62.out.a3.below (belN (Below.refl _ _) _)⟩
                  case measure => simp [RowKit.intOf]; omega
                · have hv := law_plain HH.out HC.out (FirstP.all hff.out) (by rw [HDD.out])
                  rw [HDD.out] at hv
                  have hv3 : k < n3 := by have := (List.getElem?_eq_some_iff.1 hv).1; rw [HE3.out] at this; exact this
                  have hj6 : (k : Int) < (n3 : Int) := by omega
                  have hj7 : ¬ (n3 : Int) ≤ (k : Int) := by omega
                  have hj8 : decide ((n3 : Int) ≤ (k : Int)) = false := decide_eq_false hj7
                  obtain ⟨g3, o3, rfl, hc3⟩ := h62.out.a3.vv.at hv
                  have y3 := h62.out.a3.cells.2.2
                  have y4 : wr.cell? ⟨g3, o3 + k * 3, none⟩ = some (.int .u8 (dk : Int)) := hc3 0 (by decide)
                  have y5 : wr.cell? ⟨g3, o3 + k * 3 + 1, none⟩ = some (.int .i64 dn) := hc3 1 (by decide)
                  have y6 : wr.cell? ⟨g3, o3 + k * 3 + 2, none⟩ = some (.string (str dt)) := hc3 2 (by decide)
                  have y7 := h62.out.bx.cell 0
                  have y8 := h62.out.bx.cell 1
                  have y9 := h62.out.bx.cell 2
                  simp only [List.getElem?_cons_succ, List.getElem?_cons_zero] at y7 y8 y9
                  clear hv hc3
                  go_wp2
                  go_quiet (fail)
                  go_wp2_with fail
                  go_roundw
                  case rel => exact ⟨k + 1, by simp, by show _ ≤ _; omega, h62.out.a3.below (belN (Below.refl _ _) _)⟩
                  case measure => simp [RowKit.intOf]; omega
      · obtain rfl : i = n2 := by omega
        have hi : ¬ (i : Int) < (i : Int) := by omega
        go_wp2_with (go_at_call 10; have hq := h6.out.c10; (with_reducible refine Calls.mono hq ?_); clear hq; rintro e w9 ⟨rfl, h9⟩; have H9 : Hid _ := h9; clear h9)
        go_ret
        exact ⟨rfl, H9.out.bel⟩
end Go.Proofs.YtipnaphikbjhbaaDoor
