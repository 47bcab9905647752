/- disk.Crash. -/
import Derived.Test.YtnganmekiloigaaFl
namespace Go.Proofs.Ytnganmekiloigaa
open Go.RowKit
set_option maxRecDepth 100000
variable {W : World} {d s : Nat} {wv : Value} {D : Dk}

/-- The slice v reads as the truths l. -/
def KB (w : World) (v : Value) (l : List Bool) : Prop := (∃ a c, v = .slice a 0 c ∧ l = []) ∨ (∃ b o c, v = .slice (some ⟨b, o, none⟩) l.length c ∧ 0 < l.length ∧ ∀ i, i < l.length → w.cell? ⟨b, o + i, none⟩ = some (.bool (l.getD i false)))
theorem KB.form {w : World} {v : Value} {l : List Bool} (h : KB w v l) : ∃ a c, v = .slice a l.length c ∧ (∀ i, i < l.length → ∃ b o, a = some ⟨b, o, none⟩ ∧ w.cell? ⟨b, o + i, none⟩ = some (.bool (l.getD i false))) := by
  rcases h with ⟨a, c, rfl, rfl⟩ | ⟨b, o, c, rfl, h0, hat⟩
  · exact ⟨a, c, rfl, fun i h => by simp at h⟩
  · exact ⟨_, c, rfl, fun i hi => ⟨b, o, rfl, hat i hi⟩⟩
theorem crash_dx {x0 x1 x2 x3 x4 : Value} (h : Dx W d x0 x1 x2 x3 x4) : Dx (((((W.setCell ⟨d, 0, none⟩ x0).setCell ⟨d, 1, none⟩ (.slice none 0 0)).setCell ⟨d, 2, none⟩ (.bool false)).setCell ⟨d, 3, none⟩ (.int .i64 0)).setCell ⟨d, 4, none⟩ (.bool false)) d x0 (.slice none 0 0) (.bool false) (.int .i64 0) (.bool false) :=
  ((((h.set0 x0).set1 _).set2 _).set3 _).set4 _
theorem PD.crashed (h : PD W d s wv D) (secs : List Bs) (hs : D.secs = secs) :
    PD (((((W.setCell ⟨d, 0, none⟩ (.slice (some ⟨s, 0, none⟩) D.secs.length D.cap)).setCell ⟨d, 1, none⟩ (.slice none 0 0)).setCell ⟨d, 2, none⟩ (.bool false)).setCell ⟨d, 3, none⟩ (.int .i64 0)).setCell ⟨d, 4, none⟩ (.bool false)) d s (.slice none 0 0) { secs := secs, wait := [], cut := false, left := 0, off := false, cap := D.cap } := by
  subst hs
  have hk : ∀ (w : World) k o v, k ≠ d → (w.setCell ⟨d, o, none⟩ v).heap[k]? = w.heap[k]? := fun w k o v hk => Below.heap_setCell _ _ _ _ hk
  refine ⟨crash_dx h.dx, h.secs.block ?_, World.ownsRow_nil _ _ _ _, ⟨h.ok.secs, fun x hx => by simp at hx, by simp⟩, h.ne, by simp [Value.ownBlock], by simpa [World.setCell] using h.slt⟩
  rw [hk _ s _ _ h.ne, hk _ s _ _ h.ne, hk _ s _ _ h.ne, hk _ s _ _ h.ne, hk _ s _ _ h.ne]

theorem crash18_none (v : Value) (hv : ∃ a n c, v = .slice a n c) : Calls Try.prog 18 #[.pointer none, v] W fun e w' => e = .returned (.tuple #[]) ∧ w' = W := by
  obtain ⟨a, n, c, rfl⟩ := hv
  go_enter Try.func18, Try.ntmps18
  go_wp2
  refine bodyPost_ret (results_none rfl _ _ _) rfl ?_
  exact ⟨rfl, rfl⟩

set_option maxHeartbeats 2000000 in
theorem crash18 (h : PD W d s wv D) (hlen : D.wait.length ≤ 100000) (v : Value) (kl : List Bool) (hv : KB W v kl) (hvf : ∀ a n c, v = .slice (some a) n c → 0 < kl.length → ¬ foot d s wv a.block) :
    Calls Try.prog 18 #[.pointer (some ⟨d, 0, none⟩), v] W fun e w' => e = .returned (.tuple #[]) ∧ Left W d s wv (D.crash kl) w' := by
  obtain ⟨va, vc, rfl⟩ := h.wform
  obtain ⟨ka, kc, rfl, hkf⟩ := hv.form
  obtain ⟨N, hN⟩ : ∃ N, D.wait.length = N := ⟨_, rfl⟩
  rw [hN] at h hvf hlen ⊢
  have HN : Hid (D.wait.length = N) := hN
  have HK : Hid (∀ i, i < kl.length → ∃ b o, ka = some ⟨b, o, none⟩ ∧ W.cell? ⟨b, o + i, none⟩ = some (.bool (kl.getD i false)) ∧ ¬ foot d s (.slice va N vc) b) := fun i hi => by
    obtain ⟨b, o, e, h1⟩ := hkf i hi
    exact ⟨b, o, e, h1, hvf ⟨b, o, none⟩ kl.length kc (by rw [e]) (by omega)⟩
  have e1 := h.dx.c1
  have HP2 : Hid (PD W d s (.slice va N vc) D) := h
  clear hN hv hkf hvf h
  obtain ⟨kf, hkf⟩ : ∃ kf : Nat → Bool, (fun k => kl.getD k false) = kf := ⟨_, rfl⟩
  have HCr : Hid (∀ m, D.wait.length ≤ m → ({ secs := (D.landed kf m).secs, wait := [], cut := false, left := 0, off := false, cap := (D.landed kf m).cap } : Dk) = D.crash kl) := fun m hm => by rw [landed_all _ _ hm, ← hkf]; rfl
  generalize D.crash kl = Dc at *
  have HK2 : Hid (∀ i, i < kl.length → ∃ b o, ka = some ⟨b, o, none⟩ ∧ W.cell? ⟨b, o + i, none⟩ = some (.bool (kf i)) ∧ ¬ foot d s (.slice va N vc) b) := by rw [← hkf]; exact HK
  have HK3 : Hid (∀ i, kl.length ≤ i → kf i = false) := fun i hi => by rw [← hkf]; simp [List.getElem?_eq_none hi]
  clear HK hkf
  generalize kl.length = KN at *
  clear kl
  go_enter Try.func18, Try.ntmps18
  go_wp2
  go_loopw [13] (fun p wr => ∃ m : Nat, m ≤ N ∧ p = .int .i64 (m : Int) ∧ Hid (PD wr d s (.slice va N vc) (D.landed kf m)) ∧ Keep (foot d s (.slice va N vc)) W wr) (fun p _ => N - (intOf p).toNat)
  case atStart => exact ⟨0, by omega, rfl, by rw [landed_zero]; exact HP2, Keep.refl _ _⟩
  case round =>
    obtain ⟨m, hm, rfl, hP, hK⟩ := hrel
    by_cases hlt : m < N
    · have hlt1 : (m : Int) < (N : Int) := by omega
      obtain ⟨⟨q, b⟩, hx⟩ : ∃ x, D.wait[m]? = some x := ⟨_, List.getElem?_eq_getElem (by rw [HN.out]; exact hlt)⟩
      obtain ⟨hb64, hq⟩ : b.length = 64 ∧ q < (D.landed kf m).secs.length := hP.out.ok.wait (q, b) (List.mem_of_getElem? hx)
      have HS : Hid (D.landed kf (m + 1) = if kf m then { D.landed kf m with secs := (D.landed kf m).secs.set q b } else D.landed kf m) := landed_succ hx
      obtain ⟨g, c, he, hrg⟩ := hP.out.wait.at' (fun x hx => (hP.out.ok.wait x hx).1) hx
      have hva : va = some ⟨g, 0, none⟩ := by
        simp only [Value.slice.injEq] at he
        exact he.1
      subst hva
      generalize D.landed kf m = Dm at *
      clear he hx
      have hcl : (cellW q b).length = 65 := cellW_length hb64
      have hi : (Try.prog.info? 93).map (·.size) = some (cellW q b).length := by rw [hcl]; exact info93s
      have hc1 := cellW_one q b
      have hzl : (cellW 0 Z64).length = 65 := cellW_length Z64_length
      have hzi : (Try.prog.info? 93).map (fun i => (i.zero, i.size, i.bytes)) = some (some (.agg (cellW 0 Z64).toArray), 65, 72) := by rw [← z93]; exact info93z
      generalize cellW 0 Z64 = z0 at *
      have HC : Hid (∀ (w : World) (k : Nat), Blk w k (cellW q b) 93 → w.cell? ⟨k, 0, none⟩ = some (.int .i64 (q : Int)) ∧ w.rangeAt k 1 (cellsB b)) := fun w k hb => ⟨(hb.cell 0).trans rfl, hb.range fun j v hv => by rw [show 1 + j = j + 1 by omega]; exact hv⟩
      generalize cellW q b = cw at *
      by_cases hmk : m < KN
      · have hmk1 : (m : Int) < (KN : Int) := by omega
        obtain ⟨kb, ko, hka, hkc, hkF⟩ := HK2.out m hmk
        subst hka
        have hkl := World.block_lt_of_cell? _ _ hkc
        have hkc' : wr.cell? ⟨kb, ko + m, none⟩ = some (.bool (kf m)) := (World.cell?_of_block (a := ⟨kb, ko + m, none⟩) (hK.block kb hkl hkF)).trans hkc
        have HKF : Hid (kb < wr.heap.size) := Nat.lt_of_lt_of_le hkl hK.size
        cases hkp : kf m
        · rw [hkp] at hkc' HS
          clear hkp hkc
          go_wp2_with (first
          | (refine wpList_load_mid rfl 93 (.tmp 16) rfl g (m * 65) rfl cw _ hrg Try.underlying93 rfl hi ?_)
          | (refine wpList_alloc_row rfl 93 rfl z0 hzi ?_; intro w3 hb3 hB3 hs3)
          | (refine wpList_store_whole rfl 93 (.tmp 5) (.tmp 17) rfl wr.heap.size cw rfl rfl z0 93 hb3 (by omega) hi hc1 ?_; intro w4 hb4 hk4 hs4; have hB4 : Below wr.heap.size wr w4 := hB3.trans (hk4.below (by omega) (fun i e => by omega)); have hkc4 : w4.cell? ⟨kb, ko + m, none⟩ = some (.bool false) := (hB4.cell (p := ⟨kb, ko + m, none⟩) HKF.out).trans hkc'))
          go_roundw
          case rel => exact ⟨m + 1, by omega, by simp, by rw [HS.out]; exact hP.out.below hB4, hK.trans (Keep.of hB4) (fun _ _ h => h)⟩
          case measure => simp only [intOf]; omega
        · rw [hkp] at hkc' HS
          clear hkp hkc
          go_wp2_with (first
          | (refine wpList_load_mid rfl 93 (.tmp 16) rfl g (m * 65) rfl cw _ hrg Try.underlying93 rfl hi ?_)
          | (refine wpList_alloc_row rfl 93 rfl z0 hzi ?_; intro w3 hb3 hB3 hs3)
          | (refine wpList_store_whole rfl 93 (.tmp 5) (.tmp 17) rfl wr.heap.size cw rfl rfl z0 93 hb3 (by omega) hi hc1 ?_; intro w4 hb4 hk4 hs4; have hB4 : Below wr.heap.size wr w4 := hB3.trans (hk4.below (by omega) (fun i e => by omega)); have hkc4 : w4.cell? ⟨kb, ko + m, none⟩ = some (.bool true) := (hB4.cell (p := ⟨kb, ko + m, none⟩) HKF.out).trans hkc'))
          have hP4 := hP.out.below hB4
          have hP5 : PD w4.drew d s (.slice (some ⟨g, 0, none⟩) N vc) Dm := hP4.below (Below.refl _ _).drew
          have hq1 : (0 : Int) ≤ (q : Int) := by omega
          have hq2 : (q : Int) < (Dm.secs.length : Int) := by omega
          have hds : d ≠ s := hP4.ne.symm
          have hbs : wr.heap.size ≠ s := fun e => by have := hP.out.slt; omega
          have hbl : (cellsB b).length = 64 := by rw [cellsB_length, hb64]
          have hbi : (Try.prog.info? 91).map (·.size) = some (cellsB b).length := by rw [hbl]; exact info91s
          have hbo := cellsB_one b
          have hu91 := Try.underlying91
          have hS0 : w4.drew.cell? ⟨d, 0, none⟩ = some (.slice (some ⟨s, 0, none⟩) Dm.secs.length Dm.cap) ∧ w4.drew.cell? ⟨wr.heap.size, 0, none⟩ = some (.int .i64 (q : Int)) ∧ w4.drew.rangeAt wr.heap.size 1 (cellsB b) ∧ w4.drew.there s (q * 64) 64 :=
            ⟨hP5.dx.c0, (HC.out _ _ (hb4.below (Below.refl _ _).drew)).1, (HC.out _ _ (hb4.below (Below.refl _ _).drew)).2, hP5.secs.free q hq⟩
          go_region_held3 (fun w' => w'.cell? ⟨d, 0, none⟩ = some (.slice (some ⟨s, 0, none⟩) Dm.secs.length Dm.cap) ∧ w'.cell? ⟨wr.heap.size, 0, none⟩ = some (.int .i64 (q : Int)) ∧ w'.rangeAt wr.heap.size 1 (cellsB b) ∧ w'.there s (q * 64) 64) (first | exact hS0 | exact sl_sets (by assumption) hds hbs) (skip)
          have hP6 := hP5.sets hq hb64
          go_wp2
          go_roundw
          case rel => exact ⟨m + 1, by omega, by simp, by rw [HS.out]; exact hP6, ((hK.trans (Keep.of hB4) (fun _ _ h => h)).drew).sets (.inr (.inr (.inl rfl))) _ _⟩
          case measure => simp only [intOf]; omega
      · have hmk1 : ¬ (m : Int) < (KN : Int) := by omega
        rw [HK3.out m (by omega)] at HS
        go_wp2_with (first
          | (refine wpList_load_mid rfl 93 (.tmp 16) rfl g (m * 65) rfl cw _ hrg Try.underlying93 rfl hi ?_)
          | (refine wpList_alloc_row rfl 93 rfl z0 hzi ?_; intro w3 hb3 hB3 hs3)
          | (refine wpList_store_whole rfl 93 (.tmp 5) (.tmp 17) rfl wr.heap.size cw rfl rfl z0 93 hb3 (by omega) hi hc1 ?_; intro w4 hb4 hk4 hs4; have hB4 : Below wr.heap.size wr w4 := hB3.trans (hk4.below (by omega) (fun i e => by omega))))
        go_roundw
        case rel => exact ⟨m + 1, by omega, by simp, by rw [HS.out]; exact hP.out.below hB4, hK.trans (Keep.of hB4) (fun _ _ h => h)⟩
        case measure => simp only [intOf]; omega
    · have hlt1 : ¬ (m : Int) < (N : Int) := by omega
      obtain rfl : m = N := by omega
      obtain ⟨x0, x1, x2, x3, x4, z0, z1, z2, z3, z4⟩ := id hP.out.dx
      have HP3 := hP.out.crashed _ rfl
      rw [HCr.out m (Nat.le_of_eq HN.out)] at HP3
      go_wp2
      go_end0
      exact ⟨rfl, _, HP3, ((((hK.set (p := ⟨d, 0, none⟩) (.inr (.inl rfl)) _).set (p := ⟨d, 1, none⟩) (.inr (.inl rfl)) _).set (p := ⟨d, 2, none⟩) (.inr (.inl rfl)) _).set (p := ⟨d, 3, none⟩) (.inr (.inl rfl)) _).set (p := ⟨d, 4, none⟩) (.inr (.inl rfl)) _, fun k hk => .inl (by rcases hk with hk | hk | hk; exact .inl hk; exact .inr (.inl hk); simp [Value.ownBlock] at hk)⟩
end Go.Proofs.Ytnganmekiloigaa
