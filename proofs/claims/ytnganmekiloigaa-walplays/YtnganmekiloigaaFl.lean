/- disk.Flush. -/
import Derived.Test.YtnganmekiloigaaRd
namespace Go.Proofs.Ytnganmekiloigaa
open Go.RowKit
set_option maxRecDepth 100000
variable {W : World} {d s : Nat} {wv : Value} {D : Dk}

theorem land_snoc (keep : Nat → Bool) : ∀ (k : Nat) (l : List (Nat × Bs)) (x : Nat × Bs) (s : List Bs), land keep k (l ++ [x]) s = if keep (k + l.length) then (land keep k l s).set x.1 x.2 else land keep k l s
  | k, [], x, s => by simp [land]
  | k, y :: l, x, s => by
    rw [List.cons_append, land, land_snoc keep (k + 1) l x, show k + 1 + l.length = k + (y :: l).length by simp; omega]
    rfl
/-- The disk when so many of its Writes are done. -/
def Dk.landed (D : Dk) (keep : Nat → Bool) (m : Nat) : Dk := { D with secs := land keep 0 (D.wait.take m) D.secs }
theorem landed_zero (D : Dk) (keep : Nat → Bool) : D.landed keep 0 = D := by simp [Dk.landed, land]
theorem landed_succ {keep : Nat → Bool} {m : Nat} {x : Nat × Bs} (hx : D.wait[m]? = some x) : D.landed keep (m + 1) = if keep m then { D.landed keep m with secs := (D.landed keep m).secs.set x.1 x.2 } else D.landed keep m := by
  have hm := (List.getElem?_eq_some_iff.1 hx)
  have e : D.wait.take (m + 1) = D.wait.take m ++ [x] := by rw [List.take_succ_eq_append_getElem hm.1, hm.2]
  have hm1 := hm.1
  unfold Dk.landed
  rw [e, land_snoc, Nat.zero_add, List.length_take, Nat.min_eq_left (by omega)]
  split <;> rfl
theorem landed_all (D : Dk) (keep : Nat → Bool) {m : Nat} (hm : D.wait.length ≤ m) : D.landed keep m = { D with secs := land keep 0 D.wait D.secs } := by
  unfold Dk.landed
  rw [List.take_of_length_le hm]
theorem landed_length (D : Dk) (keep : Nat → Bool) (m : Nat) : (D.landed keep m).secs.length = D.secs.length := land_length _ _ _ _

theorem PD.sets (h : PD W d s wv D) {q : Nat} {b : Bs} (hq : q < D.secs.length) (hb : b.length = 64) : PD (W.setCells s (q * 64) (cellsB b)) d s wv { D with secs := D.secs.set q b } := by
  have hk : ∀ k, k ≠ s → (W.setCells s (q * 64) (cellsB b)).heap[k]? = W.heap[k]? := fun k hk => heap_setCells s _ _ _ k hk
  refine ⟨?_, h.secs.set h.ok.secs hq hb, ?_, ⟨?_, ?_, h.ok.left⟩, h.ne, h.own, by rw [size_setCells]; exact h.slt⟩
  · have := h.dx.block (hk d h.ne.symm)
    simpa using this
  · obtain ⟨h1, h2 | ⟨g, cap, cur, rfl, hBg, hw, hn, hcap, hz, htk⟩⟩ := h.wait
    · exact ⟨h1, .inl h2⟩
    · exact ⟨h1, .inr ⟨g, cap, cur, rfl, hBg, by rw [hk g (fun e => h.own (by rw [e]; rfl))]; exact hw, hn, hcap, hz, htk⟩⟩
  · intro x hx
    rcases List.mem_or_eq_of_mem_set hx with hx | rfl
    · exact h.ok.secs x hx
    · exact hb
  · intro x hx
    simpa using h.ok.wait x hx
theorem PD.clear (h : PD W d s wv D) : PD (W.setCell ⟨d, 1, none⟩ (.slice none 0 0)) d s (.slice none 0 0) { D with wait := [] } := by
  have hk : ∀ k v, k ≠ d → (W.setCell ⟨d, 1, none⟩ v).heap[k]? = W.heap[k]? := fun k v hk => Below.heap_setCell _ _ _ _ hk
  refine ⟨h.dx.set1 _, h.secs.block (hk s _ h.ne), World.ownsRow_nil _ _ _ _, ⟨h.ok.secs, fun x hx => by simp at hx, h.ok.left⟩, h.ne, by simp [Value.ownBlock], by simpa [World.setCell] using h.slt⟩
theorem sl_sets {w : World} {d s Bx o o' : Nat} {v0 v1 : Value} {cs vs : List Value} (h : w.cell? ⟨d, 0, none⟩ = some v0 ∧ w.cell? ⟨Bx, 0, none⟩ = some v1 ∧ w.rangeAt Bx 1 cs ∧ w.there s o 64) (hd : d ≠ s) (hb : Bx ≠ s) :
    (w.setCells s o' vs).cell? ⟨d, 0, none⟩ = some v0 ∧ (w.setCells s o' vs).cell? ⟨Bx, 0, none⟩ = some v1 ∧ (w.setCells s o' vs).rangeAt Bx 1 cs ∧ (w.setCells s o' vs).there s o 64 :=
  ⟨(World.cell?_of_block (a := ⟨d, 0, none⟩) (heap_setCells s _ _ _ d hd)).trans h.1, (World.cell?_of_block (a := ⟨Bx, 0, none⟩) (heap_setCells s _ _ _ Bx hb)).trans h.2.1, World.rangeAt_setCells_apart h.2.2.1 _ _ _ (.inl hb), World.there_setCells h.2.2.2 _ _ _⟩

set_option maxHeartbeats 2000000 in
theorem flush24 (h : PD W d s wv D) (hlen : D.wait.length ≤ 100000) :
    Calls Try.prog 24 #[.pointer (some ⟨d, 0, none⟩)] W fun e w' => e = .returned (.int .i64 D.flush.1) ∧ Left W d s wv D.flush.2 w' := by
  have c56 := awake56 h
  have c55 := spend55 h
  unfold Dk.flush
  by_cases ho : D.off = true
  · rw [if_pos ho]
    rw [show D.awake = 7 by simp [Dk.awake, ho]] at c56
    go_enter Try.func24, Try.ntmps24
    go_wp2_with (go_at_call 56; (refine c56.mono ?_; rintro e w1 ⟨rfl, rfl⟩))
    go_ret
    exact ⟨rfl, Left.same h (Keep.refl _ _)⟩
  · rw [if_neg ho]
    rw [show D.awake = 0 by simp [Dk.awake, ho]] at c56
    cases hsp : D.spend.1
    · rw [hsp] at c55
      rw [if_neg (by simp)]
      clear h
      go_enter Try.func24, Try.ntmps24
      go_wp2_with (first
        | (go_at_call 56; (refine c56.mono ?_; rintro e w1 ⟨rfl, rfl⟩))
        | (go_at_call 55; (refine c55.mono ?_; rintro e w2 ⟨rfl, hp2, hk2⟩)))
      go_ret
      exact ⟨rfl, Left.same hp2 hk2⟩
    · rw [hsp] at c55
      rw [if_pos rfl, show land (fun _ => true) 0 D.wait D.secs = land (fun _ => true) 0 D.spend.2.wait D.spend.2.secs by rw [(spend_secs D).1, (spend_secs D).2.1]]
      have hlen1 : D.spend.2.wait.length ≤ 100000 := by rw [(spend_secs D).2.1]; exact hlen
      obtain ⟨va, vc, hwv⟩ := h.wform
      rw [← (spend_secs D).2.1] at hwv
      generalize D.spend.2 = D1 at *
      clear h hlen ho hsp
      obtain ⟨N, hN⟩ : ∃ N, D1.wait.length = N := ⟨_, rfl⟩
      rw [hN] at hwv hlen1
      have HN : Hid (D1.wait.length = N) := hN
      clear hN
      subst hwv
      go_enter Try.func24, Try.ntmps24
      go_wp2_with (first
        | (go_at_call 56; (refine c56.mono ?_; rintro e w1 ⟨rfl, rfl⟩))
        | (go_at_call 55; (refine c55.mono ?_; rintro e w2 ⟨rfl, hp2, hk2⟩; have e1 := hp2.dx.c1; have HP2 : Hid (PD w2 d s (.slice va N vc) D1) := hp2; clear hp2)))
      go_loopw [19] (fun p wr => ∃ m : Nat, m ≤ N ∧ p = .int .i64 (m : Int) ∧ Hid (PD wr d s (.slice va N vc) (D1.landed (fun _ => true) m)) ∧ Keep (foot d s (.slice va N vc)) w1 wr) (fun p _ => N - (intOf p).toNat)
      case atStart => exact ⟨0, by omega, rfl, by rw [landed_zero]; exact HP2, hk2⟩
      case round =>
        obtain ⟨m, hm, rfl, hP, hK⟩ := hrel
        by_cases hlt : m < N
        · have hlt1 : (m : Int) < (N : Int) := by omega
          obtain ⟨⟨q, b⟩, hx⟩ : ∃ x, D1.wait[m]? = some x := ⟨_, List.getElem?_eq_getElem (by rw [HN.out]; exact hlt)⟩
          obtain ⟨hb64, hq⟩ : b.length = 64 ∧ q < (D1.landed (fun _ => true) m).secs.length := hP.out.ok.wait (q, b) (List.mem_of_getElem? hx)
          have HS : Hid (D1.landed (fun _ => true) (m + 1) = { D1.landed (fun _ => true) m with secs := (D1.landed (fun _ => true) m).secs.set q b }) := landed_succ hx
          obtain ⟨g, c, he, hrg⟩ := hP.out.wait.at' (fun x hx => (hP.out.ok.wait x hx).1) hx
          have hva : va = some ⟨g, 0, none⟩ := by
            simp only [Value.slice.injEq] at he
            exact he.1
          subst hva
          generalize D1.landed (fun _ => true) m = Dm at *
          clear he hx
          have hcl : (cellW q b).length = 65 := cellW_length hb64
          have hi : (Try.prog.info? 93).map (·.size) = some (cellW q b).length := by rw [hcl]; exact info93s
          have hc1 := cellW_one q b
          have hzl : (cellW 0 Z64).length = 65 := cellW_length Z64_length
          have hzi : (Try.prog.info? 93).map (fun i => (i.zero, i.size, i.bytes)) = some (some (.agg (cellW 0 Z64).toArray), 65, 72) := by rw [← z93]; exact info93z
          generalize cellW 0 Z64 = z0 at *
          have HC : Hid (∀ (w : World) (k : Nat), Blk w k (cellW q b) 93 → w.cell? ⟨k, 0, none⟩ = some (.int .i64 (q : Int)) ∧ w.rangeAt k 1 (cellsB b)) := fun w k hb => ⟨(hb.cell 0).trans rfl, hb.range fun j v hv => by rw [show 1 + j = j + 1 by omega]; exact hv⟩
          generalize cellW q b = cw at *
          go_wp2_with (first
            | (refine wpList_load_mid rfl 93 (.tmp 21) rfl g (m * 65) rfl cw _ hrg Try.underlying93 rfl hi ?_)
            | (refine wpList_alloc_row rfl 93 rfl z0 hzi ?_; intro w3 hb3 hB3 hs3)
            | (refine wpList_store_whole rfl 93 (.tmp 5) (.tmp 22) rfl wr.heap.size cw rfl rfl z0 93 hb3 (by omega) hi hc1 ?_; intro w4 hb4 hk4 hs4))
          have hB4 : Below wr.heap.size wr w4 := hB3.trans (hk4.below (by omega) (fun i e => by omega))
          have hP4 := hP.out.below hB4
          have hP5 : PD w4.drew d s (.slice (some ⟨g, 0, none⟩) N vc) Dm := hP4.below (Below.refl _ _).drew
          have hq1 : (0 : Int) ≤ (q : Int) := by omega
          have hq2 : (q : Int) < (Dm.secs.length : Int) := by omega
          have hds : d ≠ s := hP4.ne.symm
          have hbs : wr.heap.size ≠ s := fun e => by have := hP.out.slt; omega
          have hbl : (cellsB b).length = 64 := by rw [cellsB_length, hb64]
          have hbi : (Try.prog.info? 91).map (·.size) = some (cellsB b).length := by rw [hbl]; exact info91s
          have hbo := cellsB_one b
          have hu91 := Try.underlying91
          have hS0 : w4.drew.cell? ⟨d, 0, none⟩ = some (.slice (some ⟨s, 0, none⟩) Dm.secs.length Dm.cap) ∧ w4.drew.cell? ⟨wr.heap.size, 0, none⟩ = some (.int .i64 (q : Int)) ∧ w4.drew.rangeAt wr.heap.size 1 (cellsB b) ∧ w4.drew.there s (q * 64) 64 :=
            ⟨hP5.dx.c0, (HC.out _ _ (hb4.below (Below.refl _ _).drew)).1, (HC.out _ _ (hb4.below (Below.refl _ _).drew)).2, hP5.secs.free q hq⟩
          go_region_held3 (fun w' => w'.cell? ⟨d, 0, none⟩ = some (.slice (some ⟨s, 0, none⟩) Dm.secs.length Dm.cap) ∧ w'.cell? ⟨wr.heap.size, 0, none⟩ = some (.int .i64 (q : Int)) ∧ w'.rangeAt wr.heap.size 1 (cellsB b) ∧ w'.there s (q * 64) 64) (first | exact hS0 | exact sl_sets (by assumption) hds hbs) (skip)
          have hP6 := hP5.sets hq hb64
          go_wp2
          go_roundw
          case rel => exact ⟨m + 1, by omega, by simp, by rw [HS.out]; exact hP6, ((hK.trans (Keep.of hB4) (fun _ _ h => h)).drew).sets (.inr (.inr (.inl rfl))) _ _⟩
          case measure => simp only [intOf]; omega
        · have hlt1 : ¬ (m : Int) < (N : Int) := by omega
          obtain rfl : m = N := by omega
          have f1 := hP.out.dx.z1
          have f2 := hP.out.dx.c1
          have HP3 := hP.out.clear
          rw [landed_all _ _ (Nat.le_of_eq HN.out)] at HP3
          go_wp2
          go_ret
          exact ⟨rfl, _, HP3, hK.set (p := ⟨d, 1, none⟩) (.inr (.inl rfl)) _, fun k hk => .inl (by rcases hk with hk | hk | hk; exact .inl hk; exact .inr (.inl hk); simp [Value.ownBlock] at hk)⟩
end Go.Proofs.Ytnganmekiloigaa
