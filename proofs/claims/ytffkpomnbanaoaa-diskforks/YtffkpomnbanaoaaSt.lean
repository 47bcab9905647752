/- The law DiskStays. -/
import Derived.Test.YtffkpomnbanaoaaSl
import Derived.Laws.BytesArg
import Derived.BigQuiet
namespace Go.Proofs.Ytffkpomnbanaoaa
open Go.RowKit
set_option maxRecDepth 100000

def strB (l : Bs) : ByteArray := ⟨l.toArray⟩
theorem strOf_eq (l : Bs) : strOfNums (l.map fun b => (b.toNat : Int)) = strB l := by
  unfold strOfNums strB
  congr 2
  rw [List.map_map]
  conv => rhs; rw [← List.map_id l]
  apply List.map_congr_left
  intro b _
  simp
theorem conv64 {w : World} {g : Nat} {l : Bs} (h : Blk w g (cellsB l) 5) (hl : l.length = 64) : (convert 33 9 (.slice (some ⟨g, 0, none⟩) 64 64)).run Try.prog w = .ok (.string (strB l)) w := by
  rw [← strOf_eq]
  refine run_convert_bytes_arg w 33 5 Try.underlying33 Try.underlying5 g 0 64 64 _ (by simp [hl]) ?_ 9 Try.underlying9
  intro i hi
  rw [Nat.zero_add, h.cell, cellsB_get l i (by omega)]
  simp [show i < l.length by omega]
theorem info9z : (Try.prog.info? 9).map (fun i => (i.zero, i.size, i.bytes)) = some (some (.string ⟨#[]⟩), 1, 16) := by kernel_rfl
/-- What was: the sectors, as strings. -/
def wasL (f : Nat → ByteArray) (m : Nat) : List Value := (List.range m).map fun i => .string (f i)
theorem wasL_succ (f : Nat → ByteArray) (m : Nat) : wasL f (m + 1) = wasL f m ++ [.string (f m)] := by simp [wasL, List.range_succ]
/-- A Read of a disk where nothing waits. -/
theorem reads {W : World} {d s : Nat} {wv : Value} {D : Dk} (h : PD W d s wv D) (h1 : D.secs.length = 4) (h2 : D.off = false) (h3 : D.wait = []) (m : Nat) (hm : m < 4) :
    Calls Try.prog 19 #[.pointer (some ⟨d, 0, none⟩), .int .i64 (m : Int)] W fun e w' => ∃ g, e = .returned (.tuple #[.slice (some ⟨g, 0, none⟩) 64 64, .int .i64 0]) ∧ (∀ w : World, w.heap[g]? = w'.heap[g]? → (convert 33 9 (.slice (some ⟨g, 0, none⟩) 64 64)).run Try.prog w = .ok (.string (strB (D.secs.getD m []))) w) ∧ Below W.heap.size W w' := by
  have hr : D.reach (m : Int) = 0 := by
    unfold Dk.reach
    rw [h2, if_neg (by simp), if_pos (by rw [h1]; omega)]
  have hrd : D.read (m : Int) = (D.secs.getD m [], 0) := by
    unfold Dk.read
    rw [if_pos hr, h3]
    rfl
  have hA : Alone 0 W d s D [] := ⟨wv, h, fun g hg => by simp at hg, fun k hk => Nat.zero_le _, Nat.zero_le _⟩
  refine (alone19 hA m hr (by rw [h3]; simp)).mono ?_
  rintro e w' ⟨g, h4, _, _, h5, h6, h7⟩
  rw [hrd] at h5 h6
  exact ⟨g, h4, fun w hB => conv64 (h5.block hB) h6, h7⟩
theorem calm_again {D : Dk} (h : Calm D) (kl : List Bool) : Calm (D.crash kl) ∧ (D.crash kl).secs = D.secs := by
  have e : (D.crash kl).secs = D.secs := by simp [Dk.crash, h.wait, land]
  exact ⟨⟨by rw [e]; exact h.secs, rfl, rfl, rfl⟩, e⟩

set_option maxHeartbeats 1000000 in
theorem stays4 (W : World) (v : Value) (l : List Deed) (hv : InD W.heap.size W v l) (vk : Value) (kl : List Bool) (hk : InK W.heap.size W vk kl) :
    Calls Try.prog 4 #[v, vk] W fun e w' => e = .returned (.bool true) ∧ Below W.heap.size W w' := by
  have c15 := play15 v l hv
  have hC := calm_crash (l.take 40)
  have hps := played_secs (l.take 40)
  have hpl : (l.take 40).length ≤ 40 := by rw [List.length_take]; omega
  obtain ⟨va, vc, hve, _⟩ := hv
  subst hve
  have HK : Hid (∀ w', Below W.heap.size W w' → KB w' vk kl) := fun w' hB => by
    obtain ⟨a, c, rfl, h1, h2, h3⟩ := hk.below hB
    by_cases h0 : 0 < kl.length
    · obtain ⟨b, o, rfl, hb, hat⟩ := h3 h0
      exact .inr ⟨b, o, c, rfl, h0, hat⟩
    · have e : kl = [] := List.eq_nil_of_length_eq_zero (by omega)
      subst e
      exact .inl ⟨a, c, rfl, rfl⟩
  have HKN : Hid (∀ a n c, vk = .slice (some a) n c → 0 < kl.length → a.block < W.heap.size) := fun a n c e h0 => by
    obtain ⟨a', c', h1, _, _, h3⟩ := hk
    obtain ⟨b, o, e', hb, _⟩ := h3 h0
    rw [h1, e'] at e
    cases e
    exact hb
  obtain ⟨ka, kn, kc, hke⟩ := hk.form
  generalize l.length = ln at *
  have HA0 : Hid (∀ w d s r, Two W.heap.size d s r (played (l.take 40)) w → Calls Try.prog 18 #[.pointer (some ⟨d, 0, none⟩), .slice none 0 0] w fun e w' => e = .returned (.tuple #[]) ∧ Alone W.heap.size w' d s ((played (l.take 40)).crash []) [] ∧ Kept [] w w' ∧ Below W.heap.size w w') := fun w d s r h => alone18 h.alone _ [] (.inl ⟨none, 0, rfl, rfl⟩) (fun a n c e _ => by cases e) (by omega)
  have HL : Hid (∀ w, Calls Try.prog 16 #[] w fun e w' => e = .returned (.bool true) ∧ Below w.heap.size w w') := live16
  generalize (played (l.take 40)).crash [] = D1 at *
  generalize played (l.take 40) = Dq at *
  have HB2 : Hid (∀ w w' d s r, Two W.heap.size d s r Dq w → Below w.heap.size w w' → Two W.heap.size d s r Dq w') := fun w w' d s r h hB => by
    obtain ⟨wv, lv, xv, hb⟩ := h
    exact ⟨wv, lv, xv, hb.below hB⟩
  obtain ⟨i0, hi0, hz3, hz4, hz5⟩ := info_parts info9z
  obtain ⟨fs, hfs⟩ : ∃ fs : Nat → ByteArray, ∀ i, fs i = strB (D1.secs.getD i []) := ⟨fun i => strB (D1.secs.getD i []), fun _ => rfl⟩
  have HFS : Hid (∀ i, fs i = strB (D1.secs.getD i [])) := hfs
  clear hps hpl hfs
  subst hke
  go_enter Try.func4, Try.ntmps4
  go_wp2_with (first
    | (go_at_call 15; (refine c15.mono ?_; rintro e w1 ⟨d, s, r, rfl, T1, F1⟩))
    | (go_at_call 16; (refine (HL.out w1).mono ?_; rintro e w2 ⟨rfl, B2⟩; have T2 := HB2.out _ _ _ _ _ T1 B2; have F2 := F1.trans (B2.mono F1.size); clear T1 F1 B2))
    | (go_at_call 18; (refine (HA0.out w2 _ _ _ T2).mono ?_; rintro e w3 ⟨rfl, A3, _, B3⟩; have F3 := F2.trans B3; clear T2 F2 B3)))
  obtain ⟨wv, hP, _, hpb, hz⟩ := A3
  have HP : Hid (PD w3 d s wv D1) := hP
  have HPB : Hid (∀ k, foot d s wv k → W.heap.size ≤ k) := hpb
  have HR : Hid (∀ (wr : World) (m : Nat), m < 4 → Below w3.heap.size w3 wr → Calls Try.prog 19 #[.pointer (some ⟨d, 0, none⟩), .int .i64 (m : Int)] wr fun e w' => ∃ g, e = .returned (.tuple #[.slice (some ⟨g, 0, none⟩) 64 64, .int .i64 0]) ∧ (convert 33 9 (.slice (some ⟨g, 0, none⟩) 64 64)).run Try.prog w' = .ok (.string (fs m)) w' ∧ Below wr.heap.size wr w') := fun wr m hm hB => by
    refine (reads (hP.below hB) hC.secs hC.off hC.wait m hm).mono ?_
    rintro e w' ⟨g, h1, h2, h3⟩
    exact ⟨g, h1, by rw [HFS.out]; exact h2 w' rfl, h3⟩
  clear hP hpb c15 HA0 HL HB2
  go_loopw [8, 9] (fun p8 p9 wr => ∃ m : Nat, m ≤ 4 ∧ p9 = .int .i64 (m : Int) ∧ wr.ownsRow w3.heap.size 9 1 p8 m (wasL fs m) ∧ Below w3.heap.size w3 wr) (fun _ p9 _ => 4 - (intOf p9).toNat)
  case atStart => exact ⟨0, by omega, rfl, World.ownsRow_nil _ _ _ _, Below.refl _ _⟩
  case round =>
    obtain ⟨m, hm, rfl, hown, hB⟩ := hrel
    by_cases hlt : m < 4
    · have hlt1 : (m : Int) < 4 := by omega
      have c19 := HR.out wr m hlt hB
      have hm1 : m + 1 ≤ maxLen := by unfold maxLen; omega
      have hm2 : (m + 1) * 16 ≤ 140737488355328 := by omega
      have HW1 : Hid (wasL fs (m + 1) = wasL fs m ++ [.string (fs m)]) := wasL_succ fs m
      go_wp2_with (first
        | (go_at_call 19; (refine c19.mono ?_; rintro e w5 ⟨g, rfl, hcv, B5⟩; have hown5 := own_below (own_below hown B5) (al w5 (.cells #[.string (fs m)] 9)); have hnews := World.news_of_block (blk_new w5 [.string (fs m)] 9); have hbase : w3.heap.size ≤ (w5.alloc (.cells #[.string (fs m)] 9)).heap.size := Nat.le_trans hB.size (Nat.le_trans B5.size (al w5 _).size)))
        | (skip; (refine wpList_append_own (w5.alloc (.cells #[.string (fs m)] 9)) (by rfl) (.tmp 39) (.tmp 42) 32 (by rfl) w3.heap.size 9 i0 (.string ⟨#[]⟩) 1 16 Try.underlying32 hi0 hz3 hz4 hz5 (by rfl) (by decide) _ m (wasL fs m) (by rfl) hown5 ⟨w5.heap.size, 0, none⟩ 1 1 [.string (fs m)] (by rfl) (by rfl) hnews (by simp [Value.oneCell']) hm1 hm2 hbase ?_; intro v6 w6 hown6 hgr6 _; have B6 : Below w3.heap.size w3 w6 := (hB.trans ((bmore B5 (al w5 _)).mono hB.size)).grown hgr6 hbase (fun k e => (World.ownsRow.lt hown5 k e).1); clear hgr6 hnews hown5)))
      go_roundw
      case rel => exact ⟨m + 1, by omega, by simp, by rw [HW1.out]; exact hown6, B6⟩
      case measure => simp only [intOf]; omega
    · have hlt1 : ¬ (m : Int) < 4 := by omega
      obtain rfl : m = 4 := by omega
      obtain ⟨gw, capw, rfl, hgw1, hgw2, hcell⟩ : ∃ gw capw, u8 = .slice (some ⟨gw, 0, none⟩) 4 capw ∧ w3.heap.size ≤ gw ∧ gw < wr.heap.size ∧ ∀ j, j < 4 → wr.cell? ⟨gw, j, none⟩ = some (.string (fs j)) := by
        obtain ⟨gw, capw, e⟩ : ∃ gw capw, u8 = .slice (some ⟨gw, 0, none⟩) 4 capw := by
          rcases hown.2 with ⟨_, h2⟩ | ⟨gw, capw, cur, e, _⟩
          · omega
          · exact ⟨gw, capw, e⟩
        subst e
        have hlt := World.ownsRow.lt hown gw rfl
        exact ⟨gw, capw, rfl, hlt.1, hlt.2, fun j hj => by
          rw [World.ownsRow.cellAt hown j (by omega)]
          simp [wasL, hj]⟩
      have hPr := HP.out.below hB
      have c18 := crash18 hPr (by rw [hC.wait]; simp) (.slice ka kn kc) kl (HK.out wr (F3.trans (hB.mono F3.size))) (fun a n c e h0 hf => by have := HKN.out a n c e h0; have := HPB.out _ hf; omega)
      have HC18 : Hid (Calls Try.prog 18 #[.pointer (some ⟨d, 0, none⟩), .slice ka kn kc] wr fun e w' => e = .returned (.tuple #[]) ∧ Left wr d s wv (D1.crash kl) w') := c18
      obtain ⟨hC2, hsec⟩ := calm_again hC kl
      have HST : Hid (∀ w7, Left wr d s wv (D1.crash kl) w7 → (∃ wv2, PD w7 d s wv2 (D1.crash kl)) ∧ (∀ j, j < 4 → w7.cell? ⟨gw, j, none⟩ = some (.string (fs j))) ∧ Below W.heap.size W w7) := fun w7 hL => by
        obtain ⟨wv2, h1, h2, h3⟩ := hL
        refine ⟨⟨wv2, h1⟩, fun j hj => (World.cell?_of_block (a := ⟨gw, j, none⟩) (h2.block gw hgw2 (fun hf => ?_))).trans (hcell j hj), (F3.trans (hB.mono F3.size)).trans (h2.below (Nat.le_trans F3.size hB.size) HPB.out)⟩
        have := HP.out.foot_lt gw hf
        omega
      have HR2 : Hid (∀ (w7 : World), (∃ wv2, PD w7 d s wv2 (D1.crash kl)) → ∀ (wr : World) (m : Nat), m < 4 → Below w7.heap.size w7 wr → Calls Try.prog 19 #[.pointer (some ⟨d, 0, none⟩), .int .i64 (m : Int)] wr fun e w' => ∃ g, e = .returned (.tuple #[.slice (some ⟨g, 0, none⟩) 64 64, .int .i64 0]) ∧ (∀ n, (convert 33 9 (.slice (some ⟨g, 0, none⟩) 64 64)).run Try.prog (w'.drewN n) = .ok (.string (fs m)) (w'.drewN n)) ∧ Below wr.heap.size wr w') := fun w7 hP7 wr m hm hB => by
        obtain ⟨wv2, hP7⟩ := hP7
        refine (reads (hP7.below hB) hC2.secs hC2.off hC2.wait m hm).mono ?_
        rintro e w' ⟨g, h1, h2, h3⟩
        exact ⟨g, h1, fun n => by rw [HFS.out, ← hsec]; exact h2 (w'.drewN n) rfl, h3⟩
      have HO : Hid (∀ (w7 : World), (∃ wv2, PD w7 d s wv2 (D1.crash kl)) → ∀ wr, Below w7.heap.size w7 wr → (Calls Try.prog 20 #[.pointer (some ⟨d, 0, none⟩)] wr fun e w' => e = .returned (.bool false) ∧ w' = wr) ∧ Calls Try.prog 21 #[.pointer (some ⟨d, 0, none⟩)] wr fun e w' => e = .returned (.int .i64 0) ∧ w' = wr) := fun w7 hP7 wr hB => by
        obtain ⟨wv2, hP7⟩ := hP7
        have h20 := off20 (hP7.below hB)
        have h21 := waiting21 (hP7.below hB)
        rw [hC2.off] at h20
        rw [hC2.wait] at h21
        exact ⟨h20, h21⟩
      clear c18 hPr hcell hown HR HP HPB HK HKN hC hC2 hsec HFS hi0 hz3 hz4 hz5
      go_wp2_with (go_at_call 18; (refine HC18.out.mono ?_; rintro e w7 ⟨rfl, hL7⟩; obtain ⟨P7, W7, F7⟩ := HST.out w7 hL7; clear hL7 HST HC18))
      have HW7 : Hid (∀ j, j < 4 → w7.cell? ⟨gw, j, none⟩ = some (.string (fs j))) := W7
      have HR3 := HR2.out w7 P7
      have HO3 := HO.out w7 P7
      have HR4 : Hid (∀ (wr : World) (m : Nat), m < 4 → Below w7.heap.size w7 wr → Calls Try.prog 19 #[.pointer (some ⟨d, 0, none⟩), .int .i64 (m : Int)] wr fun e w' => ∃ g, e = .returned (.tuple #[.slice (some ⟨g, 0, none⟩) 64 64, .int .i64 0]) ∧ (∀ n, (convert 33 9 (.slice (some ⟨g, 0, none⟩) 64 64)).run Try.prog (w'.drewN n) = .ok (.string (fs m)) (w'.drewN n)) ∧ Below wr.heap.size wr w') := HR3
      clear HR3 HR2 HO W7
      have hgl : gw < w7.heap.size := World.block_lt_of_cell? _ _ (HW7.out 0 (by omega))
      go_loopw [12] (fun p wr2 => ∃ m : Nat, m ≤ 4 ∧ p = .int .i64 (m : Int) ∧ Below w7.heap.size w7 wr2) (fun p _ => 4 - (intOf p).toNat)
      case atStart => exact ⟨0, by omega, rfl, Below.refl _ _⟩
      case round =>
        obtain ⟨m, hm, rfl, hB2⟩ := hrel
        by_cases hlt : m < 4
        · have hlt1 : (m : Int) < 4 := by omega
          have hlt0 : (0 : Int) ≤ (m : Int) := by omega
          have c19 := HR4.out _ m hlt hB2
          have HC : Hid (∀ w, Below w7.heap.size w7 w → w.cell? ⟨gw, m, none⟩ = some (.string (fs m))) := fun w hB => (hB.cell (p := ⟨gw, m, none⟩) hgl).trans (HW7.out m hlt)
          go_wp2_with (go_at_call 19; (refine c19.mono ?_; rintro e w8 ⟨g, rfl, hcv, B8⟩; have F8 := hB2.trans (B8.mono hB2.size); have hwd := HC.out w8 F8))
          go_quiet (fail)
          have F9 : Below w7.heap.size w7 (w8.drewN nq) := F8.trans ⟨rfl, rfl, rfl, Nat.le_refl _, fun _ _ => rfl⟩
          go_wp2
          go_roundw
          case rel => exact ⟨m + 1, by omega, by simp, F9⟩
          case measure => simp only [intOf]; omega
        · have hlt1 : ¬ (m : Int) < 4 := by omega
          obtain rfl : m = 4 := by omega
          obtain ⟨c20, c21⟩ := HO3 _ hB2
          go_wp2_with (first
            | (go_at_call 20; (refine c20.mono ?_; rintro e w8 ⟨rfl, rfl⟩))
            | (go_at_call 21; (refine c21.mono ?_; rintro e w9 ⟨rfl, rfl⟩)))
          go_ret
          exact ⟨rfl, F7.trans (hB2.mono F7.size)⟩
end Go.Proofs.Ytffkpomnbanaoaa
