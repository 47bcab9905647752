/- write. -/
import Derived.Test.YtnganmekiloigaaJd
namespace Go.Proofs.Ytnganmekiloigaa
open Go.RowKit
set_option maxRecDepth 100000
attribute [local go_sem] Oper.semAt_some
variable {w w' : World} {B d s x : Nat} {D : Dk} {W : Wl} {G : List Nat}
/-- What write's loop holds: the disk with the first sectors written. -/
structure Iw (w5 : World) (B d s x : Nat) (D : Dk) (W : Wl) (q h : Nat) (b : Nat) (X : List Bs) (O : Nat → Prop) (k : Nat) (W' : World) (wv : Value) : Prop where
  apart : ∀ b, foot d s wv b → b ≠ x ∧ b ≠ q ∧ b ≠ q + 1
  own : ∀ b, O b ↔ foot d s wv b
  disk : PD W' d s wv (D.more b (X.take k))
  low : ∀ b, foot d s wv b → B ≤ b
  wal : Blk W' x (wlC d W) 111
  bx : Blk W' q [.pointer (some ⟨x, 0, none⟩)] 57
  bh : Blk W' (q + 1) [.int .i64 (h : Int)] 3
section
variable {w5 W1 W2 : World} {q h b k : Nat} {X : List Bs} {O : Nat → Prop} {wv : Value}
theorem Iw.lt (i : Iw w5 B d s x D W q h b X O k W1 wv) : ∀ b, O b → b < W1.heap.size := fun b hb => i.disk.foot_lt b ((i.own b).1 hb)
theorem Iw.keep {N : Nat} (i : Iw w5 B d s x D W q h b X O k W1 wv) (hx : x < N) (hq : q + 1 < N) (kk : Keep (fun b => ¬ O b ∧ N ≤ b) W1 W2) : Iw w5 B d s x D W q h b X O k W2 wv := by
  refine ⟨i.apart, i.own, i.disk.keep kk (fun b hb h => h.1 ((i.own b).2 hb)), i.low, i.wal.keep kk (fun h => by have := h.2; omega), i.bx.keep kk (fun h => by have := h.2; omega), i.bh.keep kk (fun h => by have := h.2; omega)⟩
end
/-- Q at a common end, and nothing else. -/
def Nrm (Q : Exit → Act → World → Prop) : Exit → Act → World → Prop
  | .normal, a, w => Q .normal a w
  | _, _, _ => False
theorem Nrm.normal {Q : Exit → Act → World → Prop} {a : Act} {w : World} (h : Q .normal a w) : Nrm Q .normal a w := h
theorem Nrm.imp {Q : Exit → Act → World → Prop} : ∀ (e : Exit) (a : Act) (w : World), Nrm Q e a w → Q e a w := fun e a w h => by
  cases e <;> first | exact h | exact (h : False).elim
/-- The statement over a loop whose one variable is known by its slot. -/
theorem foldl_one (t : Array Value) (p : Tmp) (v : Value) : ((#[p] : Array Tmp).zip #[v]).foldl (fun t (p, v) => t.setIfInBounds p v) t = t.setIfInBounds p v := by simp
theorem piece_of_prefix {l : Bs} {e p : Nat} {pre : List Pc} {x : Pc} (h : pre ++ [x] <+: piecesP l e p) : pre.length < np l ∧ x = pieceP l e p pre.length := by
  have hl : (piecesP l e p).length = np l := by simp [piecesP]
  have h1 := h.length_le
  simp at h1
  refine ⟨by omega, ?_⟩
  have h2 := h.getElem (i := pre.length) (by simp)
  simp [piecesP] at h2
  exact h2
theorem sb_arr {w : World} {g : Nat} {l : Bs} (h : Blk w g (cellsB l) 90) (hl : l.length = 64) : SB w (.slice (some ⟨g, 0, none⟩) 64 64) l := .inr ⟨g, 0, 64, by rw [hl], by omega, by omega, by decide, fun i hi => by
  rw [h.cell, Nat.zero_add]
  exact cellsB_get _ _ hi⟩
set_option maxHeartbeats 2000000 in
theorem write82 {R h p n c : Nat} {a : Option Addr} {l : Bs} (hA : LG B w d s D x W G) (hcut : D.cut = false) (hoff : D.off = false) (hw : D.wait.length ≤ 50000) (hS : D.secs.length = 2 * R) (hR : R ≤ 64) (hh : h = 0 ∨ h = 1) (he : W.e < 65536) (hlv : LV EB w (.slice a n c) l) (hl0 : 0 < l.length) (hl : l.length ≤ 3648) (hag : ∀ g o, a = some ⟨g, o, none⟩ → g ∈ G) (hG : ∀ g ∈ G, g < w.heap.size) (hfit : p + np l ≤ R) :
    Calls Try.prog 82 #[.pointer (some ⟨x, 0, none⟩), .int .i64 (h : Int), .int .i64 (p : Int), .slice a n c] w fun e w' => e = .returned (.tuple #[]) ∧ LG B w' d s (D.more (h * R + p) (layP W.e p l)) x W G ∧ Kept G w w' ∧ Below B w w' := by
  obtain ⟨wv, hPD, hfoot, hlow, hBz⟩ := hA.disk
  have hxl := hA.wal.lt
  have c2 := (hA.wal.below (bmore (al w (.cells #[.pointer (some ⟨x, 0, none⟩)] 57)) (al _ (.cells #[.int .i64 (h : Int)] 3)))).cell 2
  have HWE : (wlC d W)[2]? = some (.int .i64 (W.e : Int)) := rfl
  rw [HWE] at c2
  clear HWE
  refine (callsIn_wide (n := 0)).1 (callsIn_of_wp_marks Try.func82 rfl trivial (wpIn_wide.2 ?_) rfl)
  simp only [Try.ntmps82, List.size_toArray, List.length_cons, List.length_nil, Nat.reduceAdd, Nat.reduceSub, Array.replicate_succ, Array.replicate_zero, List.push_toArray, List.append_toArray, List.nil_append, List.cons_append]
  go_wp2_with (go_at_call 102; (refine (pieces102 _ _ _ _ _ _).mono ?_; rintro e' w1 ⟨rfl, rfl⟩))
  have sA : ((w.alloc (.cells #[.pointer (some ⟨x, 0, none⟩)] 57)).alloc (.cells #[.int .i64 (h : Int)] 3)).heap.size = w.heap.size + 1 + 1 := by simp
  have b0 := blk_new w [.pointer (some ⟨x, 0, none⟩)] 57
  have b1 := blk_new (w.alloc (.cells #[.pointer (some ⟨x, 0, none⟩)] 57)) [.int .i64 (h : Int)] 3
  have b2 := blk_new ((w.alloc (.cells #[.pointer (some ⟨x, 0, none⟩)] 57)).alloc (.cells #[.int .i64 (h : Int)] 3)) [.slice a n c] 33
  have b3 := blk_new (((w.alloc (.cells #[.pointer (some ⟨x, 0, none⟩)] 57)).alloc (.cells #[.int .i64 (h : Int)] 3)).alloc (.cells #[.slice a n c] 33)) [.int .i64 (W.e : Int)] 3
  have b4 := blk_new ((((w.alloc (.cells #[.pointer (some ⟨x, 0, none⟩)] 57)).alloc (.cells #[.int .i64 (h : Int)] 3)).alloc (.cells #[.slice a n c] 33)).alloc (.cells #[.int .i64 (W.e : Int)] 3)) [.int .i64 (p : Int)] 3
  have c0 := (((b0.below (al _ (.cells #[.int .i64 (h : Int)] 3))).below (al _ (.cells #[.slice a n c] 33))).below (al _ (.cells #[.int .i64 (W.e : Int)] 3))).below (al _ (.cells #[.int .i64 (p : Int)] 3))
  have c1 := ((b1.below (al _ (.cells #[.slice a n c] 33))).below (al _ (.cells #[.int .i64 (W.e : Int)] 3))).below (al _ (.cells #[.int .i64 (p : Int)] 3))
  have c3 := (b2.below (al _ (.cells #[.int .i64 (W.e : Int)] 3))).below (al _ (.cells #[.int .i64 (p : Int)] 3))
  have c4 := b3.below (al _ (.cells #[.int .i64 (p : Int)] 3))
  have B5 : Below w.heap.size w (((((w.alloc (.cells #[.pointer (some ⟨x, 0, none⟩)] 57)).alloc (.cells #[.int .i64 (h : Int)] 3)).alloc (.cells #[.slice a n c] 33)).alloc (.cells #[.int .i64 (W.e : Int)] 3)).alloc (.cells #[.int .i64 (p : Int)] 3)) := bmore (bmore (bmore (bmore (al _ _) (al _ _)) (al _ _)) (al _ _)) (al _ _)
  have s5 : (((((w.alloc (.cells #[.pointer (some ⟨x, 0, none⟩)] 57)).alloc (.cells #[.int .i64 (h : Int)] 3)).alloc (.cells #[.slice a n c] 33)).alloc (.cells #[.int .i64 (W.e : Int)] 3)).alloc (.cells #[.int .i64 (p : Int)] 3)).heap.size = w.heap.size + 5 := by simp
  simp only [World.size_alloc] at c1 c3 c4 b4
  clear b0 b1 b2 b3 c2 sA
  generalize ((((w.alloc (.cells #[.pointer (some ⟨x, 0, none⟩)] 57)).alloc (.cells #[.int .i64 (h : Int)] 3)).alloc (.cells #[.slice a n c] 33)).alloc (.cells #[.int .i64 (W.e : Int)] 3)).alloc (.cells #[.int .i64 (p : Int)] 3) = W5 at *
  have HS5 : Hid (W5.heap.size = w.heap.size + 5) := s5
  have HB5 : Hid (Below w.heap.size w W5) := B5
  have hlv5 := hlv.below B5
  have HI0 : Hid (Iw W5 B d s x D W w.heap.size h (h * R + p) (layP W.e p l) (foot d s wv) 0 W5 wv) := ⟨fun b hb => ⟨fun e => (hfoot x (by simp)).1 (e ▸ hb), fun e => by have := hPD.foot_lt b hb; omega, fun e => by have := hPD.foot_lt b hb; omega⟩, fun b => Iff.rfl, by have := hPD.below B5; simpa [Dk.more, waitOf] using this, hlow, hA.wal.below B5, c0, c1⟩
  have HC : Hid (Blk W5 (w.heap.size + 1 + 1) [.slice a n c] 33 ∧ Blk W5 (w.heap.size + 1 + 1 + 1) [.int .i64 (W.e : Int)] 3 ∧ Blk W5 (w.heap.size + 1 + 1 + 2) [.int .i64 (p : Int)] 3 ∧ LV EB W5 (.slice a n c) l) := ⟨c3, c4, b4, hlv5⟩
  have HF : Hid (∀ b, foot d s wv b → b < w.heap.size ∧ ∀ o, a ≠ some ⟨b, o, none⟩) := fun b hb => ⟨hPD.foot_lt b hb, fun o ha => (hfoot b (by simp [hag b o ha])).1 hb⟩
  have HXL : Hid (x < w.heap.size) := hxl
  clear c0 c1 c3 c4 b4 B5 s5 hlv5 hlv
  refine wpIn_wide.1 (wpIn_range (a := { tmps := #[Value.pointer (some ⟨x, 0, none⟩), Value.int IntKind.i64 (h : Int), Value.int IntKind.i64 (p : Int), Value.slice a n c, Value.pointer (some ⟨w.heap.size, 0, none⟩), Value.pointer (some ⟨w.heap.size + 1, 0, none⟩), undef, undef, undef, undef, Value.slice a n c, Value.pointer (some ⟨x, 0, none⟩), Value.pointer (some ⟨x, 0, none⟩), Value.pointer (some ⟨x, 2, none⟩), Value.int IntKind.i64 (W.e : Int), Value.int IntKind.i64 (p : Int), Value.func (Fn.func 110) #[] #[Value.pointer (some ⟨w.heap.size + 1 + 1, 0, none⟩), Value.pointer (some ⟨w.heap.size + 1 + 1 + 1, 0, none⟩), Value.pointer (some ⟨w.heap.size + 1 + 1 + 2, 0, none⟩)], undef, undef, undef, undef, undef, undef, undef, undef, undef, undef, undef, undef, undef, undef, undef, undef, undef, undef], defers := [] }) (gf := 110) (lb := #[.pointer (some ⟨w.heap.size + 1 + 1, 0, none⟩), .pointer (some ⟨w.heap.size + 1 + 1 + 1, 0, none⟩), .pointer (some ⟨w.heap.size + 1 + 1 + 2, 0, none⟩)]) rfl eg110 rfl (Enc := EncP) (fun r v W1 W2 h k => h) (xs := piecesP l W.e p) (G := G3 a (w.heap.size + 1 + 1))
    (fun W' k' _ => runs110 (HC.out.2.2.2.below k') hl0 hl (by omega) (HC.out.1.below k') (HC.out.2.1.below k') (HC.out.2.2.1.below k')) (fun b hb => ?inG)
    (fun O' pre W' => ∃ wv', Iw W5 B d s x D W w.heap.size h (h * R + p) (layP W.e p l) O' pre.length W' wv') (fun _ _ _ _ => False) (fun O' pre W' ⟨_, hv⟩ => hv.lt) (fun O' pre W1 W2 ⟨_, hv⟩ k => ⟨_, hv.keep (by have := HS5.out; have := HXL.out; omega) (by have := HS5.out; omega) k⟩) (fun c => fun O' pre W1 W2 h _ => h.elim)
    (foot d s wv) (fun b hb => ?inO) ⟨_, HI0.out⟩ (fun v blk => { tmps := #[Value.pointer (some ⟨x, 0, none⟩), Value.int IntKind.i64 (h : Int), Value.int IntKind.i64 (p : Int), Value.slice a n c, Value.pointer (some ⟨w.heap.size, 0, none⟩), Value.pointer (some ⟨w.heap.size + 1, 0, none⟩), undef, undef, Value.pointer (some ⟨blk, 0, none⟩), undef, Value.slice a n c, Value.pointer (some ⟨x, 0, none⟩), Value.pointer (some ⟨x, 0, none⟩), Value.pointer (some ⟨x, 2, none⟩), Value.int IntKind.i64 (W.e : Int), Value.int IntKind.i64 (p : Int), Value.func (Fn.func 110) #[] #[Value.pointer (some ⟨w.heap.size + 1 + 1, 0, none⟩), Value.pointer (some ⟨w.heap.size + 1 + 1 + 1, 0, none⟩), Value.pointer (some ⟨w.heap.size + 1 + 1 + 2, 0, none⟩)], v, undef, undef, undef, undef, undef, undef, undef, undef, undef, undef, undef, undef, undef, undef, undef, undef, undef], defers := [] }) (fun v => match v with | .agg a => a.toList | _ => []) 141 ?assign ?body ?done ?stop)
  case inG =>
    have := HS5.out
    rcases hb with ⟨o, ha⟩ | rfl | rfl | rfl
    · exact lv_inside HC.out.2.2.2 hl0 ha
    · omega
    · omega
    · omega
  case inO =>
    have h5 := HS5.out
    obtain ⟨h1, h2⟩ := HF.out b hb
    refine ⟨?_, by omega⟩
    rintro (⟨o, ha⟩ | rfl | rfl | rfl)
    · exact h2 o ha
    · omega
    · omega
    · omega
  case stop =>
    rintro D' c O' pre W' hD nD hpre h hgr hk hd
    exact h.elim
  case assign =>
    intro l' xx v W' K hE hK
    have hv : v = .agg (encPc xx).toArray := hE
    subst hv
    have hzl : (encPc zPc).length = 62 := encPc_length _
    have hxl' : (encPc xx).length = 62 := encPc_length _
    have hxo := encPc_one xx
    have hpi := info141a
    generalize encPc zPc = e0 at *
    have HK : Hid (∀ Wa, Blk Wa W'.heap.size (encPc xx) 141 → Below W'.heap.size W' Wa → Wa.heap.size = W'.heap.size + 1 → K _ Wa) := fun Wa hb => hK Wa hb
    generalize encPc xx = px at *
    rw [foldl_one]
    simp only [List.setIfInBounds_toArray, List.set_cons_succ, List.set_cons_zero]
    gi_wp2_with (first
      | (refine wpListIn_of_step rfl (by intro c hc; cases hc) (fun K2 hK2 => ?_); refine step_alloc_row rfl (some 8) rfl 141 rfl e0 hpi ?_; intro w2 b2 k2 s2; have S2 : Hid (w2.heap.size = W'.heap.size + 1) := s2; clear s2; apply hK2)
      | (refine wpListIn_of_step rfl (by intro c hc; cases hc) (fun K2 hK2 => ?_); refine step_store_whole rfl rfl 141 (.tmp 8) (.tmp 17) rfl W'.heap.size px rfl rfl e0 141 b2 (by omega) (by rw [hxl']; exact info141s) hxo ?_; intro w3 b3 k3 s3; have HQ := HK.out w3 b3 (kbel k2 k3 (Nat.le_refl _) (Nat.le_refl _)) (by have := S2.out; omega); clear s3; apply hK2))
    exact HQ
  case done =>
    rintro D' O' W' hD nD ⟨wv', hI⟩ hgr hk hd
    have hlen : (piecesP l W.e p).length = np l := by simp [piecesP]
    have HF2 : Hid (∀ w'', Keep (· ∈ [D']) W' w'' → LG B w'' d s (D.more (h * R + p) (layP W.e p l)) x W G ∧ Kept G w w'' ∧ Below B w w'') := fun w'' k => by
      have h5 := HS5.out
      have hdk := hI.disk
      rw [hlen, List.take_of_length_le (by rw [lay_length]; omega)] at hdk
      have hnf : ∀ b, foot d s wv' b → ¬ b ∈ [D'] := fun b hb hm => by
        have : b = D' := by simpa using hm
        subst this
        exact nD ((hI.own b).2 hb)
      have hxD : ¬ x ∈ [D'] := by simp; have := HXL.out; omega
      have hkG : Kept (x :: G) w w'' := fun g hg => by
        have hgl : g < w.heap.size := by
          rcases List.mem_cons.1 hg with rfl | hg
          · exact hxl
          · exact hG g hg
        have hgD : ¬ g ∈ [D'] := by simp; omega
        exact ((k.block g (by have := hk.size; omega) hgD).trans (hk.block g (by omega) (hfoot g hg).1)).trans (HB5.out.block g hgl)
      refine ⟨⟨⟨wv', hdk.keep k (fun b hb h => hnf b hb h), fun g hg => ⟨fun hf => ?_, ?_⟩, hI.low, ?_⟩, hI.wal.keep k hxD, hA.nx, hA.bx⟩, fun g hg => hkG g (by simp [hg]), ?_⟩
      · rcases hgr g ((hI.own g).2 hf) with h1 | h1
        · exact (hfoot g hg).1 h1
        · have : g < w.heap.size := by
            rcases List.mem_cons.1 hg with rfl | hg
            · exact hxl
            · exact hG g hg
          omega
      · have : g < w.heap.size := by
          rcases List.mem_cons.1 hg with rfl | hg
          · exact hxl
          · exact hG g hg
        have := hk.size
        have := k.size
        omega
      · have := hk.size
        have := k.size
        omega
      · exact ((HB5.out.mono hBz).trans (hk.below (by omega) (fun b hb => hlow b hb))).trans (k.below (by have := hk.size; omega) (fun b hb => by
          have : b = D' := by simpa using hb
          omega))
    have Hd : Hid _ := hd
    clear hI hgr hk hd nD
    dsimp only
    refine leave_marks [D'] _ (fun w'' k => ⟨by simp [results, Try.results82], rfl, HF2.out w'' k⟩) (fun D'' h => by simp at h; subst h; exact Hd.out) (by simp)
  case body =>
    intro l' O' pre xx v W' blk hI hE hnb hle hsz hblk hpre
    obtain ⟨wv', hI⟩ := hI
    have hv : v = .agg (encPc xx).toArray := hE
    subst hv
    obtain ⟨hj, rfl⟩ := piece_of_prefix hpre
    have hlen1 : (pre ++ [pieceP l W.e p pre.length]).length = pre.length + 1 := by simp
    obtain ⟨PR, hPR⟩ : ∃ PR, pre ++ [pieceP l W.e p pre.length] = PR := ⟨_, rfl⟩
    rw [hPR] at hlen1 ⊢
    clear hpre hPR
    generalize pre.length = j at *
    have hblk' : Blk W' blk (encPc (pieceP l W.e p j)) 141 := hblk
    have hn64 : np l ≤ 64 := by unfold np; omega
    have hok : (pieceP l W.e p j).Ok := pieceP_ok he (by omega) hj hl
    have K103 : Hid (Calls Try.prog 103 #[.agg (encPc (pieceP l W.e p j)).toArray] W' fun e w' => e = .returned (.agg (cellsB (secX (pieceP l W.e p j))).toArray) ∧ Below W'.heap.size W' w') := sector103 hok
    have hsx : (secX (pieceP l W.e p j)).length = 64 := secX_length hok.b
    have hsl : (cellsB (secX (pieceP l W.e p j))).length = 64 := by rw [cellsB_length]; exact hsx
    have hso := cellsB_one (secX (pieceP l W.e p j))
    have hzi := info90y
    have hzl : (cellsB Z64).length = 64 := by rw [cellsB_length]; rfl
    have hxl := encPc_length (pieceP l W.e p j)
    have hr8 := hblk'.whole
    have hp1 : W'.cell? ⟨blk, 1, none⟩ = some (.int .i64 ((p + j : Nat) : Int)) := hblk'.cell 1
    have HFIN : Hid (∀ W2 g W3, Below W'.heap.size W' W2 → W2.heap.size ≤ g → Blk W3 g (cellsB (secX (pieceP l W.e p j))) 90 → Below W'.heap.size W' W3 → W3.heap.size = W2.heap.size + 1 → True) := fun _ _ _ _ _ _ _ _ => trivial
    generalize cellsB Z64 = z0 at *
    generalize hpx : encPc (pieceP l W.e p j) = px at *
    generalize hcx : cellsB (secX (pieceP l W.e p j)) = cx at *
    dsimp only
    gi_wp2_with (first
      | (refine wpListIn_load_mid' rfl 141 (.tmp 8) rfl blk 0 rfl px _ hr8 Try.underlying141 rfl (by rw [hxl]; exact info141s) ?_)
      | (refine ⟨trivial, rfl, (CallsIn.inRound l' (callsIn_wide.2 K103.out)).mono ?_⟩; rintro e' w1 ⟨rfl, B1⟩)
      | (refine wpListIn_of_step rfl (by intro c hc; cases hc) (fun K2 hK2 => ?_); refine step_alloc_row rfl (some 9) rfl 90 rfl z0 hzi ?_; intro w2 b2 k2 s2; have S2 : Hid (w2.heap.size = w1.heap.size + 1) := s2; clear s2; apply hK2)
      | (refine wpListIn_of_step rfl (by intro c hc; cases hc) (fun K2 hK2 => ?_); refine step_store_whole rfl rfl 90 (.tmp 9) (.tmp 19) rfl w1.heap.size cx rfl rfl z0 90 b2 (by omega) (by rw [hsl]; exact info90s) hso ?_; intro w3 b3 k3 s3; have S3 : Hid (w3.heap.size = w2.heap.size) := s3; clear s3; apply hK2))
    have hBW' : w.heap.size + 5 ≤ blk := by have := HS5.out; omega
    have q3 : Below W'.heap.size W' w3 := kbel (bmore B1 k2) k3 B1.size (Nat.le_refl _)
    have b4 := b3.below (Below.refl _ _).drew
    have q4 : Below W'.heap.size W' w3.drew := bmore q3 (Below.refl _ _).drew
    have HX : Hid (∀ W4, Keep O' W' W4 → W4.cell? ⟨w.heap.size, 0, none⟩ = some (.pointer (some ⟨x, 0, none⟩)) ∧ W4.cell? ⟨w.heap.size + 1, 0, none⟩ = some (.int .i64 (h : Int)) ∧ W4.cell? ⟨x, 0, none⟩ = some (.pointer (some ⟨d, 0, none⟩)) ∧ W4.cell? ⟨blk, 1, none⟩ = some (.int .i64 ((p + j : Nat) : Int))) := fun W4 k => by
      have nf : ∀ b, b = x ∨ b = w.heap.size ∨ b = w.heap.size + 1 → ¬ O' b := fun b hb hO => by
        have := hI.apart b ((hI.own b).1 hO)
        omega
      exact ⟨(hI.bx.keep k (nf _ (by omega))).cell 0, (hI.bh.keep k (nf _ (by omega))).cell 0, (hI.wal.keep k (nf _ (by omega))).cell 0, ((hblk'.keep k hnb).cell 1).trans ((hblk'.cell 1).symm.trans hp1)⟩
    have hPD4 := hI.disk.below q4
    have hwal4 := hI.wal.below q4
    have hB4 : B ≤ w3.drew.heap.size := Nat.le_trans (hI.low d (.inl rfl)) (Nat.le_of_lt (hPD4.foot_lt d (.inl rfl)))
    have hgf : ¬ foot d s wv' w1.heap.size := fun hf => by
      have := hI.disk.foot_lt _ hf
      have := B1.size
      omega
    have k80 := room80 (w := w3.drew) (B := B) (s := s) (D := D.more (h * R + p) ((layP W.e p l).take j)) (G := []) ⟨wv', hPD4, by simp, hI.low, hB4⟩ hwal4 (R := R) hS hR
    have htl : ((layP W.e p l).take j).length = j := by rw [List.length_take, lay_length]; omega
    have hhR : h * R ≤ R := by rcases hh with rfl | rfl <;> omega
    have hbnd : h * R + p + ((layP W.e p l).take j).length < D.secs.length := by
      rw [htl, hS]
      rcases hh with rfl | rfl <;> omega
    have hmw := more_write (D := D) (b := h * R + p) (X := (layP W.e p l).take j) hcut hoff hsx hbnd
    rw [secX_piece] at hmw
    rw [← lay_take hj, htl] at hmw
    have hsb : SB w3.drew (.slice (some ⟨w1.heap.size, 0, none⟩) 64 64) (secOf W.e (p + j) j (np l) (partOf l j)) := by
      rw [← hcx, secX_piece] at b4
      exact sb_arr b4 (by rw [← secX_piece]; exact hsx)
    have k22 := write22 hPD4 (((h * R + p + j : Nat)) : Int) (.slice (some ⟨w1.heap.size, 0, none⟩) 64 64) (secOf W.e (p + j) j (np l) (partOf l j)) hsb (by intro a n c e _; cases e; exact hgf) (by show (D.wait ++ waitOf _ _).length ≤ 100000; rw [List.length_append, waitOf_length, htl]; omega)
    rw [hmw] at k22
    have HFIN : Hid (∀ w8, Left w3.drew d s wv' (D.more (h * R + p) ((layP W.e p l).take (j + 1))) w8 → ∃ O2, (∃ wv2, Iw W5 B d s x D W w.heap.size h (h * R + p) (layP W.e p l) O2 (j + 1) w8 wv2) ∧ GrewN (W5.heap.size + 2) O' O2 ∧ Keep O' W' w8) := by
      rintro w8 ⟨wv2, hP8, hK8, hf8⟩
      have kk : Keep O' W' w8 := (Keep.of q4).trans hK8 (fun b _ hb => (hI.own b).2 hb)
      have nf : ∀ b, b = x ∨ b = w.heap.size ∨ b = w.heap.size + 1 → ¬ O' b := fun b hb hO => by
        have := hI.apart b ((hI.own b).1 hO)
        omega
      have hsz4 := q4.size
      have hxl' := hI.wal.lt
      have hql := hI.bx.lt
      have hhl := hI.bh.lt
      refine ⟨foot d s wv2, ⟨wv2, fun b hb => ?_, fun b => Iff.rfl, hP8, fun b hb => ?_, hI.wal.keep kk (nf _ (by omega)), hI.bx.keep kk (nf _ (by omega)), hI.bh.keep kk (nf _ (by omega))⟩, fun b hb => ?_, kk⟩
      · rcases hf8 b hb with h1 | h1
        · exact hI.apart b h1
        · omega
      · rcases hf8 b hb with h1 | h1
        · exact hI.low b h1
        · omega
      · rcases hf8 b hb with h1 | h1
        · exact .inl ((hI.own b).2 h1)
        · exact .inr (by omega)
    have HX4 := HX.out _ (Keep.of q4)
    have HL : Hid (PR.length = j + 1) := hlen1
    have HRj : Hid (h * R + p + j < 2 * R) := by rw [htl] at hbnd; show _ < _; omega
    have HR2 : Hid (R ≤ 64 ∧ h ≤ 1) := ⟨hR, by omega⟩
    have hmul : IntKind.i64.wrap ((h : Int) * (R : Int)) = ((h * R : Nat) : Int) := by
      rw [show ((h : Int) * (R : Int)) = ((h * R : Nat) : Int) by simp]
      exact wrap_small _ (by omega) (by omega)
    have hadd : IntKind.i64.wrap (((h * R : Nat) : Int) + ((p + j : Nat) : Int)) = ((h * R + p + j : Nat) : Int) := by
      rw [show ((h * R : Nat) : Int) + ((p + j : Nat) : Int) = ((h * R + p + j : Nat) : Int) by omega]
      exact wrap_small _ (by omega) (by omega)
    have k98 := accept98
    clear hI hblk hblk' hr8 hxl hwal4 hPD4 hsb b4 b3 b2 k2 k3 hmw hok hhR hbnd htl hE hp1 hzi hzl hsl hso hcx hpx hlen1 hB4 hgf
    generalize h * R + p + j = pl at *
    obtain ⟨hr, HEQ⟩ : ∃ hr, h * R = hr := ⟨_, rfl⟩
    rw [HEQ] at hmul hadd
    clear HEQ
    generalize p + j = pj at *
    refine Code.wpIn_mono Nrm.imp ?_
    refine wpIn_region_held_round (S := fun W4 => W4.cell? ⟨w.heap.size, 0, none⟩ = some (.pointer (some ⟨x, 0, none⟩)) ∧ W4.cell? ⟨w.heap.size + 1, 0, none⟩ = some (.int .i64 (h : Int)) ∧ W4.cell? ⟨x, 0, none⟩ = some (.pointer (some ⟨d, 0, none⟩)) ∧ W4.cell? ⟨blk, 1, none⟩ = some (.int .i64 (pj : Int))) (by kernel_rfl) (by kernel_rfl) (fun ⟨_, _, h⟩ => h) HX4 (fun hS => ?_)
    refine wpAnyH_take' 0 (some 20) (.pointer (some ⟨x, 0, none⟩)) rfl rfl (by kernel_rfl) (by kernel_rfl) (by kernel_rfl) (fun _ _ _ h => h) (Or.inl ⟨by rfl, fun w' hS => by obtain ⟨s0, s1, s2, s3⟩ := hS; go_simp⟩) hS ?_
    simp only [Act.put, List.setIfInBounds_toArray, List.set_cons_zero, List.set_cons_succ]
    refine wpAnyH_take' 1 (some 21) (.pointer (some ⟨x, 0, none⟩)) rfl rfl (by kernel_rfl) (by kernel_rfl) (by kernel_rfl) (fun _ _ _ h => h) (Or.inl ⟨by rfl, fun w' hS => by obtain ⟨s0, s1, s2, s3⟩ := hS; go_simp⟩) hS ?_
    simp only [Act.put, List.setIfInBounds_toArray, List.set_cons_zero, List.set_cons_succ]
    refine wpAnyH_take' 2 (some 22) (.pointer (some ⟨x, 0, none⟩)) rfl rfl (by kernel_rfl) (by kernel_rfl) (by kernel_rfl) (fun _ _ _ h => h) (Or.inl ⟨by rfl, fun w' hS => by obtain ⟨s0, s1, s2, s3⟩ := hS; go_simp⟩) hS ?_
    simp only [Act.put, List.setIfInBounds_toArray, List.set_cons_zero, List.set_cons_succ]
    refine wpAnyH_take' 3 (some 23) (.pointer (some ⟨d, 0, none⟩)) rfl rfl (by kernel_rfl) (by kernel_rfl) (by kernel_rfl) (fun _ _ _ h => h) (Or.inl ⟨by rfl, fun w' hS => by obtain ⟨s0, s1, s2, s3⟩ := hS; go_simp⟩) hS ?_
    simp only [Act.put, List.setIfInBounds_toArray, List.set_cons_zero, List.set_cons_succ]
    refine wpAnyH_take' 4 (some 24) (.int .i64 (h : Int)) rfl rfl (by kernel_rfl) (by kernel_rfl) (by kernel_rfl) (fun _ _ _ h => h) (Or.inl ⟨by rfl, fun w' hS => by obtain ⟨s0, s1, s2, s3⟩ := hS; go_simp⟩) hS ?_
    simp only [Act.put, List.setIfInBounds_toArray, List.set_cons_zero, List.set_cons_succ]
    refine wpAnyH_take' 5 (some 25) (.pointer (some ⟨x, 0, none⟩)) rfl rfl (by kernel_rfl) (by kernel_rfl) (by kernel_rfl) (fun _ _ _ h => h) (Or.inl ⟨by rfl, fun w' hS => by obtain ⟨s0, s1, s2, s3⟩ := hS; go_simp⟩) hS ?_
    simp only [Act.put, List.setIfInBounds_toArray, List.set_cons_zero, List.set_cons_succ]
    refine wpAnyH_take' 8 (some 28) (.pointer (some ⟨blk, 0, none⟩)) rfl rfl (by kernel_rfl) (by kernel_rfl) (by kernel_rfl) (fun _ _ _ h => h) (Or.inl ⟨by rfl, fun w' hS => by obtain ⟨s0, s1, s2, s3⟩ := hS; go_simp⟩) hS ?_
    simp only [Act.put, List.setIfInBounds_toArray, List.set_cons_zero, List.set_cons_succ]
    refine wpAnyH_take' 9 (some 29) (.pointer (some ⟨blk, 1, none⟩)) rfl rfl (by kernel_rfl) (by kernel_rfl) (by kernel_rfl) (fun _ _ _ h => h) (Or.inl ⟨by rfl, fun w' hS => by obtain ⟨s0, s1, s2, s3⟩ := hS; go_simp⟩) hS ?_
    simp only [Act.put, List.setIfInBounds_toArray, List.set_cons_zero, List.set_cons_succ]
    refine wpAnyH_take' 10 (some 30) (.int .i64 (pj : Int)) rfl rfl (by kernel_rfl) (by kernel_rfl) (by kernel_rfl) (fun _ _ _ h => h) (Or.inl ⟨by rfl, fun w' hS => by obtain ⟨s0, s1, s2, s3⟩ := hS; go_simp⟩) hS ?_
    simp only [Act.put, List.setIfInBounds_toArray, List.set_cons_zero, List.set_cons_succ]
    refine wpAnyH_take' 12 (some 32) (.slice (some ⟨w1.heap.size, 0, none⟩) 64 64) rfl rfl (by kernel_rfl) (by kernel_rfl) (by kernel_rfl) (fun _ _ _ h => h) (Or.inl ⟨by rfl, fun w' hS => by obtain ⟨s0, s1, s2, s3⟩ := hS; go_simp⟩) hS ?_
    simp only [Act.put, List.setIfInBounds_toArray, List.set_cons_zero, List.set_cons_succ]
    refine wpAnyH_ready (rs := [6]) (by kernel_rfl) (by simp) (AllReadyH.cons rfl (fun K2 hK2 => ?_) AllReadyH.nil)
    go_simp
    refine k80.mono ?_
    rintro e' w6 ⟨rfl, rfl⟩
    refine hK2.out _ _ hS (fun hS => ?_)
    clear hK2 K2
    try simp only [Act.put, List.setIfInBounds_toArray, List.set_cons_zero, List.set_cons_succ]
    refine wpAnyH_take' 7 (some 27) (.int .i64 (hr : Int)) rfl rfl (by kernel_rfl) (by kernel_rfl) (by kernel_rfl) (fun _ _ _ h => h) (Or.inl ⟨by rfl, fun w' hS => by obtain ⟨s0, s1, s2, s3⟩ := hS; go_simp⟩) hS ?_
    simp only [Act.put, List.setIfInBounds_toArray, List.set_cons_zero, List.set_cons_succ]
    refine wpAnyH_take' 11 (some 31) (.int .i64 (pl : Int)) rfl rfl (by kernel_rfl) (by kernel_rfl) (by kernel_rfl) (fun _ _ _ h => h) (Or.inl ⟨by rfl, fun w' hS => by obtain ⟨s0, s1, s2, s3⟩ := hS; go_simp⟩) hS ?_
    simp only [Act.put, List.setIfInBounds_toArray, List.set_cons_zero, List.set_cons_succ]
    refine wpAnyH_ready (rs := [13]) (by kernel_rfl) (by simp) (AllReadyH.cons rfl (fun K2 hK2 => ?_) AllReadyH.nil)
    go_simp
    refine k22.mono ?_
    rintro e' w8 ⟨rfl, HL8⟩
    obtain ⟨O2, hI2, hg2, hk2⟩ := HFIN.out w8 HL8
    refine hK2.out _ _ (HX.out _ hk2) (fun hS => ?_)
    clear hK2 K2
    refine wpAnyH_ready (rs := [14]) (by kernel_rfl) (by simp) (AllReadyH.cons rfl (fun K2 hK2 => ?_) AllReadyH.nil)
    go_simp
    refine (k98 _).mono ?_
    rintro e' w9 ⟨rfl, rfl⟩
    refine hK2.out _ _ hS (fun hS => ?_)
    clear hK2 K2
    refine wpAnyH_done (by kernel_rfl) (Nrm.normal ?_) _
    rw [← HL.out] at hI2
    exact ⟨O2, hI2, hg2, hk2⟩
end Go.Proofs.Ytnganmekiloigaa
