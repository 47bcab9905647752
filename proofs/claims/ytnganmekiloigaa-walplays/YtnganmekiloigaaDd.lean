/- do: a deed on both disks. -/
import Derived.Test.YtnganmekiloigaaDo
namespace Go.Proofs.Ytnganmekiloigaa
open Go.RowKit
set_option maxRecDepth 100000
variable {W W' : World} {B0 d s r : Nat} {wv lv xv : Value} {D : Dk}

/-- Both disks, apart, behind the block B0. -/
structure Both (B0 : Nat) (W : World) (d s : Nat) (wv : Value) (r : Nat) (lv xv : Value) (D : Dk) : Prop where
  pd : PD W d s wv D
  rd : RD W r lv xv D
  apart : ∀ k, foot d s wv k → ¬ rfoot r lv xv k
  pb : ∀ k, foot d s wv k → B0 ≤ k
  rb : ∀ k, rfoot r lv xv k → B0 ≤ k
  sz : B0 ≤ W.heap.size
theorem Both.below (h : Both B0 W d s wv r lv xv D) (hb : Below W.heap.size W W') : Both B0 W' d s wv r lv xv D := ⟨h.pd.below hb, h.rd.below hb, h.apart, h.pb, h.rb, Nat.le_trans h.sz hb.size⟩
theorem Both.keep {F : Nat → Prop} (h : Both B0 W d s wv r lv xv D) (hk : Keep F W W') (hF : ∀ k, F k → ¬ foot d s wv k ∧ ¬ rfoot r lv xv k) : Both B0 W' d s wv r lv xv D :=
  ⟨h.pd.keep hk (fun k h1 h2 => (hF k h2).1 h1), h.rd.keep hk (fun k h1 h2 => (hF k h2).2 h1), h.apart, h.pb, h.rb, Nat.le_trans h.sz hk.size⟩
/-- Both are there. -/
def Two (B0 : Nat) (d s r : Nat) (D : Dk) (W : World) : Prop := ∃ wv lv xv, Both B0 W d s wv r lv xv D
/-- A deed on the one, and then on the other. -/
theorem both_step {D' : Dk} {w1 w2 : World} (h : Both B0 W d s wv r lv xv D) (hl : Left W d s wv D' w1) (hr : ∀ {wv'}, RD w1 r lv xv D → PD w1 d s wv' D' → RLeft w1 r lv xv D' w2) : Two B0 d s r D' w2 ∧ Below B0 W w2 ∧ Keep (fun k => foot d s wv k ∨ k = r) W w2 := by
  obtain ⟨wv', h1, h2, h3⟩ := hl
  have hrd1 : RD w1 r lv xv D := h.rd.keep h2 (fun k hk hf => h.apart k hf hk)
  obtain ⟨lv', xv', h4, h5, h6⟩ := hr hrd1 h1
  have hf1 : ∀ k, foot d s wv' k → ¬ rfoot r lv xv k := fun k hk hf => by
    rcases h3 k hk with h | h'
    · exact (by have := ‹Both B0 W d s wv r lv xv D›.apart k h; exact this hf)
    · have := h.rd.foot_lt k hf
      omega
  refine ⟨⟨wv', lv', xv', h1.keep h5 (fun k hk e => hf1 k hk (.inl e)), h4, fun k hk hf => ?_, fun k hk => ?_, fun k hk => ?_, Nat.le_trans h.sz (Nat.le_trans h2.size h5.size)⟩, ?_, ?_⟩
  · rcases h6 k hf with h' | h'
    · exact hf1 k hk h'
    · have := h1.foot_lt k hk
      omega
  · rcases h3 k hk with h' | h'
    · exact h.pb k h'
    · exact Nat.le_trans h.sz h'
  · rcases h6 k hk with h' | h'
    · exact h.rb k h'
    · exact Nat.le_trans (Nat.le_trans h.sz h2.size) h'
  · exact (h2.below h.sz h.pb).trans (h5.below (Nat.le_trans h.sz h2.size) (fun k e => by subst e; exact h.rb _ (.inl rfl)))
  · exact (Keep.trans (F := fun k => foot d s wv k ∨ k = r) ⟨h2.os, h2.tape, h2.output, h2.size, fun k hk hf => h2.block k hk (fun e => hf (.inl e))⟩ h5 (fun k _ e => .inr e))

/-- What a deed makes of a disk. -/
def Dk.deed (D : Dk) (k i : Int) (l : Bs) (kl : List Bool) : Dk := if k = 0 then (D.write i (l.take 66)).2 else if k = 1 then D.flush.2 else if k = 2 then D.doCut i else if k = 3 then D.crash (kl.take 40) else D

/-- Bytes, and truths, that came in: below B0. -/
def InB (B0 : Nat) (W : World) (v : Value) (l : Bs) : Prop := ∃ a c, v = .slice a l.length c ∧ l.length ≤ c ∧ c ≤ maxLen ∧ (0 < l.length → ∃ b o, a = some ⟨b, o, none⟩ ∧ b < B0 ∧ At W b o l)
def InK (B0 : Nat) (W : World) (v : Value) (l : List Bool) : Prop := ∃ a c, v = .slice a l.length c ∧ l.length ≤ c ∧ c ≤ maxLen ∧ (0 < l.length → ∃ b o, a = some ⟨b, o, none⟩ ∧ b < B0 ∧ ∀ i, i < l.length → W.cell? ⟨b, o + i, none⟩ = some (.bool (l.getD i false)))
theorem InB.sb {a : Option Addr} {c : Nat} {l : Bs} (hc : l.length ≤ c) (hm : c ≤ maxLen) (h : 0 < l.length → ∃ b o, a = some ⟨b, o, none⟩ ∧ b < B0 ∧ At W b o l) (hB : Below B0 W W') : SB W' (.slice a (min l.length 66) c) (l.take 66) := by
  by_cases h0 : 0 < l.length
  · obtain ⟨b, o, rfl, hb, hat⟩ := h h0
    refine .inr ⟨b, o, c, by rw [List.length_take, Nat.min_comm], by rw [List.length_take]; omega, by rw [List.length_take]; omega, hm, fun i hi => ?_⟩
    rw [List.length_take] at hi
    rw [hB.cell (p := ⟨b, o + i, none⟩) hb, hat i (by omega)]
    simp [show i < 66 by omega]
  · have e : l = [] := List.eq_nil_of_length_eq_zero (by omega)
    subst e
    exact .inl ⟨a, c, by simp, by simp⟩
theorem InK.kb {a : Option Addr} {c : Nat} {l : List Bool} (h : 0 < l.length → ∃ b o, a = some ⟨b, o, none⟩ ∧ b < B0 ∧ ∀ i, i < l.length → W.cell? ⟨b, o + i, none⟩ = some (.bool (l.getD i false))) (hB : Below B0 W W') : KB W' (.slice a (min l.length 40) c) (l.take 40) := by
  by_cases h0 : 0 < l.length
  · obtain ⟨b, o, rfl, hb, hat⟩ := h h0
    refine .inr ⟨b, o, c, by rw [List.length_take, Nat.min_comm], by rw [List.length_take]; omega, fun i hi => ?_⟩
    rw [List.length_take] at hi
    rw [hB.cell (p := ⟨b, o + i, none⟩) hb, hat i (by omega)]
    simp [show i < 40 by omega]
  · have e : l = [] := List.eq_nil_of_length_eq_zero (by omega)
    subst e
    exact .inl ⟨a, c, by simp, by simp⟩

set_option maxHeartbeats 4000000 in
theorem do27 (h : Both B0 W d s wv r lv xv D) (hs4 : D.secs.length = 4) (hw : D.wait.length ≤ 1000) (k i : Int) (hii : -9223372036854775808 ≤ i ∧ i ≤ 9223372036854775807) (vb vk : Value) (l : Bs) (kl : List Bool) (hb : InB B0 W vb l) (hk : InK B0 W vk kl) :
    Calls Try.prog 27 #[.pointer (some ⟨d, 0, none⟩), .pointer (some ⟨r, 0, none⟩), .agg #[.int .i64 k, .int .i64 i, vb, vk]] W fun e w' => e = .returned (.bool true) ∧ Two B0 d s r (D.deed k i l kl) w' ∧ Below B0 W w' := by
  obtain ⟨ba, bc, rfl, hb1, hb2, hb3⟩ := hb
  obtain ⟨ka, kc, rfl, hk1, hk2, hk3⟩ := hk
  have HF := fun (w : World) => few59 (W := w) k i ba l.length bc hb1 (fun h => by obtain ⟨b, o, e, _⟩ := hb3 (by omega); exact ⟨b, o, e⟩) ka kl.length kc hk1 (fun h => by obtain ⟨b, o, e, _⟩ := hk3 (by omega); exact ⟨b, o, e⟩) hb2 hk2
  have HSB : Hid (∀ w', Below B0 W w' → SB w' (.slice ba (min l.length 66) bc) (l.take 66)) := fun w' hB => InB.sb hb1 hb2 hb3 hB
  have HKB : Hid (∀ w', Below B0 W w' → KB w' (.slice ka (min kl.length 40) kc) (kl.take 40)) := fun w' hB => InK.kb hk3 hB
  have HBN : Hid (∀ a n c, Value.slice ba (min l.length 66) bc = .slice (some a) n c → 0 < (l.take 66).length → a.block < B0) := fun a n c e h0 => by
    rw [List.length_take] at h0
    obtain ⟨b, o, e', hlt, _⟩ := hb3 (by omega)
    subst e'
    cases e
    exact hlt
  have HKN : Hid (∀ a n c, Value.slice ka (min kl.length 40) kc = .slice (some a) n c → 0 < (kl.take 40).length → a.block < B0) := fun a n c e h0 => by
    rw [List.length_take] at h0
    obtain ⟨b, o, e', hlt, _⟩ := hk3 (by omega)
    subst e'
    cases e
    exact hlt
  have H : Hid (Both B0 W d s wv r lv xv D) := h
  have HPB : Hid (∀ k, foot d s wv k → B0 ≤ k) := h.pb
  have HRB : Hid (B0 ≤ r) := h.rb r (.inl rfl)
  unfold Dk.deed
  generalize min l.length 66 = nb at *
  generalize min kl.length 40 = nk at *
  generalize l.take 66 = l2 at *
  generalize kl.take 40 = kl2 at *
  generalize l.length = lb at *
  generalize kl.length = lk at *
  clear hb1 hb2 hb3 hk1 hk2 hk3 h
  have HXf : Hid (∀ k, foot d s wv k → k < W.heap.size) := H.out.pd.foot_lt
  have HXr : Hid (r < W.heap.size) := H.out.rd.rlt
  have hB0 : B0 ≤ W.heap.size := H.out.sz
  -- the deeds on both, each at whatever world
  have HW22 : Hid (∀ w, Below W.heap.size W w → Calls Try.prog 22 #[.pointer (some ⟨d, 0, none⟩), .int .i64 i, .slice ba nb bc] w fun e w' => e = .returned (.int .i64 (D.write i l2).1) ∧ Left w d s wv (D.write i l2).2 w') := fun w hB =>
    write22 (H.out.below hB).pd i _ l2 (HSB.out w (hB.mono hB0)) (fun a n c e h1 hf => by have := HBN.out a n c e h1; have := HPB.out _ hf; omega) (by omega)
  have HW60 : Hid (∀ w w5 D', Below W.heap.size W w → Left w d s wv D' w5 → Calls Try.prog 60 #[.pointer (some ⟨r, 0, none⟩), .int .i64 i, .slice ba nb bc] w5 fun e w' => e = .returned (.int .i64 (D.write i l2).1) ∧ RLeft w5 r lv xv (D.write i l2).2 w') := fun w w5 D' hB hL => by
    obtain ⟨wv', h1, h2, h3⟩ := hL
    have hb := H.out.below hB
    have hB5 : Below B0 w w5 := h2.below hb.sz hb.pb
    exact rwrite60 (hb.rd.keep h2 (fun k hk hf => hb.apart k hf hk)) i _ l2 (HSB.out w5 ((hB.mono hB0).trans hB5)) (fun a n c e h1 hf => by have := HBN.out a n c e h1; have := HRB.out; omega) hw
  have HF61 : Hid (∀ w w5 D', Below W.heap.size W w → Left w d s wv D' w5 → Calls Try.prog 61 #[.pointer (some ⟨r, 0, none⟩)] w5 fun e w' => e = .returned (.int .i64 D.flush.1) ∧ RLeft w5 r lv xv D.flush.2 w') := fun w w5 D' hB hL => by
    obtain ⟨wv', h1, h2, h3⟩ := hL
    have hb := H.out.below hB
    exact rflush61 (hb.rd.keep h2 (fun k hk hf => hb.apart k hf hk)) (by omega) (by omega) hw
  have HC62 : Hid (∀ w w5 D', Below W.heap.size W w → Left w d s wv D' w5 → Calls Try.prog 62 #[.pointer (some ⟨r, 0, none⟩), .int .i64 i] w5 fun e w' => e = .returned (.tuple #[]) ∧ RLeft w5 r lv xv (D.doCut i) w') := fun w w5 D' hB hL => by
    obtain ⟨wv', h1, h2, h3⟩ := hL
    have hb := H.out.below hB
    refine (rcut62 (hb.rd.keep h2 (fun k hk hf => hb.apart k hf hk)) i hii).mono ?_
    rintro e w' ⟨h5, h6, h7⟩
    exact ⟨h5, RLeft.same h6 h7⟩
  have HC63 : Hid (∀ w w5 D', Below W.heap.size W w → Left w d s wv D' w5 → Calls Try.prog 63 #[.pointer (some ⟨r, 0, none⟩), .slice ka nk kc] w5 fun e w' => e = .returned (.tuple #[]) ∧ RLeft w5 r lv xv (D.crash kl2) w') := fun w w5 D' hB hL => by
    obtain ⟨wv', h1, h2, h3⟩ := hL
    have hb := H.out.below hB
    have hB5 : Below B0 w w5 := h2.below hb.sz hb.pb
    exact rcrash63 (hb.rd.keep h2 (fun k hk hf => hb.apart k hf hk)) (by omega) (by omega) hw _ kl2 (HKB.out w5 ((hB.mono hB0).trans hB5)) (fun a n c e h1 hf => by have := HKN.out a n c e h1; have := HRB.out; omega)
  have HC24 : Hid (∀ w, Below W.heap.size W w → Calls Try.prog 24 #[.pointer (some ⟨d, 0, none⟩)] w fun e w' => e = .returned (.int .i64 D.flush.1) ∧ Left w d s wv D.flush.2 w') := fun w hB => flush24 (H.out.below hB).pd (by omega)
  have HC23 : Hid (∀ w, Below W.heap.size W w → Calls Try.prog 23 #[.pointer (some ⟨d, 0, none⟩), .int .i64 i] w fun e w' => e = .returned (.tuple #[]) ∧ Left w d s wv (D.doCut i) w') := fun w hB => by
    refine (cut23 (H.out.below hB).pd i hii).mono ?_
    rintro e w' ⟨h5, h6, h7⟩
    exact ⟨h5, Left.same h6 h7⟩
  have HC18 : Hid (∀ w, Below W.heap.size W w → Calls Try.prog 18 #[.pointer (some ⟨d, 0, none⟩), .slice ka nk kc] w fun e w' => e = .returned (.tuple #[]) ∧ Left w d s wv (D.crash kl2) w') := fun w hB =>
    crash18 (H.out.below hB).pd (by omega) _ kl2 (HKB.out w (hB.mono hB0)) (fun a n c e h1 hf => by have := HKN.out a n c e h1; have := HPB.out _ hf; omega)
  have HCell : Hid (∀ w w5 D' j v, Below W.heap.size W w → Left w d s wv D' w5 → W.heap.size < w.heap.size → w.cell? ⟨W.heap.size, j, none⟩ = some v → w5.cell? ⟨W.heap.size, j, none⟩ = some v) := fun w w5 D' j v hB hL hlt hc => by
    obtain ⟨wv', h1, h2, h3⟩ := hL
    exact (World.cell?_of_block (a := ⟨W.heap.size, j, none⟩) (h2.block W.heap.size hlt (fun hf => Nat.lt_irrefl _ (HXf.out _ hf)))).trans hc
  have HCellR : Hid (∀ w5 w6 D' j v, RLeft w5 r lv xv D' w6 → w5.cell? ⟨W.heap.size, j, none⟩ = some v → w6.cell? ⟨W.heap.size, j, none⟩ = some v) := fun w5 w6 D' j v hL hc => by
    obtain ⟨lv', xv', h1, h2, h3⟩ := hL
    exact (World.cell?_of_block (a := ⟨W.heap.size, j, none⟩) (h2.block W.heap.size (World.block_lt_of_cell? _ _ hc) (fun e => by have := HXr.out; omega))).trans hc
  have HEnd : Hid (∀ w w5 w6 D', Below W.heap.size W w → Left w d s wv D' w5 → RLeft w5 r lv xv D' w6 → Two B0 d s r D' w6 ∧ Below B0 W w6) := fun w w5 w6 D' hB hL hR => by
    have := both_step (H.out.below hB) hL (fun _ _ => hR)
    exact ⟨this.1, (hB.mono hB0).trans this.2.1⟩
  by_cases h0 : k = 0
  · subst h0
    rw [if_pos rfl]
    generalize (D.write i l2).1 = E at *
    generalize (D.write i l2).2 = D' at *
    clear H HSB HKB HBN HKN HPB HRB HF61 HC62 HC63 HC24 HC23 HC18 HXf HXr
    go_enter Try.func27, Try.ntmps27
    go_wp2_with (first
      | (go_at_call 59; (refine (HF _).mono ?_; rintro e w2 ⟨rfl, hB2⟩; have hBl2 : Blk w2 W.heap.size [.int .i64 0, .int .i64 i, .slice ba lb bc, .slice ka lk kc] 50 := (blk_new W [.int .i64 0, .int .i64 i, .slice ba lb bc, .slice ka lk kc] 50).below hB2))
      | (refine wpList_store_whole (by rfl) 50 (.tmp 5) (.tmp 8) (by rfl) W.heap.size [.int .i64 0, .int .i64 i, .slice ba nb bc, .slice ka nk kc] (by rfl) (by rfl) _ 50 hBl2 (by rfl) (by kernel_rfl) (by simp [Value.oneCell']) ?_; intro w3 hBl3 hk3 hs3; have e0 : w3.cell? ⟨W.heap.size, 0, none⟩ = some (.int .i64 0) := (hBl3.cell 0).trans rfl; have e1 : w3.cell? ⟨W.heap.size, 1, none⟩ = some (.int .i64 i) := (hBl3.cell 1).trans rfl; have e2 : w3.cell? ⟨W.heap.size, 2, none⟩ = some (.slice ba nb bc) := (hBl3.cell 2).trans rfl; have e3 : w3.cell? ⟨W.heap.size, 3, none⟩ = some (.slice ka nk kc) := (hBl3.cell 3).trans rfl; have hBw : Below W.heap.size W w3 := ((al W _).trans (hB2.mono (by simp))).trans (hk3.below (Nat.le_of_lt hBl2.lt) (fun i e => by omega))))
    have hBd : Below W.heap.size W w3.drew := hBw.drew
    have hld : W.heap.size < w3.drew.heap.size := hBl3.lt
    have hS0 : w3.drew.cell? ⟨W.heap.size, 1, none⟩ = some (.int .i64 i) ∧ w3.drew.cell? ⟨W.heap.size, 2, none⟩ = some (.slice ba nb bc) := ⟨by simpa using e1, by simpa using e2⟩
    go_region_held3 (fun w' => w'.cell? ⟨W.heap.size, 1, none⟩ = some (.int .i64 i) ∧ w'.cell? ⟨W.heap.size, 2, none⟩ = some (.slice ba nb bc)) (first | exact hS0 | exact hS5 | exact hS6) (first
      | (go_at_call 22; (refine (HW22.out _ hBd).mono ?_; rintro e w5 ⟨rfl, hL5⟩; have hS5 : w5.cell? ⟨W.heap.size, 1, none⟩ = some (.int .i64 i) ∧ w5.cell? ⟨W.heap.size, 2, none⟩ = some (.slice ba nb bc) := ⟨HCell.out _ _ _ _ _ hBd hL5 hld hS0.1, HCell.out _ _ _ _ _ hBd hL5 hld hS0.2⟩))
      | (go_at_call 60; (refine (HW60.out _ _ _ hBd hL5).mono ?_; rintro e w6 ⟨rfl, hL6⟩; have hS6 : w6.cell? ⟨W.heap.size, 1, none⟩ = some (.int .i64 i) ∧ w6.cell? ⟨W.heap.size, 2, none⟩ = some (.slice ba nb bc)   := ⟨HCellR.out _ _ _ _ _ hL6 hS5.1, HCellR.out _ _ _ _ _ hL6 hS5.2⟩)))
    go_wp2
    go_ret
    exact ⟨rfl, HEnd.out _ _ _ _ hBd hL5 hL6⟩
  · rw [if_neg h0]
    by_cases h1 : k = 1
    · subst h1
      rw [if_pos rfl]
      generalize D.flush.1 = E at *
      generalize D.flush.2 = D' at *
      clear H HSB HKB HBN HKN HPB HRB HW22 HW60 HC62 HC63 HC23 HC18 HXf HXr
      go_enter Try.func27, Try.ntmps27
      go_wp2_with (first
        | (go_at_call 59; (refine (HF _).mono ?_; rintro e w2 ⟨rfl, hB2⟩; have hBl2 : Blk w2 W.heap.size [.int .i64 1, .int .i64 i, .slice ba lb bc, .slice ka lk kc] 50 := (blk_new W [.int .i64 1, .int .i64 i, .slice ba lb bc, .slice ka lk kc] 50).below hB2))
        | (refine wpList_store_whole (by rfl) 50 (.tmp 5) (.tmp 8) (by rfl) W.heap.size [.int .i64 1, .int .i64 i, .slice ba nb bc, .slice ka nk kc] (by rfl) (by rfl) _ 50 hBl2 (by rfl) (by kernel_rfl) (by simp [Value.oneCell']) ?_; intro w3 hBl3 hk3 hs3; have e0 : w3.cell? ⟨W.heap.size, 0, none⟩ = some (.int .i64 1) := (hBl3.cell 0).trans rfl; have e1 : w3.cell? ⟨W.heap.size, 1, none⟩ = some (.int .i64 i) := (hBl3.cell 1).trans rfl; have e2 : w3.cell? ⟨W.heap.size, 2, none⟩ = some (.slice ba nb bc) := (hBl3.cell 2).trans rfl; have e3 : w3.cell? ⟨W.heap.size, 3, none⟩ = some (.slice ka nk kc) := (hBl3.cell 3).trans rfl; have hBw : Below W.heap.size W w3 := ((al W _).trans (hB2.mono (by simp))).trans (hk3.below (Nat.le_of_lt hBl2.lt) (fun i e => by omega)))
        | (go_at_call 24; (refine (HC24.out _ hBw).mono ?_; rintro e w5 ⟨rfl, hL5⟩))
        | (go_at_call 61; (refine (HF61.out _ _ _ hBw hL5).mono ?_; rintro e w6 ⟨rfl, hL6⟩)))
      go_ret
      exact ⟨rfl, HEnd.out _ _ _ _ hBw hL5 hL6⟩
    · rw [if_neg h1]
      by_cases h2 : k = 2
      · subst h2
        rw [if_pos rfl]
        generalize D.doCut i = D' at *
        clear H HSB HKB HBN HKN HPB HRB HW22 HW60 HF61 HC63 HC24 HC18 HXr
        go_enter Try.func27, Try.ntmps27
        go_wp2_with (first
          | (go_at_call 59; (refine (HF _).mono ?_; rintro e w2 ⟨rfl, hB2⟩; have hBl2 : Blk w2 W.heap.size [.int .i64 2, .int .i64 i, .slice ba lb bc, .slice ka lk kc] 50 := (blk_new W [.int .i64 2, .int .i64 i, .slice ba lb bc, .slice ka lk kc] 50).below hB2))
          | (refine wpList_store_whole (by rfl) 50 (.tmp 5) (.tmp 8) (by rfl) W.heap.size [.int .i64 2, .int .i64 i, .slice ba nb bc, .slice ka nk kc] (by rfl) (by rfl) _ 50 hBl2 (by rfl) (by kernel_rfl) (by simp [Value.oneCell']) ?_; intro w3 hBl3 hk3 hs3; have e0 : w3.cell? ⟨W.heap.size, 0, none⟩ = some (.int .i64 2) := (hBl3.cell 0).trans rfl; have e1 : w3.cell? ⟨W.heap.size, 1, none⟩ = some (.int .i64 i) := (hBl3.cell 1).trans rfl; have e2 : w3.cell? ⟨W.heap.size, 2, none⟩ = some (.slice ba nb bc) := (hBl3.cell 2).trans rfl; have e3 : w3.cell? ⟨W.heap.size, 3, none⟩ = some (.slice ka nk kc) := (hBl3.cell 3).trans rfl; have hBw : Below W.heap.size W w3 := ((al W _).trans (hB2.mono (by simp))).trans (hk3.below (Nat.le_of_lt hBl2.lt) (fun i e => by omega)))
          | (go_at_call 23; (refine (HC23.out _ hBw).mono ?_; rintro e w5 ⟨rfl, hL5⟩; have e5 := HCell.out _ _ _ _ _ hBw hL5 hBl3.lt e1))
          | (go_at_call 62; (refine (HC62.out _ _ _ hBw hL5).mono ?_; rintro e w6 ⟨rfl, hL6⟩)))
        go_ret
        exact ⟨rfl, HEnd.out _ _ _ _ hBw hL5 hL6⟩
      · rw [if_neg h2]
        by_cases h3 : k = 3
        · subst h3
          rw [if_pos rfl]
          generalize D.crash kl2 = D' at *
          clear H HSB HKB HBN HKN HPB HRB HW22 HW60 HF61 HC62 HC24 HC23 HXr
          go_enter Try.func27, Try.ntmps27
          go_wp2_with (first
            | (go_at_call 59; (refine (HF _).mono ?_; rintro e w2 ⟨rfl, hB2⟩; have hBl2 : Blk w2 W.heap.size [.int .i64 3, .int .i64 i, .slice ba lb bc, .slice ka lk kc] 50 := (blk_new W [.int .i64 3, .int .i64 i, .slice ba lb bc, .slice ka lk kc] 50).below hB2))
            | (refine wpList_store_whole (by rfl) 50 (.tmp 5) (.tmp 8) (by rfl) W.heap.size [.int .i64 3, .int .i64 i, .slice ba nb bc, .slice ka nk kc] (by rfl) (by rfl) _ 50 hBl2 (by rfl) (by kernel_rfl) (by simp [Value.oneCell']) ?_; intro w3 hBl3 hk3 hs3; have e0 : w3.cell? ⟨W.heap.size, 0, none⟩ = some (.int .i64 3) := (hBl3.cell 0).trans rfl; have e1 : w3.cell? ⟨W.heap.size, 1, none⟩ = some (.int .i64 i) := (hBl3.cell 1).trans rfl; have e2 : w3.cell? ⟨W.heap.size, 2, none⟩ = some (.slice ba nb bc) := (hBl3.cell 2).trans rfl; have e3 : w3.cell? ⟨W.heap.size, 3, none⟩ = some (.slice ka nk kc) := (hBl3.cell 3).trans rfl; have hBw : Below W.heap.size W w3 := ((al W _).trans (hB2.mono (by simp))).trans (hk3.below (Nat.le_of_lt hBl2.lt) (fun i e => by omega)))
            | (go_at_call 18; (refine (HC18.out _ hBw).mono ?_; rintro e w5 ⟨rfl, hL5⟩; have e5 := HCell.out _ _ _ _ _ hBw hL5 hBl3.lt e3))
            | (go_at_call 63; (refine (HC63.out _ _ _ hBw hL5).mono ?_; rintro e w6 ⟨rfl, hL6⟩)))
          go_ret
          exact ⟨rfl, HEnd.out _ _ _ _ hBw hL5 hL6⟩
        · rw [if_neg h3]
          have g0 : (k == 0) = false := by simpa using h0
          have g1 : (k == 1) = false := by simpa using h1
          have g2 : (k == 2) = false := by simpa using h2
          have g3 : (k == 3) = false := by simpa using h3
          have HE : Hid (∀ w, Below W.heap.size W w → Two B0 d s r D w ∧ Below B0 W w) := fun w hB => ⟨⟨_, _, _, H.out.below hB⟩, hB.mono hB0⟩
          clear H HSB HKB HBN HKN HPB HRB HW22 HW60 HF61 HC62 HC63 HC24 HC23 HC18 HXf HXr
          go_enter Try.func27, Try.ntmps27
          go_wp2_with (first
            | (go_at_call 59; (refine (HF _).mono ?_; rintro e w2 ⟨rfl, hB2⟩; have hBl2 : Blk w2 W.heap.size [.int .i64 k, .int .i64 i, .slice ba lb bc, .slice ka lk kc] 50 := (blk_new W [.int .i64 k, .int .i64 i, .slice ba lb bc, .slice ka lk kc] 50).below hB2))
            | (refine wpList_store_whole (by rfl) 50 (.tmp 5) (.tmp 8) (by rfl) W.heap.size [.int .i64 k, .int .i64 i, .slice ba nb bc, .slice ka nk kc] (by rfl) (by rfl) _ 50 hBl2 (by rfl) (by kernel_rfl) (by simp [Value.oneCell']) ?_; intro w3 hBl3 hk3 hs3; have e0 : w3.cell? ⟨W.heap.size, 0, none⟩ = some (.int .i64 k) := (hBl3.cell 0).trans rfl; have e1 : w3.cell? ⟨W.heap.size, 1, none⟩ = some (.int .i64 i) := (hBl3.cell 1).trans rfl; have e2 : w3.cell? ⟨W.heap.size, 2, none⟩ = some (.slice ba nb bc) := (hBl3.cell 2).trans rfl; have e3 : w3.cell? ⟨W.heap.size, 3, none⟩ = some (.slice ka nk kc) := (hBl3.cell 3).trans rfl; have hBw : Below W.heap.size W w3 := ((al W _).trans (hB2.mono (by simp))).trans (hk3.below (Nat.le_of_lt hBl2.lt) (fun i e => by omega))))
          go_ret
          exact ⟨rfl, HE.out _ hBw⟩
end Go.Proofs.Ytnganmekiloigaa
