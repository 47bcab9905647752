/- word.Key, word.Name. -/
import Derived.Test.YtkoagjfbhkhfkaaDoorRunes
import Derived.Maps.OwnSet
import Derived.StringKeys
import Derived.Carry
namespace Go.Proofs.YtkoagjfbhkhfkaaDoor
open Go.RowKit Go.Lib

theorem bmore {w w1 w2 : World} (h : Below w.heap.size w w1) (k : Below w1.heap.size w1 w2) : Below w.heap.size w w2 := h.trans (k.mono h.size)
theorem al (w : World) (o : Obj) : Below w.heap.size w (w.alloc o) := (Below.refl _ _).alloc (Nat.le_refl _) o
/-- The key words. -/
def words : List Bs := [[99, 114, 101, 97, 116, 101], [116, 97, 98, 108, 101], [105, 110, 116], [116, 101, 120, 116], [114, 101, 102, 101, 114, 101, 110, 99, 101, 115],
  [105, 110, 115, 101, 114, 116], [105, 110, 116, 111], [118, 97, 108, 117, 101, 115], [102, 114, 111, 109], [116, 111],
  [117, 112, 100, 97, 116, 101], [115, 101, 116], [119, 104, 101, 114, 101], [100, 101, 108, 101, 116, 101], [115, 101, 108, 101, 99, 116],
  [105, 110], [106, 111, 105, 110], [111, 110], [97, 115], [111, 102],
  [98, 101, 116, 119, 101, 101, 110], [97, 110, 100], [111, 114, 100, 101, 114], [98, 101, 103, 105, 110], [99, 111, 109, 109, 105, 116],
  [114, 111, 108, 108, 98, 97, 99, 107], [112, 114, 117, 110, 101], [111, 114], [110, 111, 116]]
def keyR (l : Bs) : Bool := words.contains l
theorem keyed9 : Maps.Keyed Tryd.prog 9 := Maps.string_keyed Tryd.underlying9
/-- Block b is a set that holds just these texts; what was there when the call began is as it was. -/
def KW (w0 : World) (b : Nat) (keys : List Bs) (w : World) : Prop :=
  w.ownsMap Tryd.prog 9 (unitElem (H := Unit)) b keys.length (Maps.setOf (.agg []) (keys.map Lit.string)) ∧ Below b w0 w ∧ b < w.heap.size
theorem kw_start (w : World) : KW w w.heap.size [] (w.alloc (.map #[] 0)) :=
  ⟨World.ownsMap_made _ _ _ _, (Below.refl _ _).alloc (Nat.le_refl _) _, by simp⟩
theorem kw_step {w0 w : World} {b : Nat} {keys : List Bs} {s : ByteArray} (h : KW w0 b keys w) (hs : s.size ≤ 1000) (hn : keys.length ≤ 1000) :
    ∃ w', (Instr.mapUpdate 68 (.map (some b)) (.string s) (.agg #[])).run Tryd.prog w = .ok () w' ∧ KW w0 b (keys ++ [bs s]) w' := by
  obtain ⟨hown, hb, hlt⟩ := h
  obtain ⟨w', hrun, r1, r2⟩ := hown.update keyed9 Tryd.underlying68 (by unfold maxLen; omega) (WideMaps.keyOf_string_mk Tryd.underlying9 (s := s) (by unfold maxLen; omega)) unitElem_mk
  refine ⟨w', hrun, ?_, hb.grown r2 (by omega) (fun k hk => by cases hk; exact Nat.le_refl _), by have := r2.size; omega⟩
  rw [List.map_append, List.map_cons, List.map_nil, Maps.setOf_snoc, List.length_append]
  exact r1
set_option maxRecDepth 100000 in
set_option maxHeartbeats 4000000 in
theorem words32 (w : World) :
    Calls Tryd.prog 48 #[] w fun e w' => e = .returned (.map (some w.heap.size)) ∧ KW w w.heap.size words w' := by
  have h0 := kw_start w
  obtain ⟨b, hb⟩ : ∃ b, w.heap.size = b := ⟨_, rfl⟩
  have hmm : ∀ t, (Instr.makeMap t none).run Tryd.prog w = .ok (.map (some b)) (w.alloc (.map #[] 0)) := fun t => by rw [← hb]; rfl
  rw [hb] at h0 ⊢
  obtain ⟨w1, r1, h1⟩ := kw_step h0 (s := ⟨#[99, 114, 101, 97, 116, 101]⟩) (by decide) (by decide)
  obtain ⟨w2, r2, h2⟩ := kw_step h1 (s := ⟨#[116, 97, 98, 108, 101]⟩) (by decide) (by decide)
  obtain ⟨w3, r3, h3⟩ := kw_step h2 (s := ⟨#[105, 110, 116]⟩) (by decide) (by decide)
  obtain ⟨w4, r4, h4⟩ := kw_step h3 (s := ⟨#[116, 101, 120, 116]⟩) (by decide) (by decide)
  obtain ⟨w5, r5, h5⟩ := kw_step h4 (s := ⟨#[114, 101, 102, 101, 114, 101, 110, 99, 101, 115]⟩) (by decide) (by decide)
  obtain ⟨w6, r6, h6⟩ := kw_step h5 (s := ⟨#[105, 110, 115, 101, 114, 116]⟩) (by decide) (by decide)
  obtain ⟨w7, r7, h7⟩ := kw_step h6 (s := ⟨#[105, 110, 116, 111]⟩) (by decide) (by decide)
  obtain ⟨w8, r8, h8⟩ := kw_step h7 (s := ⟨#[118, 97, 108, 117, 101, 115]⟩) (by decide) (by decide)
  obtain ⟨w9, r9, h9⟩ := kw_step h8 (s := ⟨#[102, 114, 111, 109]⟩) (by decide) (by decide)
  obtain ⟨w10, r10, h10⟩ := kw_step h9 (s := ⟨#[116, 111]⟩) (by decide) (by decide)
  obtain ⟨w11, r11, h11⟩ := kw_step h10 (s := ⟨#[117, 112, 100, 97, 116, 101]⟩) (by decide) (by decide)
  obtain ⟨w12, r12, h12⟩ := kw_step h11 (s := ⟨#[115, 101, 116]⟩) (by decide) (by decide)
  obtain ⟨w13, r13, h13⟩ := kw_step h12 (s := ⟨#[119, 104, 101, 114, 101]⟩) (by decide) (by decide)
  obtain ⟨w14, r14, h14⟩ := kw_step h13 (s := ⟨#[100, 101, 108, 101, 116, 101]⟩) (by decide) (by decide)
  obtain ⟨w15, r15, h15⟩ := kw_step h14 (s := ⟨#[115, 101, 108, 101, 99, 116]⟩) (by decide) (by decide)
  obtain ⟨w16, r16, h16⟩ := kw_step h15 (s := ⟨#[105, 110]⟩) (by decide) (by decide)
  obtain ⟨w17, r17, h17⟩ := kw_step h16 (s := ⟨#[106, 111, 105, 110]⟩) (by decide) (by decide)
  obtain ⟨w18, r18, h18⟩ := kw_step h17 (s := ⟨#[111, 110]⟩) (by decide) (by decide)
  obtain ⟨w19, r19, h19⟩ := kw_step h18 (s := ⟨#[97, 115]⟩) (by decide) (by decide)
  obtain ⟨w20, r20, h20⟩ := kw_step h19 (s := ⟨#[111, 102]⟩) (by decide) (by decide)
  obtain ⟨w21, r21, h21⟩ := kw_step h20 (s := ⟨#[98, 101, 116, 119, 101, 101, 110]⟩) (by decide) (by decide)
  obtain ⟨w22, r22, h22⟩ := kw_step h21 (s := ⟨#[97, 110, 100]⟩) (by decide) (by decide)
  obtain ⟨w23, r23, h23⟩ := kw_step h22 (s := ⟨#[111, 114, 100, 101, 114]⟩) (by decide) (by decide)
  obtain ⟨w24, r24, h24⟩ := kw_step h23 (s := ⟨#[98, 101, 103, 105, 110]⟩) (by decide) (by decide)
  obtain ⟨w25, r25, h25⟩ := kw_step h24 (s := ⟨#[99, 111, 109, 109, 105, 116]⟩) (by decide) (by decide)
  obtain ⟨w26, r26, h26⟩ := kw_step h25 (s := ⟨#[114, 111, 108, 108, 98, 97, 99, 107]⟩) (by decide) (by decide)
  obtain ⟨w27, r27, h27⟩ := kw_step h26 (s := ⟨#[112, 114, 117, 110, 101]⟩) (by decide) (by decide)
  obtain ⟨w28, r28, h28⟩ := kw_step h27 (s := ⟨#[111, 114]⟩) (by decide) (by decide)
  obtain ⟨w29, r29, h29⟩ := kw_step h28 (s := ⟨#[110, 111, 116]⟩) (by decide) (by decide)
  have hk : KW w b words w29 := h29
  clear h0 h1 h2 h3 h4 h5 h6 h7 h8 h9 h10 h11 h12 h13 h14 h15 h16 h17 h18 h19 h20 h21 h22 h23 h24 h25 h26 h27 h28 h29
  go_enter Tryd.func48, Tryd.ntmps48
  go_wp2
  go_ret
  exact ⟨rfl, hk⟩
theorem has_words (l : Bs) : Maps.has (Maps.setOf (DataW.agg (H := Unit) []) (words.map Lit.string)) (.string l) = keyR l := by
  rw [Maps.has_setOf _ _ _ (fun x hx => by
    obtain ⟨y, _, rfl⟩ := List.mem_map.1 hx
    trivial)]
  rw [List.any_map, keyR, List.contains_eq_any_beq]
  congr 1
  funext x
  simp only [Function.comp, Lit.sameKey]
  exact Bool.beq_comm
theorem zero37 (w : World) : (zeroValue 66).run Tryd.prog w = .ok (.agg #[]) w := by kernel_rfl
set_option maxRecDepth 100000 in
set_option maxHeartbeats 4000000 in
theorem key15 (s : ByteArray) (w : World) (hs : s.size ≤ 100000) :
    Calls Tryd.prog 45 #[.string s] w fun e w' => e = .returned (.bool (keyR (bs s))) ∧ Below w.heap.size w w' := by
  have c32 := words32 w
  have hkey : keyOf Tryd.prog 9 (.string s) = some (.string (bs s)) := WideMaps.keyOf_string_mk Tryd.underlying9 (by unfold maxLen; omega)
  obtain ⟨K, hK⟩ : ∃ K, keyR (bs s) = K := ⟨_, rfl⟩
  rw [hK]
  obtain ⟨b, hb⟩ : ∃ b, w.heap.size = b := ⟨_, rfl⟩
  rw [hb] at c32 ⊢
  have hlook : ∀ w1, KW w b words w1 → (Instr.lookup 68 (.map (some b)) (.string s) true).run Tryd.prog w1 = .ok (.tuple #[.agg #[], .bool K]) w1 := fun w1 h => by
    obtain ⟨v, ps, h1, h2⟩ := h.1.look_ok keyed9 Tryd.underlying68 (zero37 w1) unitElem_mk hkey
    obtain ⟨rfl, _⟩ := unitElem_inv h2
    rw [has_words, hK] at h1
    exact h1
  clear hkey hK
  go_enter Tryd.func45, Tryd.ntmps45
  go_wp2_with (go_at_call 48; refine c32.mono ?_; rintro e w1 ⟨rfl, hkw⟩; have hl := hlook w1 hkw; have hbw := hkw.2.1)
  go_ret
  exact ⟨rfl, hbw.alloc (by have := hkw.2.2; omega) _⟩
def nameR (l : Bs) : Bool := (decide (1 ≤ l.length) && decide (l.length ≤ 8)) && (nameFrom true l && !keyR l)
theorem nameR_len {l : Bs} (h : ¬ (1 ≤ l.length ∧ l.length ≤ 8)) : nameR l = false := by
  have : (decide (1 ≤ l.length) && decide (l.length ≤ 8)) = false := by
    rw [← Bool.not_eq_true, Bool.and_eq_true, decide_eq_true_eq, decide_eq_true_eq]; exact h
  simp [nameR, this]
theorem nameR_else {l : Bs} (h1 : 1 ≤ l.length) (h2 : l.length ≤ 8) : nameR l = (nameFrom true l && !keyR l) := by simp [nameR, h1, h2]
def smallN (r : Nat) : Bool := decide (97 ≤ r) && decide (r ≤ 122)
def digitN (r : Nat) : Bool := decide (48 ≤ r) && decide (r ≤ 57)
set_option maxRecDepth 100000 in
theorem small30 (r : Nat) (w : World) : Calls Tryd.prog 43 #[.int .i32 (r : Int)] w fun e w' => e = .returned (.bool (smallN r)) ∧ w' = w := by
  by_cases h1 : 97 ≤ r
  · have z1 : (97 : Int) ≤ (r : Int) := by omega
    by_cases h2 : r ≤ 122
    · have z2 : (r : Int) ≤ 122 := by omega
      have hr : smallN r = true := by simp [smallN, h1, h2]
      rw [hr]
      go_enter Tryd.func43, Tryd.ntmps43
      go_wp2
      go_ret
      exact ⟨rfl, rfl⟩
    · have z2 : ¬ ((r : Int) ≤ 122) := by omega
      have hr : smallN r = false := by simp [smallN, h2]
      rw [hr]
      go_enter Tryd.func43, Tryd.ntmps43
      go_wp2
      go_ret
      exact ⟨rfl, rfl⟩
  · have z1 : ¬ ((97 : Int) ≤ (r : Int)) := by omega
    have hr : smallN r = false := by simp [smallN, h1]
    rw [hr]
    go_enter Tryd.func43, Tryd.ntmps43
    go_wp2
    go_ret
    exact ⟨rfl, rfl⟩
set_option maxRecDepth 100000 in
theorem digit31 (r : Nat) (w : World) : Calls Tryd.prog 44 #[.int .i32 (r : Int)] w fun e w' => e = .returned (.bool (digitN r)) ∧ w' = w := by
  by_cases h1 : 48 ≤ r
  · have z1 : (48 : Int) ≤ (r : Int) := by omega
    by_cases h2 : r ≤ 57
    · have z2 : (r : Int) ≤ 57 := by omega
      have hr : digitN r = true := by simp [digitN, h1, h2]
      rw [hr]
      go_enter Tryd.func44, Tryd.ntmps44
      go_wp2
      go_ret
      exact ⟨rfl, rfl⟩
    · have z2 : ¬ ((r : Int) ≤ 57) := by omega
      have hr : digitN r = false := by simp [digitN, h2]
      rw [hr]
      go_enter Tryd.func44, Tryd.ntmps44
      go_wp2
      go_ret
      exact ⟨rfl, rfl⟩
  · have z1 : ¬ ((48 : Int) ≤ (r : Int)) := by omega
    have hr : digitN r = false := by simp [digitN, h1]
    rw [hr]
    go_enter Tryd.func44, Tryd.ntmps44
    go_wp2
    go_ret
    exact ⟨rfl, rfl⟩
theorem nameFrom_ok {first : Bool} {b : UInt8} {t : Bs} (h : (smallB b || (!first && (b.toNat == 95 || digitB b))) = true) : nameFrom first (b :: t) = nameFrom false t := by
  simp only [nameFrom, h, Bool.true_and]
theorem nameFrom_bad {first : Bool} {b : UInt8} {t : Bs} (h : (smallB b || (!first && (b.toNat == 95 || digitB b))) = false) : nameFrom first (b :: t) = false := by
  simp only [nameFrom, h, Bool.false_and]
/-- The rune at a place, against its first byte. -/
theorem rune_byte {s : ByteArray} {pos : Nat} (hp : pos < s.size) : ∃ b : UInt8, (bs s).drop pos = b :: (bs s).drop (pos + 1) ∧ smallN (Utf8.decode s pos).1 = smallB b ∧ digitN (Utf8.decode s pos).1 = digitB b ∧ ((Utf8.decode s pos).1 = 95 ↔ b.toNat = 95) ∧
    (b.toNat < 128 → (Utf8.decode s pos).2 = 1) ∧ (¬ b.toNat < 128 → smallB b = false ∧ digitB b = false ∧ b.toNat ≠ 95) := by
  have hcons := rest_cons hp
  have hdec := rest_decode s pos
  refine ⟨s[pos]'hp, hcons, ?_⟩
  generalize s[pos]'hp = b at hcons
  by_cases hlow : b.toNat < 128
  · rw [hcons, ascii_head hlow] at hdec
    rw [← hdec]
    exact ⟨rfl, rfl, Iff.rfl, fun _ => rfl, fun h => absurd hlow h⟩
  · have hh := (high_bytes _ (rest_ne hp) (by rw [hcons]; simpa using hlow)).1
    rw [hdec] at hh
    have e1 : smallB b = false := by simp [smallB]; omega
    have e2 : digitB b = false := by simp [digitB]; omega
    have e3 : smallN (Utf8.decode s pos).1 = false := by simp [smallN]; omega
    have e4 : digitN (Utf8.decode s pos).1 = false := by simp [digitN]; omega
    exact ⟨e3.trans e1.symm, e4.trans e2.symm, ⟨fun h => by omega, fun h => by omega⟩, fun h => absurd h hlow, fun _ => ⟨e1, e2, by omega⟩⟩
set_option maxRecDepth 100000 in
set_option maxHeartbeats 4000000 in
theorem name13 (s : ByteArray) (w : World) :
    Calls Tryd.prog 34 #[.string s] w fun e w' => e = .returned (.bool (nameR (bs s))) ∧ Below w.heap.size w w' := by
  by_cases h1 : s.size < 1
  · have z1 : (s.size : Int) < 1 := by omega
    have hr := nameR_len (l := bs s) (by rw [bs_length]; omega)
    rw [hr]
    go_enter Tryd.func34, Tryd.ntmps34
    go_wp2
    go_ret
    exact ⟨rfl, Below.refl _ _⟩
  · have z1 : ¬ ((s.size : Int) < 1) := by omega
    by_cases h8 : 8 < s.size
    · have z8 : (8 : Int) < (s.size : Int) := by omega
      have hr := nameR_len (l := bs s) (by rw [bs_length]; omega)
      rw [hr]
      go_enter Tryd.func34, Tryd.ntmps34
      go_wp2
      go_ret
      exact ⟨rfl, Below.refl _ _⟩
    · have z8 : ¬ ((8 : Int) < (s.size : Int)) := by omega
      have hr := nameR_else (l := bs s) (by rw [bs_length]; omega) (by rw [bs_length]; omega)
      rw [hr]
      clear hr
      go_enter Tryd.func34, Tryd.ntmps34
      go_wp2
      go_loopw [] (fun w' => ∃ pos : Nat, w' = w.iter s pos ∧ pos ≤ s.size ∧ nameFrom true (bs s) = nameFrom (pos == 0) ((bs s).drop pos)) (fun w' => s.size - w'.iterPos w.heap.size)
      case atStart => exact ⟨0, rfl, Nat.zero_le _, by simp⟩
      case round =>
        obtain ⟨pos, rfl, hps, hc⟩ := hrel
        by_cases hp : pos < s.size
        · have hnx : ∀ ty, (Instr.next (.pointer (some ⟨w.heap.size, 0, none⟩)) true ty).run Tryd.prog (w.iter s pos) = _ := fun ty => run_next_any w s pos ty hp
          obtain ⟨b, hcons, hS, hD, hU, hW, hH⟩ := rune_byte hp
          obtain ⟨r, hr⟩ : ∃ r, (Utf8.decode s pos).1 = r := ⟨_, rfl⟩
          obtain ⟨wd, hw⟩ : ∃ k, (Utf8.decode s pos).2 = k := ⟨_, rfl⟩
          rw [hr] at hS hD hU
          rw [hr, hw] at hnx
          rw [hw] at hW
          have c30 : ∀ w1, Calls Tryd.prog 43 #[.int .i32 (r : Int)] w1 fun e w' => e = .returned (.bool (smallB b)) ∧ w' = w1 := fun w1 => by rw [← hS]; exact small30 r w1
          have c31 : ∀ w1, Calls Tryd.prog 44 #[.int .i32 (r : Int)] w1 fun e w' => e = .returned (.bool (digitB b)) ∧ w' = w1 := fun w1 => by rw [← hD]; exact digit31 r w1
          rw [hcons] at hc
          clear hcons hr hw hS hD
          cases hs1 : smallB b
          · rw [hs1] at c30
            by_cases hp0 : pos = 0
            · have hpz : (pos : Int) = 0 := by omega
              have hn : nameFrom true (bs s) = false := by rw [hc, hp0]; exact nameFrom_bad (by simp [hs1])
              have HN : Hid (nameFrom true (bs s) = false) := hn
              subst hp0
              clear hc hn hU hW hH hps
              go_wp2_with (first
            | (go_at_call 43; refine (c30 _).mono ?_; rintro e w1 ⟨rfl, rfl⟩)
            | (go_at_call 44; refine (c31 _).mono ?_; rintro e w1 ⟨rfl, rfl⟩))
              go_ret
              exact ⟨by rw [show nameFrom true (bs s) = false from HN]; rfl, iter_below w s _⟩
            · have hpz : ¬ ((pos : Int) = 0) := by omega
              have hpb : (pos == 0) = false := by simpa using hp0
              rw [hpb] at hc
              cases hd1 : digitB b
              · rw [hd1] at c31
                by_cases hu : r = 95
                · have hb95 := hU.1 hu
                  subst hu
                  have c30 : ∀ w1, Calls Tryd.prog 43 #[.int .i32 95] w1 fun e w' => e = .returned (.bool false) ∧ w' = w1 := c30
                  have c31 : ∀ w1, Calls Tryd.prog 44 #[.int .i32 95] w1 fun e w' => e = .returned (.bool false) ∧ w' = w1 := c31
                  have hnx : ∀ ty, (Instr.next (.pointer (some ⟨w.heap.size, 0, none⟩)) true ty).run Tryd.prog (w.iter s pos) = .ok (.tuple #[.bool true, .int .i64 pos, .int .i32 95]) (w.iter s (pos + wd)) := hnx
                  have hw1 : wd = 1 := hW (by omega)
                  subst hw1
                  have hn : nameFrom true (bs s) = nameFrom false ((bs s).drop (pos + 1)) := by rw [hc]; exact nameFrom_ok (by simp [hb95])
                  have HN : Hid (nameFrom true (bs s) = nameFrom ((pos + 1) == 0) ((bs s).drop (pos + 1))) := hn
                  clear hc hn hU hW hH hpb
                  go_wp2_with (first
            | (go_at_call 43; refine (c30 _).mono ?_; rintro e w1 ⟨rfl, rfl⟩)
            | (go_at_call 44; refine (c31 _).mono ?_; rintro e w1 ⟨rfl, rfl⟩))
                  go_roundw
                  case rel => exact ⟨pos + 1, rfl, by omega, HN⟩
                  case measure =>
                    simp
                    omega
                · have huz : ((r : Int) != 95) = true := by simp; omega
                  have hn : nameFrom true (bs s) = false := by rw [hc]; exact nameFrom_bad (by simp [hs1, hd1]; exact fun h => hu (hU.2 h))
                  have HN : Hid (nameFrom true (bs s) = false) := hn
                  clear hc hn hU hW hH hpb
                  go_wp2_with (first
            | (go_at_call 43; refine (c30 _).mono ?_; rintro e w1 ⟨rfl, rfl⟩)
            | (go_at_call 44; refine (c31 _).mono ?_; rintro e w1 ⟨rfl, rfl⟩))
                  go_ret
                  exact ⟨by rw [show nameFrom true (bs s) = false from HN]; rfl, iter_below w s _⟩
              · rw [hd1] at c31
                have hw1 : wd = 1 := hW (Classical.byContradiction fun h => by have := (hH h).2.1; rw [hd1] at this; simp at this)
                subst hw1
                have hn : nameFrom true (bs s) = nameFrom false ((bs s).drop (pos + 1)) := by rw [hc]; exact nameFrom_ok (by simp [hd1])
                have HN : Hid (nameFrom true (bs s) = nameFrom ((pos + 1) == 0) ((bs s).drop (pos + 1))) := hn
                clear hc hn hU hW hH hpb
                go_wp2_with (first
            | (go_at_call 43; refine (c30 _).mono ?_; rintro e w1 ⟨rfl, rfl⟩)
            | (go_at_call 44; refine (c31 _).mono ?_; rintro e w1 ⟨rfl, rfl⟩))
                go_roundw
                case rel => exact ⟨pos + 1, rfl, by omega, HN⟩
                case measure =>
                  simp
                  omega
          · rw [hs1] at c30
            have hw1 : wd = 1 := hW (Classical.byContradiction fun h => by have := (hH h).1; rw [hs1] at this; simp at this)
            subst hw1
            have hn : nameFrom true (bs s) = nameFrom false ((bs s).drop (pos + 1)) := by rw [hc]; exact nameFrom_ok (by simp [hs1])
            have HN : Hid (nameFrom true (bs s) = nameFrom ((pos + 1) == 0) ((bs s).drop (pos + 1))) := hn
            clear hc hn hU hW hH
            go_wp2_with (first
            | (go_at_call 43; refine (c30 _).mono ?_; rintro e w1 ⟨rfl, rfl⟩)
            | (go_at_call 44; refine (c31 _).mono ?_; rintro e w1 ⟨rfl, rfl⟩))
            go_roundw
            case rel => exact ⟨pos + 1, rfl, by omega, HN⟩
            case measure =>
              simp
              omega
        · have hnx : ∀ ty, (Instr.next (.pointer (some ⟨w.heap.size, 0, none⟩)) true ty).run Tryd.prog (w.iter s pos) = _ := fun ty => run_next_end w s pos ty hp
          rw [rest_nil hp] at hc
          have hn : nameFrom true (bs s) = true := by rw [hc]; rfl
          have HN : Hid (nameFrom true (bs s) = true) := hn
          clear hc hn
          have c15 := key15 s (w.iter s pos) (by omega)
          go_wp2_with (go_at_call 45; refine c15.mono ?_; rintro e w1 ⟨rfl, hb⟩)
          go_ret
          exact ⟨by rw [show nameFrom true (bs s) = true from HN, Bool.true_and]; rfl, bmore (iter_below w s pos) hb⟩
end Go.Proofs.YtkoagjfbhkhfkaaDoor
