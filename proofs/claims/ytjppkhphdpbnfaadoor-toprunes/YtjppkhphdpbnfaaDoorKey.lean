/- Key words: word.keyWords, word.Key. -/
import Derived.Test.YtjppkhphdpbnfaaDoorRefs2
import Derived.Maps.OwnSet
import Derived.StringKeys
import Derived.Carry
namespace Go.Proofs.YtjppkhphdpbnfaaDoor
open Go.RowKit Go.Lib

/-- The key words. -/
def words : List Bs := [[99, 114, 101, 97, 116, 101], [116, 97, 98, 108, 101], [105, 110, 116], [116, 101, 120, 116], [114, 101, 102, 101, 114, 101, 110, 99, 101, 115],
  [105, 110, 115, 101, 114, 116], [105, 110, 116, 111], [118, 97, 108, 117, 101, 115], [102, 114, 111, 109], [116, 111],
  [117, 112, 100, 97, 116, 101], [115, 101, 116], [119, 104, 101, 114, 101], [100, 101, 108, 101, 116, 101], [115, 101, 108, 101, 99, 116],
  [105, 110], [106, 111, 105, 110], [111, 110], [97, 115], [111, 102],
  [98, 101, 116, 119, 101, 101, 110], [97, 110, 100], [111, 114, 100, 101, 114], [98, 101, 103, 105, 110], [99, 111, 109, 109, 105, 116],
  [114, 111, 108, 108, 98, 97, 99, 107], [112, 114, 117, 110, 101], [111, 114], [110, 111, 116]]
def keyR (l : Bs) : Bool := words.contains l

theorem keyed9 : Maps.Keyed Tryd.prog 9 := Maps.string_keyed Tryd.underlying9

/-- Block b is a set that holds just these texts; what was there when the call began is as it was. -/
def KW (w0 : World) (b : Nat) (keys : List Bs) (w : World) : Prop :=
  w.ownsMap Tryd.prog 9 (unitElem (H := Unit)) b keys.length (Maps.setOf (.agg []) (keys.map Lit.string)) ∧ Below b w0 w ∧ b < w.heap.size

theorem kw_start (w : World) : KW w w.heap.size [] (w.alloc (.map #[] 0)) :=
  ⟨World.ownsMap_made _ _ _ _, (Below.refl _ _).alloc (Nat.le_refl _) _, by simp⟩

theorem kw_step {w0 w : World} {b : Nat} {keys : List Bs} {s : ByteArray} (h : KW w0 b keys w) (hs : s.size ≤ 1000) (hn : keys.length ≤ 1000) :
    ∃ w', (Instr.mapUpdate 39 (.map (some b)) (.string s) (.agg #[])).run Tryd.prog w = .ok () w' ∧ KW w0 b (keys ++ [bs s]) w' := by
  obtain ⟨hown, hb, hlt⟩ := h
  obtain ⟨w', hrun, r1, r2⟩ := hown.update keyed9 Tryd.underlying39 (by unfold maxLen; omega) (WideMaps.keyOf_string_mk Tryd.underlying9 (s := s) (by unfold maxLen; omega)) unitElem_mk
  refine ⟨w', hrun, ?_, hb.grown r2 (by omega) (fun k hk => by cases hk; exact Nat.le_refl _), by have := r2.size; omega⟩
  rw [List.map_append, List.map_cons, List.map_nil, Maps.setOf_snoc, List.length_append]
  exact r1

set_option maxRecDepth 100000 in
set_option maxHeartbeats 4000000 in
theorem words32 (w : World) :
    Calls Tryd.prog 32 #[] w fun e w' => e = .returned (.map (some w.heap.size)) ∧ KW w w.heap.size words w' := by
  have h0 := kw_start w
  obtain ⟨b, hb⟩ : ∃ b, w.heap.size = b := ⟨_, rfl⟩
  have hmm : ∀ t, (Instr.makeMap t none).run Tryd.prog w = .ok (.map (some b)) (w.alloc (.map #[] 0)) := fun t => by rw [← hb]; rfl
  rw [hb] at h0 ⊢
  obtain ⟨w1, r1, h1⟩ := kw_step h0 (s := ⟨#[99, 114, 101, 97, 116, 101]⟩) (by decide) (by decide)
  obtain ⟨w2, r2, h2⟩ := kw_step h1 (s := ⟨#[116, 97, 98, 108, 101]⟩) (by decide) (by decide)
  obtain ⟨w3, r3, h3⟩ := kw_step h2 (s := ⟨#[105, 110, 116]⟩) (by decide) (by decide)
  obtain ⟨w4, r4, h4⟩ := kw_step h3 (s := ⟨#[116, 101, 120, 116]⟩) (by decide) (by decide)
  obtain ⟨w5, r5, h5⟩ := kw_step h4 (s := ⟨#[114, 101, 102, 101, 114, 101, 110, 99, 101, 115]⟩) (by decide) (by decide)
  obtain ⟨w6, r6, h6⟩ := kw_step h5 (s := ⟨#[105, 110, 115, 101, 114, 116]⟩) (by decide) (by decide)
  obtain ⟨w7, r7, h7⟩ := kw_step h6 (s := ⟨#[105, 110, 116, 111]⟩) (by decide) (by decide)
  obtain ⟨w8, r8, h8⟩ := kw_step h7 (s := ⟨#[118, 97, 108, 117, 101, 115]⟩) (by decide) (by decide)
  obtain ⟨w9, r9, h9⟩ := kw_step h8 (s := ⟨#[102, 114, 111, 109]⟩) (by decide) (by decide)
  obtain ⟨w10, r10, h10⟩ := kw_step h9 (s := ⟨#[116, 111]⟩) (by decide) (by decide)
  obtain ⟨w11, r11, h11⟩ := kw_step h10 (s := ⟨#[117, 112, 100, 97, 116, 101]⟩) (by decide) (by decide)
  obtain ⟨w12, r12, h12⟩ := kw_step h11 (s := ⟨#[115, 101, 116]⟩) (by decide) (by decide)
  obtain ⟨w13, r13, h13⟩ := kw_step h12 (s := ⟨#[119, 104, 101, 114, 101]⟩) (by decide) (by decide)
  obtain ⟨w14, r14, h14⟩ := kw_step h13 (s := ⟨#[100, 101, 108, 101, 116, 101]⟩) (by decide) (by decide)
  obtain ⟨w15, r15, h15⟩ := kw_step h14 (s := ⟨#[115, 101, 108, 101, 99, 116]⟩) (by decide) (by decide)
  obtain ⟨w16, r16, h16⟩ := kw_step h15 (s := ⟨#[105, 110]⟩) (by decide) (by decide)
  obtain ⟨w17, r17, h17⟩ := kw_step h16 (s := ⟨#[106, 111, 105, 110]⟩) (by decide) (by decide)
  obtain ⟨w18, r18, h18⟩ := kw_step h17 (s := ⟨#[111, 110]⟩) (by decide) (by decide)
  obtain ⟨w19, r19, h19⟩ := kw_step h18 (s := ⟨#[97, 115]⟩) (by decide) (by decide)
  obtain ⟨w20, r20, h20⟩ := kw_step h19 (s := ⟨#[111, 102]⟩) (by decide) (by decide)
  obtain ⟨w21, r21, h21⟩ := kw_step h20 (s := ⟨#[98, 101, 116, 119, 101, 101, 110]⟩) (by decide) (by decide)
  obtain ⟨w22, r22, h22⟩ := kw_step h21 (s := ⟨#[97, 110, 100]⟩) (by decide) (by decide)
  obtain ⟨w23, r23, h23⟩ := kw_step h22 (s := ⟨#[111, 114, 100, 101, 114]⟩) (by decide) (by decide)
  obtain ⟨w24, r24, h24⟩ := kw_step h23 (s := ⟨#[98, 101, 103, 105, 110]⟩) (by decide) (by decide)
  obtain ⟨w25, r25, h25⟩ := kw_step h24 (s := ⟨#[99, 111, 109, 109, 105, 116]⟩) (by decide) (by decide)
  obtain ⟨w26, r26, h26⟩ := kw_step h25 (s := ⟨#[114, 111, 108, 108, 98, 97, 99, 107]⟩) (by decide) (by decide)
  obtain ⟨w27, r27, h27⟩ := kw_step h26 (s := ⟨#[112, 114, 117, 110, 101]⟩) (by decide) (by decide)
  obtain ⟨w28, r28, h28⟩ := kw_step h27 (s := ⟨#[111, 114]⟩) (by decide) (by decide)
  obtain ⟨w29, r29, h29⟩ := kw_step h28 (s := ⟨#[110, 111, 116]⟩) (by decide) (by decide)
  have hk : KW w b words w29 := h29
  clear h0 h1 h2 h3 h4 h5 h6 h7 h8 h9 h10 h11 h12 h13 h14 h15 h16 h17 h18 h19 h20 h21 h22 h23 h24 h25 h26 h27 h28 h29
  go_enter Tryd.func32, Tryd.ntmps32
  go_wp2
  go_ret
  exact ⟨rfl, hk⟩

theorem has_words (l : Bs) : Maps.has (Maps.setOf (DataW.agg (H := Unit) []) (words.map Lit.string)) (.string l) = keyR l := by
  rw [Maps.has_setOf _ _ _ (fun x hx => by
    obtain ⟨y, _, rfl⟩ := List.mem_map.1 hx
    trivial)]
  rw [List.any_map, keyR, List.contains_eq_any_beq]
  congr 1
  funext x
  simp only [Function.comp, Lit.sameKey]
  exact Bool.beq_comm

theorem zero37 (w : World) : (zeroValue 37).run Tryd.prog w = .ok (.agg #[]) w := by kernel_rfl

set_option maxRecDepth 100000 in
set_option maxHeartbeats 4000000 in
theorem key15 (s : ByteArray) (w : World) (hs : s.size ≤ 100000) :
    Calls Tryd.prog 15 #[.string s] w fun e w' => e = .returned (.bool (keyR (bs s))) ∧ Below w.heap.size w w' := by
  have c32 := words32 w
  have hkey : keyOf Tryd.prog 9 (.string s) = some (.string (bs s)) := WideMaps.keyOf_string_mk Tryd.underlying9 (by unfold maxLen; omega)
  obtain ⟨K, hK⟩ : ∃ K, keyR (bs s) = K := ⟨_, rfl⟩
  rw [hK]
  obtain ⟨b, hb⟩ : ∃ b, w.heap.size = b := ⟨_, rfl⟩
  rw [hb] at c32 ⊢
  have hlook : ∀ w1, KW w b words w1 → (Instr.lookup 39 (.map (some b)) (.string s) true).run Tryd.prog w1 = .ok (.tuple #[.agg #[], .bool K]) w1 := fun w1 h => by
    obtain ⟨v, ps, h1, h2⟩ := h.1.look_ok keyed9 Tryd.underlying39 (zero37 w1) unitElem_mk hkey
    obtain ⟨rfl, _⟩ := unitElem_inv h2
    rw [has_words, hK] at h1
    exact h1
  clear hkey hK
  go_enter Tryd.func15, Tryd.ntmps15
  go_wp2_with (go_at_call 32; refine c32.mono ?_; rintro e w1 ⟨rfl, hkw⟩; have hl := hlook w1 hkw; have hbw := hkw.2.1)
  go_ret
  exact ⟨rfl, hbw.alloc (by have := hkw.2.2; omega) _⟩

end Go.Proofs.YtjppkhphdpbnfaaDoor
