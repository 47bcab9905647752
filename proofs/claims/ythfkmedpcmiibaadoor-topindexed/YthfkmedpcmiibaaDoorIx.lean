/- The law TopIndexed. -/
import Derived.Test.YthfkmedpcmiibaaDoorDec
import Derived.Test.YthfkmedpcmiibaaDoorCpr
import Derived.Test.YthfkmedpcmiibaaDoorOrdr
import Derived.Test.YthfkmedpcmiibaaDoorXIo
import Derived.Lib.ConvBytes
import Derived.Lib.SmallJoins
namespace Go.Proofs.YthfkmedpcmiibaaDoor
open Go.RowKit Go.Lib Go.Joins
set_option maxRecDepth 100000
variable {w w' W0 w1 : World}
/-- A row by plain data: its values, and its span. -/
abbrev Rw3 := List Vt × Int × Int
def okRw (x : Rw3) : Prop := rightRow x.1 x.2.1 x.2.2 = true ∧ Few x.1
def keyS (x : Rw3) : ByteArray := str (encR x.1 x.2.1 x.2.2)
def Keyed (kv : List T.Pr) : Prop := ∀ p ∈ kv, ∃ x : Rw3, okRw x ∧ p.1 = keyS x
theorem keyed_put {kv : List T.Pr} {x : Rw3} {v : ByteArray} (h : Keyed kv) (hx : okRw x) : Keyed (T.put kv (keyS x, v)) := fun p hp => by
  rcases List.mem_append.1 hp with hp | hp
  · exact h p (List.mem_filter.1 hp).1
  · rcases List.mem_cons.1 hp with rfl | hp
    · exact ⟨x, hx, rfl⟩
    · exact h p (List.mem_filter.1 hp).1
theorem key_bs (x : Rw3) : T.bs (keyS x) = encR x.1 x.2.1 x.2.2 := bs_str _
/-- Keys in order: rows in order. -/
theorem key_less {x y : Rw3} (hx : okRw x) (hy : okRw y) (h : T.lt (keyS x) (keyS y) = true) : cmpR x.1 x.2.1 x.2.2 y.1 y.2.1 y.2.2 = -1 := by
  have h1 := of_decide_eq_true h
  unfold T.cmpS at h1
  rw [key_bs, key_bs] at h1
  have h2 := enc_cmp hx.1 hy.1 hx.2 hy.2 [] []
  rw [List.append_nil, List.append_nil, h1] at h2
  split at h2
  · simp [compareBytes] at h2
  · exact h2.symm
/-- A slice of one's own as a string, in every later world. -/
theorem row_conv {B : Nat} {v : Value} {l : Bs} (h : BRow B v l w) (h0 : 0 < l.length) : ∃ g c, v = .slice (some ⟨g, 0, none⟩) l.length c ∧ ∀ W, Below w.heap.size w W → (convert 25 9 v).run Tryd.prog W = .ok (.string (str l)) W := by
  obtain ⟨g, c, rfl, _⟩ := brow_at h h0
  exact ⟨g, c, rfl, fun W k => conv_own (BRow.below h k)⟩
/-- A string as bytes. -/
theorem str_conv (l : Bs) (w : World) (hm : l.length ≤ 64) : ∃ (c : Nat) (w' : World), (convert 9 25 (.string (str l))).run Tryd.prog w = .ok (.slice (some ⟨w.heap.size, 0, none⟩) l.length c) w' ∧ At w' w.heap.size 0 l ∧ l.length ≤ c ∧ c ≤ maxLen ∧ Below w.heap.size w w' := by
  have h := Go.Lib.run_convert_string_bytes (P := Tryd.prog) w 9 25 5 (str l) Tryd.underlying9 Tryd.underlying25 Tryd.underlying5
  have hs := str_size l
  rw [hs] at h
  refine ⟨_, _, h, fun i hi => ?_, grownCap_ge _ _ _ _, grownCap_le_maxLen _ _ _ _ (by unfold maxLen; omega), below_bytesWorld _ _ _ _ (Nat.le_refl _)⟩
  have h1 := bytesWorld_cell w 5 (str l) i (by rw [hs]; exact hi)
  rw [Nat.zero_add, h1]
/-- What holds ahead of each round. -/
structure Iv (W0 w : World) (t : Nat) (kv : List T.Pr) (i : Nat) : Prop where
  tt : T.TT w t kv
  low : W0.heap.size ≤ t
  len : kv.length ≤ i
  key : Keyed kv
  below : Below W0.heap.size W0 w
theorem Iv.more {t i : Nat} {kv : List T.Pr} (h : Iv W0 w t kv i) (k : Below w.heap.size w w') : Iv W0 w' t kv (i + 1) := ⟨h.tt.below k, h.low, by have := h.len; omega, h.key, bmore h.below k⟩
theorem Iv.put {t i : Nat} {kv : List T.Pr} {x : Rw3} {v : ByteArray} (h : Iv W0 w t kv i) (hx : okRw x) (hd : T.Did w t (T.put kv (keyS x, v)) w') : Iv W0 w' t (T.put kv (keyS x, v)) (i + 1) := by
  have hp := T.put_len h.tt.srt (keyS x, v)
  exact ⟨hd.1, h.low, by have := h.len; omega, keyed_put h.key hx, h.below.trans (hd.2.below (B := W0.heap.size) h.below.size (fun j hj e => by have := h.low; omega))⟩
/-- Rows that came in. -/
def InRs (W : World) (v : Value) (n : Nat) : Prop := ∃ a c, v = .slice a n c ∧ (n : Int) ≤ 9223372036854775807 ∧ ∀ i, i < n → ∃ b o, a = some ⟨b, o, none⟩ ∧ ∃ (u : Value) (vs : List Vt) (f t : Int), (∀ W', Below W.heap.size W W' → W'.cell? ⟨b, o + i * 3, none⟩ = some u ∧ W'.cell? ⟨b, o + i * 3 + 1, none⟩ = some (.int .i64 f) ∧ W'.cell? ⟨b, o + i * 3 + 2, none⟩ = some (.int .i64 t)) ∧ SV W u vs ∧ vs.length ≤ 140737488355328 ∧ Few vs
theorem enc_pos (vs : List Vt) (f t : Int) : 0 < (encR vs f t).length := by unfold encR; simp; omega
/-- Behind Decode of a row's key. -/
def DPost (x : Rw3) (w : World) (e : Ending) (w' : World) : Prop := ∃ ua uc, e = .returned (.tuple #[RV (.slice ua x.1.length uc) x.2.1 x.2.2, .int .i64 0]) ∧ SV w' (.slice ua x.1.length uc) x.1 ∧ Below w.heap.size w w'
theorem conv_dec {x : Rw3} (hx : okRw x) (W : World) (hl : (encR x.1 x.2.1 x.2.2).length ≤ 64) (hg : ∀ w', Below W.heap.size W w' → Good w') : ∃ (ln c : Nat) (w' : World), (convert 9 25 (.string (keyS x))).run Tryd.prog W = .ok (.slice (some ⟨W.heap.size, 0, none⟩) ln c) w' ∧ Below W.heap.size W w' ∧ Calls Tryd.prog 9 #[.slice (some ⟨W.heap.size, 0, none⟩) ln c] w' (DPost x w') := by
  obtain ⟨c, w', h1, h2, h3, h4, h5⟩ := str_conv (encR x.1 x.2.1 x.2.2) W hl
  refine ⟨_, c, w', h1, h5, (decode21_yes W.heap.size 0 c x.1 x.2.1 x.2.2 w' h2 h3 h4 hx.1 hx.2 (hg w' h5)).mono ?_⟩
  rintro e w2 ⟨u, rfl, hv, k⟩
  obtain ⟨ua, uc, rfl, _⟩ := sv_form hv.sv
  exact ⟨ua, uc, rfl, hv.sv, k⟩
theorem comp_less {x y : Rw3} (hx : okRw x) (hy : okRw y) (hc : cmpR x.1 x.2.1 x.2.2 y.1 y.2.1 y.2.2 = -1) {u v : Value} {W : World} (hu : SV W u x.1) (hv : SV W v y.1) : Calls Tryd.prog 10 #[RV u x.2.1 x.2.2, RV v y.2.1 y.2.2] W fun e w' => e = .returned (.int .i64 (-1)) ∧ Below W.heap.size W w' := by
  have h1 := (rightRow_parts hx.1).2.1
  have h2 := (rightRow_parts hy.1).2.1
  have := compare13 u v x.1 y.1 x.2.1 x.2.2 y.2.1 y.2.2 W hu hv (by omega) (by omega)
  rw [hc] at this
  exact this
theorem range_whole {kv : List T.Pr} (h : kv.length ≤ 100) : T.rangeP kv ⟨#[]⟩ ⟨#[]⟩ 100 = kv := by
  unfold T.rangeP
  rw [T.ge_empty]
  exact T.range_all (fun p _ => rfl) h
/-- Each key's row, by its place. -/
theorem keyed_at {kv : List T.Pr} (h : Keyed kv) : ∃ f : Nat → Rw3, ∀ (j : Nat) (p : T.Pr), kv[j]? = some p → okRw (f j) ∧ p.1 = keyS (f j) := by
  refine ⟨fun j => if hj : j < kv.length then Classical.choose (h kv[j] (List.getElem_mem hj)) else ([], 0, 0), fun j p hp => ?_⟩
  obtain ⟨hj, rfl⟩ := List.getElem?_eq_some_iff.1 hp
  simp only [hj, dif_pos]
  exact Classical.choose_spec (h kv[j] (List.getElem_mem hj))
/-- What the keys behind the slice are, in every later world. -/
structure Kys (w : World) (pv : Value) (m : Nat) (f : Nat → Rw3) : Prop where
  form : ∃ a c, pv = .slice a m c
  cell : ∀ (a : Option Addr) (n c : Nat), pv = .slice a n c → ∀ j, j < m → ∃ g o, a = some ⟨g, o, none⟩ ∧ ∀ W, Below w.heap.size w W → W.cell? ⟨g, o + j * 2, none⟩ = some (.string (keyS (f j)))
  ok : ∀ j, j < m → okRw (f j)
  len : ∀ j, j < m → (encR (f j).1 (f j).2.1 (f j).2.2).length ≤ 64
  less : ∀ j, j + 1 < m → cmpR (f j).1 (f j).2.1 (f j).2.2 (f (j + 1)).1 (f (j + 1)).2.1 (f (j + 1)).2.2 = -1
theorem kys_of {t : Nat} {pv : Value} {kv : List T.Pr} {w8 : World} (htt : T.TT w t kv) (hk : Keyed kv) (hv : T.LV T.EP w8 pv kv) : ∃ f, Kys w8 pv kv.length f := by
  obtain ⟨f, hf⟩ := keyed_at hk
  have hat : ∀ j, (hj : j < kv.length) → kv[j]? = some kv[j] := fun j hj => List.getElem?_eq_getElem hj
  refine ⟨f, hv.form, fun a n c e j hj => ?_, fun j hj => (hf j _ (hat j hj)).1, fun j hj => ?_, fun j hj => ?_⟩
  · subst e
    obtain ⟨g, o, rfl, hc⟩ := hv.at (hat j hj)
    have h0 := hc 0 (by decide)
    refine ⟨g, o, rfl, fun W k => ?_⟩
    have h1 : w8.cell? ⟨g, o + j * 2, none⟩ = some (.string kv[j].1) := h0
    rw [k.cell (p := ⟨g, o + j * 2, none⟩) (World.block_lt_of_cell? _ _ h1), h1, (hf j _ (hat j hj)).2]
  · have h1 := htt.key kv[j] (List.getElem_mem hj)
    rw [(hf j _ (hat j hj)).2] at h1
    unfold keyS at h1
    rw [str_size] at h1
    exact h1
  · have h1 := htt.srt.get (hat j (by omega)) (hat (j + 1) hj) (Nat.lt_succ_self j)
    obtain ⟨o1, e1⟩ := hf j _ (hat j (by omega))
    obtain ⟨o2, e2⟩ := hf (j + 1) _ (hat (j + 1) hj)
    rw [e1, e2] at h1
    exact key_less o1 o2 h1
end Go.Proofs.YthfkmedpcmiibaaDoor
