/- What the parts of a condition come to, by plain data; kinds of elements. · What a part comes to: a condition that holds. · make: a row of zeros; ofWhole. -/
import Derived.Test.YtipnaphikbjhbaaDoorPb
import Derived.Deep.RegionHeld3
import Derived.Deep.DrawnRows
import Derived.Laws.OwnMore
import Derived.Laws.EntriesVeiled
/-! ### What the parts of a condition come to, by plain data; kinds of elements. -/
namespace Go.Proofs.YtipnaphikbjhbaaDoor
open Go.RowKit
set_option maxRecDepth 100000
variable {w w' w1 : World} {cs : List Cd}
def cd0 : Cd := ⟨0, [], 0, 0, 0, [], []⟩
/-- Kids that are parts ahead of i. -/
def kidsU (ks : List Int) (i : Nat) : List Nat := ks.filterMap fun k => if 0 ≤ k ∧ k < (i : Int) then some k.toNat else none
theorem kidsU_lt {ks : List Int} {i k : Nat} (h : k ∈ kidsU ks i) : k < i := by
  obtain ⟨a, _, ha⟩ := List.mem_filterMap.1 h
  split at ha
  · simp at ha; omega
  · simp at ha
theorem kidsU_len (ks : List Int) (i : Nat) : (kidsU ks i).length ≤ ks.length := List.length_filterMap_le _ _
theorem kidsU_yes {ks : List Int} {j i : Nat} {k : Int} (h : ks[j]? = some k) (h0 : 0 ≤ k) (h1 : k < (i : Int)) : kidsU (ks.take (j + 1)) i = kidsU (ks.take j) i ++ [k.toNat] := by
  obtain ⟨hj, rfl⟩ := List.getElem?_eq_some_iff.1 h
  rw [List.take_succ_eq_append_getElem hj]
  unfold kidsU
  rw [List.filterMap_append]
  simp [h0, h1]
theorem kidsU_no {ks : List Int} {j i : Nat} {k : Int} (h : ks[j]? = some k) (h0 : ¬ (0 ≤ k ∧ k < (i : Int))) : kidsU (ks.take (j + 1)) i = kidsU (ks.take j) i := by
  obtain ⟨hj, rfl⟩ := List.getElem?_eq_some_iff.1 h
  rw [List.take_succ_eq_append_getElem hj]
  unfold kidsU
  rw [List.filterMap_append]
  simp [h0]
section
variable {α : Type} (made : Cd → List α → α) (z : α) (cs : List Cd)
def resL : Nat → List α
  | 0 => []
  | i + 1 => resL i ++ [made (cs.getD i cd0) ((kidsU (cs.getD i cd0).kids i).map fun k => (resL i).getD k z)]
/-- What the part i comes to. -/
def resN (i : Nat) : α := (resL made z cs (i + 1)).getD i z
theorem resL_len : ∀ n, (resL made z cs n).length = n
  | 0 => rfl
  | n + 1 => by rw [resL, List.length_append, resL_len n]; rfl
theorem resL_get : ∀ (n j : Nat), j < n → (resL made z cs n).getD j z = resN made z cs j
  | 0, _, h => absurd h (Nat.not_lt_zero _)
  | n + 1, j, h => by
    by_cases hj : j = n
    · subst hj; rfl
    · rw [← resL_get n j (by omega), resL, List.getD_eq_getElem?_getD, List.getD_eq_getElem?_getD, List.getElem?_append_left (by rw [resL_len]; omega), List.getD_eq_getElem?_getD]
theorem resN_eq (i : Nat) : resN made z cs i = made (cs.getD i cd0) ((kidsU (cs.getD i cd0).kids i).map (resN made z cs)) := by
  unfold resN
  rw [resL, List.getD_eq_getElem?_getD, List.getElem?_append_right (by rw [resL_len]; omega), resL_len, Nat.sub_self]
  simp only [List.getElem?_cons_zero, Option.getD_some]
  congr 1
  apply List.map_congr_left
  intro k hk
  exact resL_get made z cs i k (kidsU_lt hk)
theorem resN_of {i : Nat} {x : Cd} (h : cs[i]? = some x) : resN made z cs i = made x ((kidsU x.kids i).map (resN made z cs)) := by
  have e : cs.getD i cd0 = x := by rw [List.getD_eq_getElem?_getD, h]; rfl
  rw [resN_eq, e]
end
/-- Bools, numbers, demands as elements. -/
def EO : T.Ety Bool where
  m := 1
  enc := fun b => [.bool b]
  tE := 4
  tS := 65
  z := .bool false
  bytes := 1
  len := fun _ => rfl
  one := fun x u h => by simp at h; rw [h]; rfl
  und := Tryd.underlying65
  info := by kernel_rfl
  zs := rfl
  pos := by decide
  by32 := by decide
def EI : T.Ety Int where
  m := 1
  enc := fun n => [.int .i64 n]
  tE := 3
  tS := 52
  z := .int .i64 0
  bytes := 8
  len := fun _ => rfl
  one := fun x u h => by simp at h; rw [h]; rfl
  und := Tryd.underlying52
  info := by kernel_rfl
  zs := rfl
  pos := by decide
  by32 := by decide
abbrev Dm := (Nat × Int × Bs) × Bool
def ED : T.Ety Dm where
  m := 4
  enc := fun d => [.int .u8 (d.1.1 : Int), .int .i64 d.1.2.1, .string (str d.1.2.2), .bool d.2]
  tE := 49
  tS := 55
  z := .agg #[.int .u8 0, .int .i64 0, .string ⟨#[]⟩, .bool false]
  bytes := 40
  len := fun _ => rfl
  one := fun x u h => by simp at h; rcases h with rfl | rfl | rfl | rfl <;> rfl
  und := Tryd.underlying55
  info := by kernel_rfl
  zs := rfl
  pos := by decide
  by32 := by decide
theorem EI_cells : ∀ ks : List Int, EI.cells ks = ks.map fun k => .int .i64 k
  | [] => rfl
  | k :: ks => by
    have := EI_cells ks
    unfold T.Ety.cells at this ⊢
    rw [List.flatMap_cons, this]
    rfl
theorem EO_cells : ∀ ks : List Bool, EO.cells ks = ks.map Value.bool
  | [] => rfl
  | k :: ks => by
    have := EO_cells ks
    unfold T.Ety.cells at this ⊢
    rw [List.flatMap_cons, this]
    rfl
theorem KV.lv {y : Sl3} {ks : List Int} (h : KV w y ks) : T.LV EI w (slW y) ks := by
  rcases h with ⟨rfl, rfl⟩ | ⟨g, c, rfl, h1, h2⟩
  · exact T.LV.nil _ _ _ _
  · refine T.lv_blk EI (g := g) (t := 3) ?_ c h1
    rw [EI_cells]
    exact h2
/-- Parts behind a slice, wherever their kids lie. -/
def LC (w : World) (u : Value) (cs : List Cd) : Prop := ∃ es, T.LV EC w u es ∧ es.map Prod.fst = cs ∧ ∀ e ∈ es, T.LV EI w (slW e.2) e.1.kids
theorem LCd.lc {u : Value} (h : LCd w u cs) : LC w u cs := by
  obtain ⟨es, h1, h2, h3⟩ := h
  exact ⟨es, h1, h2, fun e he => (h3 e he).lv⟩
theorem LC.below {u : Value} (h : LC w u cs) (k : Below w.heap.size w w') : LC w' u cs := by
  obtain ⟨es, h1, h2, h3⟩ := h
  exact ⟨es, h1.below k, h2, fun e he => (h3 e he).below k⟩
theorem LC.form {u : Value} (h : LC w u cs) : ∃ a c, u = .slice a cs.length c := by
  obtain ⟨es, h1, rfl, h3⟩ := h
  obtain ⟨a, c, e⟩ := h1.form
  exact ⟨a, c, by rw [e, List.length_map]⟩
/-- A part, as it lies among the others. -/
theorem LC.at {a : Option Addr} {n c i : Nat} {x : Cd} (h : LC w (.slice a n c) cs) (hx : cs[i]? = some x) : ∃ g o y, a = some ⟨g, o, none⟩ ∧ T.LV EI w (slW y) x.kids ∧
    w.cell? ⟨g, o + i * 7, none⟩ = some (.int .u8 (x.k : Int)) ∧ w.cell? ⟨g, o + i * 7 + 1, none⟩ = some (.string (str x.col)) ∧ w.cell? ⟨g, o + i * 7 + 2, none⟩ = some (.int .u8 (x.op : Int)) ∧ w.cell? ⟨g, o + i * 7 + 3, none⟩ = some (.int .u8 (x.vk : Int)) ∧ w.cell? ⟨g, o + i * 7 + 4, none⟩ = some (.int .i64 x.vn) ∧ w.cell? ⟨g, o + i * 7 + 5, none⟩ = some (.string (str x.vt)) ∧ w.cell? ⟨g, o + i * 7 + 6, none⟩ = some (slW y) := by
  obtain ⟨es, h1, rfl, h3⟩ := h
  rw [List.getElem?_map] at hx
  obtain ⟨⟨x', y⟩, hy, rfl⟩ := Option.map_eq_some_iff.1 hx
  obtain ⟨g, o, e, hc⟩ := h1.at hy
  have k0 := hc 0 (by decide)
  have k1 := hc 1 (by decide)
  have k2 := hc 2 (by decide)
  have k3 := hc 3 (by decide)
  have k4 := hc 4 (by decide)
  have k5 := hc 5 (by decide)
  have k6 := hc 6 (by decide)
  exact ⟨g, o, y, e, h3 _ (List.mem_of_getElem? hy), k0, k1, k2, k3, k4, k5, k6⟩
/-- An append, whatever the size that the machine bears. -/
theorem rw_app3 {α : Type} {E : T.Ety α} {L L' : List α} {B : Nat} {u lv : Value} (hU : T.RW E B w u L) (hV : T.LV E w lv L') (h0 : L' ≠ []) (h1 : L.length + L'.length ≤ 1000000000000000000) (hby : (L.length + L'.length) * E.bytes ≤ 140737488355328) (hB : B ≤ w.heap.size) : ∃ u' w', (Builtin.append_ #[E.tS, E.tS] E.tS #[u, lv]).run Tryd.prog w = .ok u' w' ∧ (∃ g cap, u' = .slice (some ⟨g, 0, none⟩) (L.length + L'.length) cap) ∧ T.RW E B w' u' (L ++ L') ∧ Below B w w' := by
  obtain ⟨a, c, rfl, _, hat⟩ := hV
  obtain ⟨i, hi, hzz⟩ := Option.map_eq_some_iff.1 E.info
  simp only [Prod.mk.injEq] at hzz
  obtain ⟨hz, hs, hb⟩ := hzz
  have hpos : 0 < L'.length := List.length_pos_iff.2 h0
  obtain ⟨g, o, cs, t, rfl, hbk, hta⟩ := hat hpos
  obtain ⟨g', cap, w', q1, q2, q3, q4, q5⟩ := run_append_lies (P := Tryd.prog) w E.tS E.tS B E.tE i E.z E.m E.bytes E.und hi hz hs hb E.zs E.pos u L.length (E.cells L) hU ⟨g, o, none⟩ L'.length c (E.cells L') (T.cells_len E L') (T.news_of hbk hta) (T.cells_one E L') hpos (by unfold maxLen; omega) hby hB _ rfl
  refine ⟨_, w', q1, ⟨g', cap, rfl⟩, ?_, ⟨q3.os, q3.tape, q3.output, q3.size, fun k hk => q3.block k (by omega) fun e => by have := (hU.at e.symm).1; omega⟩⟩
  unfold T.RW
  rw [List.length_append, T.cells_app]
  exact q2
/-- What ofWhole keeps: the parts, what is known, what was kept, and its two closures. -/
structure WS {α : Type} (E : T.Ety α) (tl tm : TypeId) (res : Nat → α) (W0 : World) (b q n : Nat) (u mf lf : Value) (kn : List Bool) (ks : List α) (W : World) : Prop where
  bel : Below W0.heap.size W0 W
  low : W0.heap.size ≤ b
  bq : b + 2 ≤ q
  bl : T.Blk W b [u] 22
  bm : T.Blk W (b + 1) [mf] tm
  bkb : T.Blk W q (kn.map .bool) 4
  bkv : T.Blk W (q + 1) [.slice (some ⟨q, 0, none⟩) n n] 65
  beb : T.Blk W (q + 2) (E.cells ks) E.tE
  bev : T.Blk W (q + 3) [.slice (some ⟨q + 2, 0, none⟩) n n] E.tS
  blk : T.Blk W (q + 4) [lf] tl
  ln : kn.length = n
  le : ks.length = n
  ok : ∀ j, kn[j]? = some true → ks[j]? = some (res j)
abbrev FW (q : Nat) (x : Nat) : Prop := x = q ∨ x = q + 2
section
variable {α : Type} {E : T.Ety α} {tl tm : TypeId} {res : Nat → α} {W0 W W' : World} {b q n : Nat} {u mf lf : Value} {kn : List Bool} {ks : List α}
theorem WS.below (h : WS E tl tm res W0 b q n u mf lf kn ks W) (k : Below W.heap.size W W') : WS E tl tm res W0 b q n u mf lf kn ks W' :=
  ⟨h.bel.trans (k.mono h.bel.size), h.low, h.bq, h.bl.below k, h.bm.below k, h.bkb.below k, h.bkv.below k, h.beb.below k, h.bev.below k, h.blk.below k, h.ln, h.le, h.ok⟩
theorem WS.under {B : Nat} (h : WS E tl tm res W0 b q n u mf lf kn ks W) (hB : q + 4 < B) (k : Below B W W') : WS E tl tm res W0 b q n u mf lf kn ks W' := by
  have h1 := h.low
  have h2 := h.bq
  exact ⟨h.bel.trans (k.mono (by omega)), h1, h2, h.bl.block (k.block _ (by omega)), h.bm.block (k.block _ (by omega)), h.bkb.block (k.block _ (by omega)), h.bkv.block (k.block _ (by omega)), h.beb.block (k.block _ (by omega)), h.bev.block (k.block _ (by omega)), h.blk.block (k.block _ (by omega)), h.ln, h.le, h.ok⟩
/-- The part i is known. -/
theorem WS.put (h : WS E tl tm res W0 b q n u mf lf kn ks W) {i : Nat} (k : T.Keep (FW q) W W') (h1 : T.Blk W' q ((kn.set i true).map .bool) 4) (h2 : T.Blk W' (q + 2) (E.cells (ks.set i (res i))) E.tE) : WS E tl tm res W0 b q n u mf lf (kn.set i true) (ks.set i (res i)) W' := by
  have hb := h.low
  have hq := h.bq
  have hW := h.bel.size
  refine ⟨h.bel.trans (k.below (B := W0.heap.size) hW (fun x hx hf => by unfold FW at hf; omega)), hb, hq, h.bl.keep k (by unfold FW; omega), h.bm.keep k (by unfold FW; omega), h1, h.bkv.keep k (by unfold FW; omega), h2, h.bev.keep k (by unfold FW; omega), h.blk.keep k (by unfold FW; omega), by rw [List.length_set]; exact h.ln, by rw [List.length_set]; exact h.le, fun j hj => ?_⟩
  rw [List.getElem?_set] at hj ⊢
  by_cases e : i = j
  · subst e
    rw [if_pos rfl] at hj ⊢
    have : i < kn.length := by
      by_cases h3 : i < kn.length
      · exact h3
      · rw [if_neg h3] at hj; cases hj
    rw [if_pos (by rw [h.le, ← h.ln]; exact this)]
  · rw [if_neg e] at hj ⊢
    exact h.ok j hj
end
abbrev cdV (x : Cd) (y : Sl3) : Value := .agg #[.int .u8 (x.k : Int), .string (str x.col), .int .u8 (x.op : Int), .int .u8 (x.vk : Int), .int .i64 x.vn, .string (str x.vt), slW y]
end Go.Proofs.YtipnaphikbjhbaaDoor
/-! ### What a part comes to: a condition that holds. -/
namespace Go.Proofs.YtipnaphikbjhbaaDoor
open Go.RowKit
set_option maxRecDepth 100000
attribute [local go_sem ↓] Go.wp_at_zero Go.wp_at_succ
section
variable {W0 W W' : World} {b q n : Nat} {u mf : Value} {kn : List Bool} {ks : List Bool} {cs : List Cd} {res : Nat → Bool}
abbrev lf39 (b q : Nat) : Value := .func (.func 39) #[] #[.pointer (some ⟨q + 1, 0, none⟩), .pointer (some ⟨q + 3, 0, none⟩), .pointer (some ⟨b, 0, none⟩), .pointer (some ⟨q + 4, 0, none⟩), .pointer (some ⟨b + 1, 0, none⟩)]
abbrev mf25 (x y : Nat) : Value := .func (.func 25) #[] #[.pointer (some ⟨x, 0, none⟩), .pointer (some ⟨y, 0, none⟩)]
abbrev WO (res : Nat → Bool) (W0 : World) (b q n : Nat) (u mf : Value) (kn ks : List Bool) (W : World) : Prop := WS EO 89 68 res W0 b q n u mf (lf39 b q) kn ks W
/-- What a closure for a part answers. -/
abbrev MadeO (W0 : World) (x' y' : Nat) (made : Cd → List Bool → Bool) : Prop := ∀ (W : World) (x : Cd) (y : Sl3) (v : Value) (l : List Bool), Below W0.heap.size W0 W → T.LV EO W v l → l.length ≤ 1000000000000000 → Calls Tryd.prog 25 #[cdV x y, v, .pointer (some ⟨x', 0, none⟩), .pointer (some ⟨y', 0, none⟩)] W fun e w' => e = .returned (.bool (made x l)) ∧ Below W.heap.size W w'
set_option maxHeartbeats 8000000 in
theorem look39 {made : Cd → List Bool → Bool} {x' y' : Nat} (hm : MadeO W0 x' y' made) (hcs : LC W0 u cs) (hn : cs.length = n) (hk : ∀ x ∈ cs, x.kids.length + 1 ≤ 100000000000000) (hres : ∀ i x, cs[i]? = some x → res i = made x ((kidsU x.kids i).map res)) :
    ∀ i, i < n → ∀ W kn ks, WO res W0 b q n u (mf25 x' y') kn ks W → Calls Tryd.prog 39 #[.int .i64 (i : Int), .pointer (some ⟨q + 1, 0, none⟩), .pointer (some ⟨q + 3, 0, none⟩), .pointer (some ⟨b, 0, none⟩), .pointer (some ⟨q + 4, 0, none⟩), .pointer (some ⟨b + 1, 0, none⟩)] W fun e w' => e = .returned (.bool (res i)) ∧ (∃ kn' ks', WO res W0 b q n u (mf25 x' y') kn' ks' w') ∧ T.Keep (FW q) W w' := by
  intro i
  induction i using Nat.strongRecOn with
  | _ i ih =>
  intro hi W kn ks h
  obtain ⟨ua, uc, hu⟩ := hcs.form
  rw [hn] at hu
  subst hu
  obtain ⟨x, hx⟩ : ∃ x, cs[i]? = some x := ⟨_, List.getElem?_eq_getElem (by omega)⟩
  have hxk := hk x (List.mem_of_getElem? hx)
  have hxr := hres i x hx
  obtain ⟨g, o, y, rfl, hyl, p0, p1, p2, p3, p4, p5, p6⟩ := hcs.at hx
  have hgl : g < W0.heap.size := World.block_lt_of_cell? _ _ p0
  have hi1 : (0 : Int) ≤ (i : Int) := by omega
  have hi2 : (i : Int) < (n : Int) := by omega
  have kb := h.bkb.cell i
  have kv := h.bkv.cell 0
  have eb := h.beb.cell i
  have ev := h.bev.cell 0
  rw [List.getElem?_map] at kb
  rw [EO_cells, List.getElem?_map] at eb
  obtain ⟨kni, hkn⟩ : ∃ x, kn[i]? = some x := ⟨_, List.getElem?_eq_getElem (by rw [h.ln]; exact hi)⟩
  obtain ⟨ksi, hks⟩ : ∃ x, ks[i]? = some x := ⟨_, List.getElem?_eq_getElem (by rw [h.le]; exact hi)⟩
  rw [hkn] at kb
  rw [hks] at eb
  simp only [Option.map_some, List.getElem?_cons_zero] at kb kv eb ev
  cases kni
  · obtain ⟨ya, yc, hy⟩ := hyl.form
    obtain ⟨y1, y2, y3⟩ := y
    simp only [slW, Value.slice.injEq] at hy
    obtain ⟨rfl, rfl, rfl⟩ := hy
    have hlow := h.low
    have hbq := h.bq
    have hsz := h.bel.size
    have HW : Hid (WO res W0 b q n (.slice (some ⟨g, o, none⟩) n uc) (mf25 x' y') kn ks W) := h
    have HYL : Hid (∀ W', Below W0.heap.size W0 W' → T.LV EI W' (.slice y1 x.kids.length y3) x.kids) := fun W' k => hyl.below k
    have HS : Hid (∀ W', T.Keep (FW q) W W' → W'.cell? ⟨q + 1, 0, none⟩ = some (.slice (some ⟨q, 0, none⟩) n n) ∧ W'.cell? ⟨q + 3, 0, none⟩ = some (.slice (some ⟨q + 2, 0, none⟩) n n) ∧ W'.cell? ⟨b + 1, 0, none⟩ = some (mf25 x' y') ∧ W'.cell? ⟨b, 0, none⟩ = some (.slice (some ⟨g, o, none⟩) n uc) ∧
        W'.cell? ⟨g, o + i * 7, none⟩ = some (.int .u8 (x.k : Int)) ∧ W'.cell? ⟨g, o + i * 7 + 1, none⟩ = some (.string (str x.col)) ∧ W'.cell? ⟨g, o + i * 7 + 2, none⟩ = some (.int .u8 (x.op : Int)) ∧ W'.cell? ⟨g, o + i * 7 + 3, none⟩ = some (.int .u8 (x.vk : Int)) ∧ W'.cell? ⟨g, o + i * 7 + 4, none⟩ = some (.int .i64 x.vn) ∧ W'.cell? ⟨g, o + i * 7 + 5, none⟩ = some (.string (str x.vt)) ∧ W'.cell? ⟨g, o + i * 7 + 6, none⟩ = some (.slice y1 x.kids.length y3)) := fun W' k => by
      have hB : Below W0.heap.size W0 W' := HW.out.bel.trans (k.below (B := W0.heap.size) hsz (fun z hz hf => by unfold FW at hf; omega))
      have c : ∀ j, W'.cell? ⟨g, j, none⟩ = W0.cell? ⟨g, j, none⟩ := fun j => hB.cell (p := ⟨g, j, none⟩) hgl
      exact ⟨(HW.out.bkv.keep k (by unfold FW; omega)).cell 0, (HW.out.bev.keep k (by unfold FW; omega)).cell 0, (HW.out.bm.keep k (by unfold FW; omega)).cell 0, (HW.out.bl.keep k (by unfold FW; omega)).cell 0, (c _).trans p0, (c _).trans p1, (c _).trans p2, (c _).trans p3, (c _).trans p4, (c _).trans p5, (c _).trans p6⟩
    obtain ⟨s1, s2, s3, s4, s5, s6, s7, s8, s9, s10, s11⟩ := HS.out W (T.Keep.refl _ _)
    have HLF : Hid (∀ W', T.Keep (FW q) W W' → W'.cell? ⟨q + 4, 0, none⟩ = some (lf39 b q)) := fun W' k => (HW.out.blk.keep k (by unfold FW; omega)).cell 0
    have HIH : Hid (∀ (k : Int), 0 ≤ k → k < (i : Int) → ∀ W kn ks, WO res W0 b q n (.slice (some ⟨g, o, none⟩) n uc) (mf25 x' y') kn ks W → Calls Tryd.prog 39 #[.int .i64 k, .pointer (some ⟨q + 1, 0, none⟩), .pointer (some ⟨q + 3, 0, none⟩), .pointer (some ⟨b, 0, none⟩), .pointer (some ⟨q + 4, 0, none⟩), .pointer (some ⟨b + 1, 0, none⟩)] W fun e w' => e = .returned (.bool (res k.toNat)) ∧ (∃ kn' ks', WO res W0 b q n (.slice (some ⟨g, o, none⟩) n uc) (mf25 x' y') kn' ks' w') ∧ T.Keep (FW q) W w') := fun k h0 h1 W kn ks hW => by
      have := ih k.toNat (by omega) (by omega) W kn ks hW
      rw [Int.toNat_of_nonneg h0] at this
      exact this
    have HM : Hid (∀ (W : World) (v : Value) (l : List Bool), Below W0.heap.size W0 W → T.LV EO W v l → l.length ≤ 1000000000000000 → Calls Tryd.prog 25 #[.agg #[.int .u8 (x.k : Int), .string (str x.col), .int .u8 (x.op : Int), .int .u8 (x.vk : Int), .int .i64 x.vn, .string (str x.vt), .slice y1 x.kids.length y3], v, .pointer (some ⟨x', 0, none⟩), .pointer (some ⟨y', 0, none⟩)] W fun e w' => e = .returned (.bool (made x l)) ∧ Below W.heap.size W w') := fun W v l => hm W x (y1, x.kids.length, y3) v l
    have HR : Hid (res i = made x ((kidsU x.kids i).map res)) := hxr
    have HWZ : Hid (q + 4 < W.heap.size) := h.blk.lt
    have HKS : Hid (x.kids.length + 1 ≤ 100000000000000) := hxk
    clear ih hm hcs hk hres hyl hxr hx hkn hks h p0 p1 p2 p3 p4 p5 p6 hxk kv ev eb s2 s3 s5 s6 s7 s8 s9 s10 hn hi hsz
    have HK : Hid (x.kids = x.kids) := rfl
    obtain ⟨N, hN⟩ : ∃ N, x.kids.length = N := ⟨_, rfl⟩
    rw [hN] at s11 HYL HS HM HKS
    have HN : Hid (x.kids.length = N) := hN
    clear hN HK
    go_enter Tryd.func39, Tryd.ntmps39
    go_wp2
    go_loopw [8, 25] (fun p8 p25 wr => ∃ (m : Nat) (va : Option Addr) (vn vc : Nat) (kn' ks' : List Bool), p25 = .int .i64 (m : Int) ∧ p8 = .slice va vn vc ∧ Hid (m ≤ N) ∧ Hid (WO res W0 b q n (.slice (some ⟨g, o, none⟩) n uc) (mf25 x' y') kn' ks' wr) ∧ Hid (T.Keep (FW q) W wr) ∧ Hid (T.RW EO W.heap.size wr (.slice va vn vc) ((kidsU (x.kids.take m) i).map res))) (fun _ p _ => N - (RowKit.intOf p).toNat)
    case atStart => exact ⟨0, none, 0, 0, kn, ks, rfl, rfl, Nat.zero_le _, HW.out, T.Keep.refl _ _, T.RW.nil _ _ _⟩
    case round =>
      obtain ⟨m, va, vn, vc, kn', ks', rfl, rfl, hmN, hws, hkp, hrw⟩ := hrel
      have hvn : vn = ((kidsU (x.kids.take m) i).map res).length := by
        obtain ⟨a', c', e, _⟩ := hrw.out.form
        cases e; rfl
      have hl9 : vn ≤ m := by
        rw [hvn, List.length_map]
        exact Nat.le_trans (kidsU_len _ _) (by rw [List.length_take]; exact Nat.min_le_left _ _)
      have HVN : Hid (vn = ((kidsU (x.kids.take m) i).map res).length) := hvn
      clear hvn
      by_cases hlt : m < N
      · have hmi : (m : Int) < (N : Int) := by omega
        have hmN' := hmN.out
        have hks9 := HKS.out
        obtain ⟨k, hk⟩ : ∃ k, x.kids[m]? = some k := ⟨_, List.getElem?_eq_getElem (by rw [HN.out]; exact hlt)⟩
        obtain ⟨g2, o2, rfl, hc⟩ := (HYL.out wr hws.out.bel).at hk
        have hc0 : wr.cell? ⟨g2, o2 + m, none⟩ = some (.int .i64 k) := by
          have := hc 0 (by decide)
          simpa [EI] using this
        have hw1 : IntKind.i64.wrap ((m : Int) + 1) = (m : Int) + 1 := wrap_small _ (by omega) (by omega)
        by_cases h0 : 0 ≤ k
        · by_cases h1 : k < (i : Int)
          · have HTK := kidsU_yes hk h0 h1
            have k39 := HIH.out k h0 h1 wr kn' ks' hws.out
            have hlf := HLF.out wr hkp.out
            have HAPP : Hid (∀ w5, T.Keep (FW q) wr w5 → ∃ u' w', (Builtin.append_ #[65, 65] 65 #[.slice va vn vc, .slice (some ⟨w5.heap.size, 0, none⟩) 1 1]).run Tryd.prog (w5.alloc (.cells #[.bool (res k.toNat)] 4)) = .ok u' w' ∧ (∃ g cap, u' = .slice (some ⟨g, 0, none⟩) (vn + 1) cap ∧ T.RW EO W.heap.size w' u' ((kidsU (x.kids.take (m + 1)) i).map res) ∧ Below W.heap.size (w5.alloc (.cells #[.bool (res k.toNat)] 4)) w')) := fun w5 hk5 => by
              have hsz := hkp.out.size
              have hq4 := HWZ.out
              have hr5 := (hrw.out.keep (w' := w5) fun z hz => hk5.block z (hrw.out.at hz).2 (by have := (hrw.out.at hz).1; unfold FW; omega)).below (T.al w5 (.cells #[.bool (res k.toNat)] 4))
              have hlv : T.LV EO (w5.alloc (.cells #[.bool (res k.toNat)] 4)) (.slice (some ⟨w5.heap.size, 0, none⟩) 1 1) [res k.toNat] := T.lv_blk EO (L := [res k.toNat]) (T.blk_new w5 [.bool (res k.toNat)] 4) 1 (Nat.le_refl _)
              obtain ⟨u', w', q1, ⟨g', cap, q2⟩, q3, q4⟩ := rw_app3 hr5 hlv (by simp) (by rw [← HVN.out]; simp; omega) (by rw [← HVN.out]; simp [EO]; omega) (by have := hk5.size; simp; omega)
              rw [← HVN.out] at q2
              refine ⟨u', w', q1, g', cap, q2, ?_, q4⟩
              rw [HTK, List.map_append]
              exact q3
            clear hk hc HTK
            go_wp2_with (first
              | (at_builtin; refine T.wpList_append_ex rfl (.tmp 36) (.tmp 40) 65 rfl _ _ rfl rfl (HAPP.out w5 hk5.out) ?_; rintro u6 w6 ⟨g6, cap6, rfl, hr6, hb6⟩)
              | (go_at_call 39; (refine k39.mono ?_; rintro e w5 ⟨rfl, ⟨kn5, ks5, hs5⟩, hk5'⟩; have hk5 : Hid (T.Keep (FW q) wr w5) := hk5'; have HS5 : Hid (WO res W0 b q n (.slice (some ⟨g, o, none⟩) n uc) (mf25 x' y') kn5 ks5 w5) := hs5; clear hk5' hs5)))
            have hb56 : Below W.heap.size w5 w6 := ((T.al w5 (.cells #[.bool (res k.toNat)] 4)).mono (by have := hk5.out.size; have := hkp.out.size; omega)).trans hb6
            have HS6 : Hid (WO res W0 b q n (.slice (some ⟨g, o, none⟩) n uc) (mf25 x' y') kn5 ks5 w6) := HS5.out.under HWZ.out hb56
            have HK6 : Hid (T.Keep (FW q) W w6) := ⟨hb56.os.trans (hk5.out.os.trans hkp.out.os), hb56.tape.trans (hk5.out.tape.trans hkp.out.tape), hb56.output.trans (hk5.out.output.trans hkp.out.output), Nat.le_trans hkp.out.size (Nat.le_trans hk5.out.size hb56.size), fun z hz hf => (hb56.block z hz).trans (((hkp.out.trans hk5.out (fun _ _ e => e)).block z hz hf))⟩
            go_roundw
            case rel => exact ⟨m + 1, some ⟨g6, 0, none⟩, vn + 1, cap6, kn5, ks5, by simp, rfl, by show _ ≤ _; omega, HS6, HK6, hr6⟩
            case measure => simp [RowKit.intOf]; omega
          · have HTK := kidsU_no (i := i) hk (fun e => h1 e.2)
            have HN2 : Hid (T.RW EO W.heap.size wr (.slice va vn vc) ((kidsU (x.kids.take (m + 1)) i).map res)) := by rw [HTK]; exact hrw
            clear hk hc HTK
            go_wp2
            go_roundw
            case rel => exact ⟨m + 1, va, vn, vc, kn', ks', by simp, rfl, by show _ ≤ _; omega, hws, hkp, HN2⟩
            case measure => simp [RowKit.intOf]; omega
        · have HTK := kidsU_no (i := i) hk (fun e => h0 e.1)
          have HN2 : Hid (T.RW EO W.heap.size wr (.slice va vn vc) ((kidsU (x.kids.take (m + 1)) i).map res)) := by rw [HTK]; exact hrw
          clear hk hc HTK
          go_wp2
          go_roundw
          case rel => exact ⟨m + 1, va, vn, vc, kn', ks', by simp, rfl, by show _ ≤ _; omega, hws, hkp, HN2⟩
          case measure => simp [RowKit.intOf]; omega
      · obtain rfl : m = N := by have := hmN.out; omega
        have hnl : ¬ (m : Int) < (m : Int) := by omega
        obtain ⟨s1, s2, s3, s4, s5, s6, s7, s8, s9, s10, s11⟩ := HS.out wr hkp.out
        have k25 := HM.out wr.drew (.slice va vn vc) ((kidsU x.kids i).map res) hws.out.bel.drew (by have := hrw.out.read.below (Below.refl wr.heap.size wr).drew; rw [← HN.out, List.take_length] at this; exact this) (by rw [List.length_map]; exact Nat.le_trans (kidsU_len _ _) (by rw [HN.out]; have := HKS.out; omega))
        have hkd : Hid (T.Keep (FW q) W wr.drew) := hkp.out.drew
        have HST : Hid (∀ (w5 : World) (r : Bool), Below wr.heap.size wr.drew w5 → ∃ o1 o2, w5.cell? ⟨q, i, none⟩ = some (.bool o1) ∧ w5.frozen? ⟨q, i, none⟩ = false ∧ (w5.setCell ⟨q, i, none⟩ (.bool true)).cell? ⟨q + 2, i, none⟩ = some (.bool o2) ∧ (w5.setCell ⟨q, i, none⟩ (.bool true)).frozen? ⟨q + 2, i, none⟩ = false ∧ ((w5.setCell ⟨q, i, none⟩ (.bool true)).setCell ⟨q + 2, i, none⟩ (.bool r)).cell? ⟨q + 2, i, none⟩ = some (.bool r) ∧ T.Blk ((w5.setCell ⟨q, i, none⟩ (.bool true)).setCell ⟨q + 2, i, none⟩ (.bool r)) q ((kn'.set i true).map .bool) 4 ∧ T.Blk ((w5.setCell ⟨q, i, none⟩ (.bool true)).setCell ⟨q + 2, i, none⟩ (.bool r)) (q + 2) (EO.cells (ks'.set i r)) 4) := fun w5 r B5 => by
          have hwd := hws.out.below (Below.refl wr.heap.size wr).drew
          have hb1 := hwd.bkb.below B5
          have hb2 := hwd.beb.below B5
          have hln := hws.out.ln
          have hle := hws.out.le
          rw [EO_cells] at hb2
          have hb1' := hb1.set (o := i) (.bool true)
          have hb2' := hb2.other (p := ⟨q, i, none⟩) (by show q + 2 ≠ q; omega) (.bool true)
          have hb1'' := hb1'.other (p := ⟨q + 2, i, none⟩) (by show q ≠ q + 2; omega) (.bool r)
          have hb2'' := hb2'.set (o := i) (.bool r)
          have e1 := hb1.cell i
          have e2 := hb2'.cell i
          have e3 := hb2''.cell i
          rw [List.getElem?_map, List.getElem?_eq_getElem (by omega)] at e1 e2
          rw [List.getElem?_set_self (by rw [List.length_map]; omega)] at e3
          rw [List.map_set, EO_cells, List.map_set]
          exact ⟨_, _, e1, hb1.frozen i, e2, hb2'.frozen i, e3, hb1'', hb2''⟩
        go_wp2_with fail
        go_region_held3 (fun W' => W'.cell? ⟨q + 1, 0, none⟩ = some (.slice (some ⟨q, 0, none⟩) n n) ∧ W'.cell? ⟨q + 3, 0, none⟩ = some (.slice (some ⟨q + 2, 0, none⟩) n n) ∧ W'.cell? ⟨b + 1, 0, none⟩ = some (mf25 x' y') ∧ W'.cell? ⟨b, 0, none⟩ = some (.slice (some ⟨g, o, none⟩) n uc) ∧ W'.cell? ⟨g, o + i * 7, none⟩ = some (.int .u8 (x.k : Int)) ∧ W'.cell? ⟨g, o + i * 7 + 1, none⟩ = some (.string (str x.col)) ∧ W'.cell? ⟨g, o + i * 7 + 2, none⟩ = some (.int .u8 (x.op : Int)) ∧ W'.cell? ⟨g, o + i * 7 + 3, none⟩ = some (.int .u8 (x.vk : Int)) ∧ W'.cell? ⟨g, o + i * 7 + 4, none⟩ = some (.int .i64 x.vn) ∧ W'.cell? ⟨g, o + i * 7 + 5, none⟩ = some (.string (str x.vt)) ∧ W'.cell? ⟨g, o + i * 7 + 6, none⟩ = some (.slice y1 m y3))
          ((refine HS.out _ ?_; first | (with_reducible exact hkd.out) | (with_reducible exact hk5.out) | (with_reducible exact hkA.out) | (with_reducible exact hkB.out)))
          ((go_at_call 25; (with_reducible refine k25.mono ?_); rintro e w5 ⟨rfl, B5⟩; have hk5 : Hid (T.Keep (FW q) W w5) := hkd.out.trans (T.Keep.of B5) (fun _ _ e => e); have hkA : Hid (T.Keep (FW q) W (w5.setCell ⟨q, i, none⟩ (.bool true))) := T.Keep.set hk5.out (p := ⟨q, i, none⟩) (.inr (.inl rfl)) _; have hkB : Hid (T.Keep (FW q) W ((w5.setCell ⟨q, i, none⟩ (.bool true)).setCell ⟨q + 2, i, none⟩ (.bool (made x ((kidsU x.kids i).map res))))) := T.Keep.set hkA.out (p := ⟨q + 2, i, none⟩) (.inr (.inr rfl)) _; obtain ⟨o1, o2, z1, z2, z3, z4, z5, z6', z7'⟩ := HST.out w5 (made x ((kidsU x.kids i).map res)) B5; have z6 : Hid _ := z6'; have z7 : Hid _ := z7'; clear z6' z7'))
        go_wp2_with fail
        go_ret
        rw [HR.out]
        have hput : WO res W0 b q n (.slice (some ⟨g, o, none⟩) n uc) (mf25 x' y') (kn'.set i true) (ks'.set i (res i)) ((w5.setCell ⟨q, i, none⟩ (.bool true)).setCell ⟨q + 2, i, none⟩ (.bool (made x ((kidsU x.kids i).map res)))) := by
          refine (hws.out.below (W' := w5) ((Below.refl _ _).drew.trans B5)).put (k := ((T.Keep.refl _ _).set (p := ⟨q, i, none⟩) (.inr (.inl rfl)) _).set (p := ⟨q + 2, i, none⟩) (.inr (.inr rfl)) _) z6.out ?_
          rw [HR.out]
          exact z7.out
        exact ⟨rfl, ⟨_, _, hput⟩, hkB.out⟩
  · have hr : ksi = res i := by
      have := h.ok i hkn
      rw [hks] at this
      exact Option.some.inj this
    subst hr
    have HS : Hid (WO res W0 b q n (.slice (some ⟨g, o, none⟩) n uc) (mf25 x' y') kn ks W) := h
    clear ih hm hcs hk hres hyl hxr hx hkn hks h p0 p1 p2 p3 p4 p5 p6 hxk
    go_enter Tryd.func39, Tryd.ntmps39
    go_wp2
    go_ret
    exact ⟨rfl, ⟨_, _, HS.out⟩, T.Keep.refl _ _⟩
end
end Go.Proofs.YtipnaphikbjhbaaDoor
/-! ### make: a row of zeros; ofWhole. -/
namespace Go.Proofs.YtipnaphikbjhbaaDoor
open Go.RowKit
set_option maxRecDepth 100000
theorem made_rep {α : Type} (E : T.Ety α) (z0 : α) (hz : E.z.cells = (E.enc z0).toArray) (n : Nat) : madeCells E.z.cells (n * E.m) = (E.cells (List.replicate n z0)).toArray := by
  have hm := E.pos
  apply Array.ext'
  apply List.ext_getElem?
  intro j
  by_cases hj : j < n * E.m
  · have h1 : j / E.m < n := Nat.div_lt_of_lt_mul (by rw [Nat.mul_comm]; exact hj)
    have h2 : j % E.m < E.m := Nat.mod_lt _ hm
    have h3 := T.cells_get E (L := List.replicate n z0) (i := j / E.m) (x := z0) (by rw [List.getElem?_replicate, if_pos h1]) h2
    rw [Nat.div_add_mod'] at h3
    have h4 : j % E.m < (E.enc z0).length := by rw [E.len]; exact h2
    rw [List.toList_toArray, h3, Array.getElem?_toList]
    unfold madeCells
    rw [Array.getElem?_map, Array.getElem?_range, if_pos hj, hz]
    simp only [Option.map_some, List.size_toArray, E.len]
    rw [List.getElem?_eq_getElem h4]
    simp [h4]
  · rw [List.getElem?_eq_none (by rw [Array.length_toList, size_madeCells]; omega), List.getElem?_eq_none (by rw [List.toList_toArray, T.cells_len, List.length_replicate]; omega)]
theorem wpList_mk {α : Type} (E : T.Ety α) (z0 : α) (hz : E.z.cells = (E.enc z0).toArray) {ops : Array Oper} {rest : List Oper} {o : Oper} {a : Act} {w : World} {Q : Exit → Act → World → Prop} (hgd : o.guard = none) (l c : Operand) (t : TypeId) (ht : t = E.tS) (ho : o.op = .makeSlice t l c) (n : Nat) (hl : a.eval l = .int .i64 (n : Int)) (hc : a.eval c = .int .i64 (n : Int)) (hn : n ≤ 1000000)
    (h : wpList Tryd.prog ops Q rest (a.put o.dst (.slice (some ⟨w.heap.size, 0, none⟩) n n)) (w.alloc (.cells (E.cells (List.replicate n z0)).toArray E.tE))) : wpList Tryd.prog ops Q (o :: rest) a w := by
  subst ht
  refine wpList_plain hgd fun K hK' => ?_
  obtain ⟨i, hi, hzz⟩ := Option.map_eq_some_iff.1 E.info
  simp only [Prod.mk.injEq] at hzz
  obtain ⟨hz', hs, hb⟩ := hzz
  have h32 := E.by32
  have hbn : i.bytes * n ≤ 281474976710656 := Nat.le_trans (Nat.mul_le_mul (by rw [hb]; exact h32) hn) (by decide)
  have hbi : (i.bytes : Int) * (n : Int) ≤ 281474976710656 := by
    have h : ((i.bytes * n : Nat) : Int) ≤ 281474976710656 := by omega
    rwa [Int.natCast_mul] at h
  have hr := run_make (P := Tryd.prog) w E.tS E.tE i E.z E.und hi hz' .i64 .i64 (n : Int) (n : Int) (by omega) (Int.le_refl _) hbi (by omega)
  rw [Int.toNat_natCast, hs, made_rep E z0 hz] at hr
  unfold Oper.wp
  simp [execOp, ho, hl, hc, hr, Result.andThen]
  exact hK' _ _ h
/-- What ofWhole lays, from the block q on. -/
abbrev w7 {α : Type} (E : T.Ety α) (z0 : α) (tl : TypeId) (w : World) (q n : Nat) (lf : Value) : World := ((((w.alloc (.cells (EO.cells (List.replicate n false)).toArray EO.tE)).alloc (.cells #[.slice (some ⟨q, 0, none⟩) n n] 65)).alloc (.cells (E.cells (List.replicate n z0)).toArray E.tE)).alloc (.cells #[.slice (some ⟨q + 1 + 1, 0, none⟩) n n] E.tS)).alloc (.cells #[lf] tl)
theorem w7_ok {α : Type} {E : T.Ety α} {z0 : α} {tl tm : TypeId} {res : Nat → α} {W0 w : World} {b q n : Nat} {u mf : Value} (lf : Value) (hbel : Below W0.heap.size W0 w) (hlow : W0.heap.size ≤ b) (hbq : b + 2 ≤ q) (hq : w.heap.size = q) (hbl : T.Blk w b [u] 22) (hbm : T.Blk w (b + 1) [mf] tm) :
    WS E tl tm res W0 b q n u mf lf (List.replicate n false) (List.replicate n z0) (w7 E z0 tl w q n lf) ∧ (w7 E z0 tl w q n lf).cell? ⟨q + 1 + 1 + 1 + 1, 0, none⟩ = some lf ∧ (w7 E z0 tl w q n lf).cell? ⟨b, 0, none⟩ = some u := by
  have e0 := T.blk_at w (EO.cells (List.replicate n false)) EO.tE hq
  have a1 := T.al w (.cells (EO.cells (List.replicate n false)).toArray EO.tE)
  have e1 := T.blk_at (w.alloc (.cells (EO.cells (List.replicate n false)).toArray EO.tE)) [.slice (some ⟨q, 0, none⟩) n n] 65 (g := q + 1) (by simp [hq])
  have a2 := T.al (w.alloc (.cells (EO.cells (List.replicate n false)).toArray EO.tE)) (.cells #[.slice (some ⟨q, 0, none⟩) n n] 65)
  have e2 := T.blk_at ((w.alloc (.cells (EO.cells (List.replicate n false)).toArray EO.tE)).alloc (.cells #[.slice (some ⟨q, 0, none⟩) n n] 65)) (E.cells (List.replicate n z0)) E.tE (g := q + 1 + 1) (by simp [hq])
  have a3 := T.al ((w.alloc (.cells (EO.cells (List.replicate n false)).toArray EO.tE)).alloc (.cells #[.slice (some ⟨q, 0, none⟩) n n] 65)) (.cells (E.cells (List.replicate n z0)).toArray E.tE)
  have e3 := T.blk_at (((w.alloc (.cells (EO.cells (List.replicate n false)).toArray EO.tE)).alloc (.cells #[.slice (some ⟨q, 0, none⟩) n n] 65)).alloc (.cells (E.cells (List.replicate n z0)).toArray E.tE)) [.slice (some ⟨q + 1 + 1, 0, none⟩) n n] E.tS (g := q + 1 + 1 + 1) (by simp [hq])
  have a4 := T.al (((w.alloc (.cells (EO.cells (List.replicate n false)).toArray EO.tE)).alloc (.cells #[.slice (some ⟨q, 0, none⟩) n n] 65)).alloc (.cells (E.cells (List.replicate n z0)).toArray E.tE)) (.cells #[.slice (some ⟨q + 1 + 1, 0, none⟩) n n] E.tS)
  have e4 := T.blk_at ((((w.alloc (.cells (EO.cells (List.replicate n false)).toArray EO.tE)).alloc (.cells #[.slice (some ⟨q, 0, none⟩) n n] 65)).alloc (.cells (E.cells (List.replicate n z0)).toArray E.tE)).alloc (.cells #[.slice (some ⟨q + 1 + 1, 0, none⟩) n n] E.tS)) [lf] tl (g := q + 1 + 1 + 1 + 1) (by simp [hq])
  have a5 := T.al ((((w.alloc (.cells (EO.cells (List.replicate n false)).toArray EO.tE)).alloc (.cells #[.slice (some ⟨q, 0, none⟩) n n] 65)).alloc (.cells (E.cells (List.replicate n z0)).toArray E.tE)).alloc (.cells #[.slice (some ⟨q + 1 + 1, 0, none⟩) n n] E.tS)) (.cells #[lf] tl)
  have B5 : Below w.heap.size w (w7 E z0 tl w q n lf) := bmore (bmore (bmore (bmore a1 a2) a3) a4) a5
  have e0' := (((e0.below a2).below a3).below a4).below a5
  have e1' := ((e1.below a3).below a4).below a5
  have e2' := (e2.below a4).below a5
  have e3' := e3.below a5
  have hWB : Below W0.heap.size W0 (w7 E z0 tl w q n lf) := hbel.trans (B5.mono hbel.size)
  have hblx := hbl.below B5
  refine ⟨⟨hWB, hlow, hbq, hblx, hbm.below B5, ?_, e1', e2', e3', e4, by simp, by simp, fun j hj => ?_⟩, e4.cell 0, hblx.cell 0⟩
  · rw [← EO_cells]
    exact e0'
  · rw [List.getElem?_replicate] at hj
    split at hj <;> simp at hj
set_option maxHeartbeats 4000000 in
theorem whole24 {w : World} {u : Value} {cs : List Cd} {made : Cd → List Bool → Bool} {x' y' : Nat} (hm : MadeO w x' y' made) (hcs : LC w u cs) (h0 : 0 < cs.length) (hn : cs.length ≤ 1000) (hk : ∀ x ∈ cs, x.kids.length + 1 ≤ 100000000000000) :
    Calls Tryd.prog 24 #[u, mf25 x' y'] w fun e w' => e = .returned (.bool (resN made false cs (cs.length - 1))) ∧ Below w.heap.size w w' := by
  obtain ⟨ua, uc, rfl⟩ := hcs.form
  have L39 := fun (b q : Nat) => look39 (b := b) (q := q) (res := resN made false cs) hm hcs rfl hk (fun i x hx => resN_of made false cs hx)
  generalize cs.length = n at *
  have a1 := T.al w (.cells #[.slice ua n uc] 22)
  have a2 := T.al (w.alloc (.cells #[.slice ua n uc] 22)) (.cells #[mf25 x' y'] 68)
  obtain ⟨g3, g4, g5⟩ := w7_ok (E := EO) (z0 := false) (tl := 89) (tm := 68) (res := resN made false cs) (W0 := w) (w := (w.alloc (.cells #[.slice ua n uc] 22)).alloc (.cells #[mf25 x' y'] 68)) (b := w.heap.size) (q := w.heap.size + 1 + 1) (n := n) (u := .slice ua n uc) (mf := mf25 x' y') (lf39 w.heap.size (w.heap.size + 1 + 1)) (bmore a1 a2) (Nat.le_refl _) (Nat.le_refl _) (by simp) ((T.blk_new w [.slice ua n uc] 22).below a2) (T.blk_at (w.alloc (.cells #[.slice ua n uc] 22)) [mf25 x' y'] 68 (by simp))
  have k39 := L39 w.heap.size (w.heap.size + 1 + 1) (n - 1) (by omega) _ _ _ g3
  have HB : Hid (Below w.heap.size w _) := g3.bel
  have hn1 : ((n - 1 : Nat) : Int) = (n : Int) - 1 := by omega
  rw [hn1] at k39
  have hw1 : IntKind.i64.wrap ((n : Int) - 1) = (n : Int) - 1 := wrap_small _ (by omega) (by omega)
  have c4 : (((((((w.alloc (.cells #[.slice ua n uc] 22)).alloc (.cells #[mf25 x' y'] 68)).alloc (.cells (EO.cells (List.replicate n false)).toArray EO.tE)).alloc (.cells #[.slice (some ⟨w.heap.size + 1 + 1, 0, none⟩) n n] 65)).alloc (.cells (EO.cells (List.replicate n false)).toArray EO.tE)).alloc (.cells #[.slice (some ⟨w.heap.size + 1 + 1 + 1 + 1, 0, none⟩) n n] 65)).alloc (.cells #[.func (.func 39) #[] #[.pointer (some ⟨w.heap.size + 1 + 1 + 1, 0, none⟩), .pointer (some ⟨w.heap.size + 1 + 1 + 1 + 1 + 1, 0, none⟩), .pointer (some ⟨w.heap.size, 0, none⟩), .pointer (some ⟨w.heap.size + 1 + 1 + 1 + 1 + 1 + 1, 0, none⟩), .pointer (some ⟨w.heap.size + 1, 0, none⟩)]] 89)).cell? ⟨w.heap.size + 1 + 1 + 1 + 1 + 1 + 1, 0, none⟩ = some (.func (.func 39) #[] #[.pointer (some ⟨w.heap.size + 1 + 1 + 1, 0, none⟩), .pointer (some ⟨w.heap.size + 1 + 1 + 1 + 1 + 1, 0, none⟩), .pointer (some ⟨w.heap.size, 0, none⟩), .pointer (some ⟨w.heap.size + 1 + 1 + 1 + 1 + 1 + 1, 0, none⟩), .pointer (some ⟨w.heap.size + 1, 0, none⟩)]) := g4
  have c5 : (((((((w.alloc (.cells #[.slice ua n uc] 22)).alloc (.cells #[mf25 x' y'] 68)).alloc (.cells (EO.cells (List.replicate n false)).toArray EO.tE)).alloc (.cells #[.slice (some ⟨w.heap.size + 1 + 1, 0, none⟩) n n] 65)).alloc (.cells (EO.cells (List.replicate n false)).toArray EO.tE)).alloc (.cells #[.slice (some ⟨w.heap.size + 1 + 1 + 1 + 1, 0, none⟩) n n] 65)).alloc (.cells #[.func (.func 39) #[] #[.pointer (some ⟨w.heap.size + 1 + 1 + 1, 0, none⟩), .pointer (some ⟨w.heap.size + 1 + 1 + 1 + 1 + 1, 0, none⟩), .pointer (some ⟨w.heap.size, 0, none⟩), .pointer (some ⟨w.heap.size + 1 + 1 + 1 + 1 + 1 + 1, 0, none⟩), .pointer (some ⟨w.heap.size + 1, 0, none⟩)]] 89)).cell? ⟨w.heap.size, 0, none⟩ = some (.slice ua n uc) := g5
  have k39' : Calls Tryd.prog 39 #[.int .i64 ((n : Int) - 1), .pointer (some ⟨w.heap.size + 1 + 1 + 1, 0, none⟩), .pointer (some ⟨w.heap.size + 1 + 1 + 1 + 1 + 1, 0, none⟩), .pointer (some ⟨w.heap.size, 0, none⟩), .pointer (some ⟨w.heap.size + 1 + 1 + 1 + 1 + 1 + 1, 0, none⟩), .pointer (some ⟨w.heap.size + 1, 0, none⟩)] (((((((w.alloc (.cells #[.slice ua n uc] 22)).alloc (.cells #[mf25 x' y'] 68)).alloc (.cells (EO.cells (List.replicate n false)).toArray EO.tE)).alloc (.cells #[.slice (some ⟨w.heap.size + 1 + 1, 0, none⟩) n n] 65)).alloc (.cells (EO.cells (List.replicate n false)).toArray EO.tE)).alloc (.cells #[.slice (some ⟨w.heap.size + 1 + 1 + 1 + 1, 0, none⟩) n n] 65)).alloc (.cells #[.func (.func 39) #[] #[.pointer (some ⟨w.heap.size + 1 + 1 + 1, 0, none⟩), .pointer (some ⟨w.heap.size + 1 + 1 + 1 + 1 + 1, 0, none⟩), .pointer (some ⟨w.heap.size, 0, none⟩), .pointer (some ⟨w.heap.size + 1 + 1 + 1 + 1 + 1 + 1, 0, none⟩), .pointer (some ⟨w.heap.size + 1, 0, none⟩)]] 89)) _ := k39
  clear g3 g4 g5 a1 a2 hm hcs hk L39 k39
  go_enter Tryd.func24, Tryd.ntmps24
  go_wp2_with (first
    | (at_make; refine wpList_mk EO false rfl rfl (.tmp 9) (.tmp 9) 65 rfl rfl n rfl rfl (by omega) ?_)
    | (at_make; refine wpList_mk EO false rfl rfl (.tmp 12) (.tmp 12) 65 rfl rfl n rfl rfl (by omega) ?_)
    | (go_at_call 39; (refine Calls.mono k39' ?_; rintro e w9 ⟨rfl, ⟨kn9, ks9, h9⟩, _⟩; have H9 : Hid (Below w.heap.size w w9) := h9.bel; clear h9)))
  go_ret
  exact ⟨rfl, H9.out⟩
end Go.Proofs.YtipnaphikbjhbaaDoor
