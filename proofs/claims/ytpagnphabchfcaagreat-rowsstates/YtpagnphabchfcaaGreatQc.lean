/- The document's Sorted. -/
import Derived.Test.YtpagnphabchfcaaGreatQb
namespace Go.Proofs.YtpagnphabchfcaaGreat
open Go.RowKit Go.Shelf
set_option maxRecDepth 100000
theorem cellsE_set : ∀ (es : List El) (k : Nat) (e : El), k < es.length → cellsE (es.set k e) = (((cellsE es).set (k * 3) e.1).set (k * 3 + 1) (.int .i64 e.2.2.1)).set (k * 3 + 2) (.int .i64 e.2.2.2)
  | [], k, e, h => by simp at h
  | x :: l, 0, e, _ => by simp [cellsE, encE]
  | x :: l, k + 1, e, h => by
    have ih := cellsE_set l k e (by simpa using h)
    rw [List.set_cons_succ, show cellsE (x :: l.set k e) = x.1 :: .int .i64 x.2.2.1 :: .int .i64 x.2.2.2 :: cellsE (l.set k e) by simp [cellsE, encE], show cellsE (x :: l) = x.1 :: .int .i64 x.2.2.1 :: .int .i64 x.2.2.2 :: cellsE l by simp [cellsE, encE], show (k + 1) * 3 = k * 3 + 1 + 1 + 1 by omega, ih]
    rfl
theorem ownR_blk {w : World} {B g n c : Nat} {es : List El} (h : OwnR w B (.slice (some ⟨g, 0, none⟩) n c) es) : ∃ cur : List Value, Blk w g cur 64 ∧ B ≤ g ∧ n = es.length ∧ cur.take (n * 3) = cellsE es ∧ es.length * 3 ≤ cur.length := by
  have hf := h.rl.form
  obtain ⟨a, c', hf⟩ := hf
  cases hf
  have hlen := cellsE_length es
  obtain ⟨hl, h | ⟨g', cap, cur, hv, hg, hb, h1, h2, h3, h4⟩⟩ := h.row
  · simp at h
  · simp only [Value.slice.injEq, Option.some.injEq, Addr.mk.injEq] at hv
    obtain ⟨⟨rfl, _, _⟩, _, rfl⟩ := hv
    refine ⟨cur.toList, hb, hg, rfl, ?_, ?_⟩
    · exact h4
    · have : (cur.toList.take (es.length * 3)).length = es.length * 3 := by rw [h4, hlen]
      rw [List.length_take] at this
      omega
theorem ownR_frozen {w : World} {B g n c : Nat} {es : List El} (h : OwnR w B (.slice (some ⟨g, 0, none⟩) n c) es) (j : Nat) : w.frozen? ⟨g, j, none⟩ = false := by
  obtain ⟨cur, hb, _⟩ := ownR_blk h
  exact hb.frozen j
theorem ownR_at3 {w : World} {B g n c : Nat} {es : List El} (h : OwnR w B (.slice (some ⟨g, 0, none⟩) n c) es) {k : Nat} {e : El} (hy : es[k]? = some e) : w.cell? ⟨g, k * 3, none⟩ = some e.1 ∧ w.cell? ⟨g, k * 3 + 1, none⟩ = some (.int .i64 e.2.2.1) ∧ w.cell? ⟨g, k * 3 + 2, none⟩ = some (.int .i64 e.2.2.2) := by
  have := RL.at3 h.rl hy
  simpa using this
def set3 (w : World) (g k : Nat) (e : El) : World := ((w.setCell ⟨g, k * 3, none⟩ e.1).setCell ⟨g, k * 3 + 1, none⟩ (.int .i64 e.2.2.1)).setCell ⟨g, k * 3 + 2, none⟩ (.int .i64 e.2.2.2)
theorem set3_keep (w : World) (g k : Nat) (e : El) : Keep (fun b => b = g) w (set3 w g k e) := Keep.set (F := fun b => b = g) (Keep.set (F := fun b => b = g) (Keep.set (F := fun b => b = g) (Keep.refl _ _) (.inr rfl) _) (.inr rfl) _) (.inr rfl) _
theorem ownR_set3 {w : World} {B g n c k : Nat} {es : List El} (h : OwnR w B (.slice (some ⟨g, 0, none⟩) n c) es) (hk : k < es.length) (e : El) (hsv : SV w (fun b => b = g) e.1 e.2.1) :
    OwnR (set3 w g k e) B (.slice (some ⟨g, 0, none⟩) n c) (es.set k e) := by
  have hv := h.vals
  have hk' := set3_keep w g k e
  have hf := h.rl.form
  obtain ⟨a, c', hf⟩ := hf
  cases hf
  refine ⟨?_, fun x hx => ?_⟩
  · have hlen := cellsE_length es
    obtain ⟨hl, h | ⟨g', cap, cur, hv, hg, hb, h1, h2, h3, h4⟩⟩ := h.row
    · simp at h
    · simp only [Value.slice.injEq, Option.some.injEq, Addr.mk.injEq] at hv
      obtain ⟨⟨rfl, _, _⟩, _, rfl⟩ := hv
      have hb' : Blk w g cur.toList 64 := hb
      have hb3 : Blk (Go.Proofs.YtpagnphabchfcaaGreat.set3 w g k e) g (((cur.toList.set (k * 3) e.1).set (k * 3 + 1) (.int .i64 e.2.2.1)).set (k * 3 + 2) (.int .i64 e.2.2.2)) 64 := ((hb'.set _).set _).set _
      refine ⟨by rw [cellsE_length], .inr ⟨g, c, _, by rw [List.length_set], hg, hb3, by rw [List.length_set]; exact h1, h2, ?_, ?_⟩⟩
      · simpa using h3
      · simp only [List.length_set]
        rw [cellsE_set es k e hk, ← h4]
        simp [List.take_set]
  · have hs : SV w (fun b => b = g) x.1 x.2.1 := by
      rcases List.mem_or_eq_of_mem_set hx with hx | rfl
      · exact (hv x hx).mono (fun b _ q => by subst q; rfl)
      · exact hsv
    exact hs.keep hk' (fun b _ q => by cases q; rfl)
end Go.Proofs.YtpagnphabchfcaaGreat
