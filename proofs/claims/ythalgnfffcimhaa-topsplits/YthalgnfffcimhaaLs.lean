/- Less. -/
import Derived.Test.YthalgnfffcimhaaSa
namespace Go.Proofs.Ythalgnfffcimhaa
open Go.Shelf Go.RowKit
set_option maxRecDepth 100000
def lenV : Value → Nat
  | .slice _ n _ => n
  | _ => 0
def CapOk (v : Value) : Prop := ∀ a n c, v = .slice a n c → n ≤ c
theorem SV.old {w : World} {v : Value} {vs : List Vt} (h : SV w (fun _ => False) v vs) : SV w (fun b => w.heap.size ≤ b) v vs := by
  obtain ⟨a, c, rfl, h⟩ := h
  refine ⟨a, c, rfl, fun h0 => ?_⟩
  obtain ⟨g, o, rfl, hg, _, hc⟩ := h h0
  exact ⟨g, o, rfl, hg, by omega, hc⟩
theorem RL.old {w : World} {v : Value} {es : List El} (h : RL w (fun _ => False) v es) : RL w (fun b => w.heap.size ≤ b) v es := by
  refine ⟨?_, fun e he => (h.vals e he).old⟩
  obtain ⟨a, c, rfl, hh⟩ := h.at'
  refine ⟨a, c, rfl, fun h0 => ?_⟩
  obtain ⟨g, o, rfl, hg, _, hc⟩ := hh h0
  exact ⟨g, o, rfl, hg, by omega, hc⟩
theorem OwnR.cap {w : World} {B : Nat} {v : Value} {es : List El} (h : OwnR w B v es) : CapOk v := by
  intro a n c hv
  obtain ⟨_, ⟨rfl, _⟩ | ⟨g, cap, cur, rfl, _, _, hnc, _⟩⟩ := h.row
  · cases hv; exact Nat.le_refl _
  · cases hv; exact hnc
/-- Without the first one. -/
theorem RL.tail {w : World} {X : Nat → Prop} {a : Option Addr} {n c : Nat} {e : El} {es : List El} (h : RL w X (.slice a n c) (e :: es)) (hc : n ≤ c) : n = es.length + 1 ∧ RL w X (.slice (if c = 1 then a else Option.map (fun x => x.add 3) a) (n - 1) (c - 1)) es := by
  obtain ⟨a', c', hv, hh⟩ := h.at'
  simp only [Value.slice.injEq, List.length_cons] at hv
  obtain ⟨rfl, rfl, rfl⟩ := hv
  refine ⟨rfl, ?_, fun x hx => h.vals x (by simp [hx])⟩
  refine ⟨if c = 1 then a else Option.map (fun x => x.add 3) a, c - 1, by rw [Nat.add_sub_cancel], fun h0 => ?_⟩
  obtain ⟨g, o, rfl, hg, hx, hce⟩ := hh (by simp)
  refine ⟨g, o + 3, by rw [if_neg (by omega), Option.map_some, Addr.add_mid], hg, hx, fun i s hs => ?_⟩
  have := hce (i + 1) s (by simpa using hs)
  rw [show o + (i + 1) * 3 = o + 3 + i * 3 by omega] at this
  exact this
theorem RL.head {w : World} {X : Nat → Prop} {a : Option Addr} {n c : Nat} {e : El} {es : List El} (h : RL w X (.slice a n c) (e :: es)) : ∃ g o, a = some ⟨g, o, none⟩ ∧ g < w.heap.size ∧ w.cell? ⟨g, o, none⟩ = some e.1 ∧ w.cell? ⟨g, o + 1, none⟩ = some (.int .i64 e.2.2.1) ∧ w.cell? ⟨g, o + 2, none⟩ = some (.int .i64 e.2.2.2) := by
  obtain ⟨g, o, h1, h2, _, h3, h4, h5⟩ := h.get (k := 0) rfl
  rw [Nat.zero_mul, Nat.add_zero] at h3 h4 h5
  exact ⟨g, o, h1, h2, h3, h4, h5⟩
theorem RL.tail' {w : World} {X : Nat → Prop} {g o n c : Nat} {e : El} {es : List El} (h : RL w X (.slice (some ⟨g, o, none⟩) n c) (e :: es)) (hc : n ≤ c) : RL w X (.slice (if c = 1 then some ⟨g, o, none⟩ else some ⟨g, o + 3, none⟩) es.length (c - 1)) es := by
  obtain ⟨h1, h2⟩ := RL.tail h hc
  rw [h1, Nat.add_sub_cancel, Option.map_some, Addr.add_mid] at h2
  exact h2
theorem al3 (w : World) (v : Value) (f t : Int) : Below w.heap.size w (w.alloc (.cells #[v, .int .i64 f, .int .i64 t] 30)) := al _ _
def LPost (w : World) (l : List Rw) (e : Ending) (w' : World) : Prop := ∃ v1 x1, e = .returned v1 ∧ OwnR w' w.heap.size v1 x1 ∧ rws x1 = l ∧ Below w.heap.size w w'
end Go.Proofs.Ythalgnfffcimhaa
