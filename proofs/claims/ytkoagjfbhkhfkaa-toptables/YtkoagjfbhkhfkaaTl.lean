/- The law TopTables. -/
import Derived.Test.YtkoagjfbhkhfkaaCn
namespace Go.Proofs.Ytkoagjfbhkhfkaa
open Go.RowKit Go.Lib
set_option maxRecDepth 100000
variable {w w' : World} {c m : Nat} {nv : Value} {E : List En}
theorem get5_any (h : Cat w c m nv E) (s : ByteArray) (hs : s.size ≤ 100000) :
    Calls Try.prog 5 #[.pointer (some ⟨c, 0, none⟩), .string s] w fun e w' => ∃ a va vl vc b r, e = .returned (.tuple #[TB a (.slice va vl vc) b r, .bool (fnd E (bs s)).isSome]) ∧ Below w.heap.size w w' := by
  cases hf : fnd E (bs s) with
  | none => exact (get5_none h s hs hf).mono fun e w' ⟨h1, h2⟩ => ⟨_, _, _, _, _, _, h1, h2⟩
  | some x => exact (get5_some h s hs hf).mono fun e w' ⟨g, h1, _, _, h2⟩ => ⟨_, _, _, _, _, _, h1, h2⟩
theorem create6_any (h : Cat w c m nv E) (n p : ByteArray) (v : Value) (l : List Cl) (r : Int) (hv : SC w v l) (hl : l.length ≤ 1000) (hn : n.size ≤ 100000) (hp : p.size ≤ 100000) (hns : ∀ x ∈ l, x.1.length ≤ 100000) :
    Calls Try.prog 6 #[.pointer (some ⟨c, 0, none⟩), TB n v p r] w fun e w' => e = .returned (.int .i64 (refuse E ⟨bs n, l, bs p, r⟩)) ∧ ∃ nv' E', Cat w' c m nv' E' ∧ Keep (foot c m nv) w w' ∧ (∀ k, foot c m nv' k → foot c m nv k ∨ w.heap.size ≤ k) ∧
      ((refuse E ⟨bs n, l, bs p, r⟩ ≠ 0 ∧ E' = E) ∨ (refuse E ⟨bs n, l, bs p, r⟩ = 0 ∧ ∃ g, E' = (⟨bs n, l, bs p, r⟩, g) :: E)) := by
  by_cases hr : refuse E ⟨bs n, l, bs p, r⟩ = 0
  · refine (create6_yes h n p v l r hv hl hn hp hns hr).mono fun e w' ⟨h1, nv', g, h2, h3, h4, _⟩ => ⟨by rw [hr]; exact h1, nv', _, h2, h3, h4, .inr ⟨hr, g, rfl⟩⟩
  · exact (create6_no h n p v l r hv hl hn hp hns hr).mono fun e w' ⟨h1, h2⟩ => ⟨h1, nv, E, h.below h2, Keep.of h2, fun k hk => .inl hk, .inl ⟨hr, rfl⟩⟩
def PS (w : World) (v : Value) (l : List (UInt8 × UInt8)) : Prop := ∃ a c, v = .slice a l.length c ∧ (0 < l.length → ∃ g o, a = some ⟨g, o, none⟩ ∧ g < w.heap.size ∧ ∀ i x, l[i]? = some x → w.cell? ⟨g, o + i * 2, none⟩ = some (.int .u8 (x.1.toNat : Int)) ∧ w.cell? ⟨g, o + i * 2 + 1, none⟩ = some (.int .u8 (x.2.toNat : Int)))
/-- The four names. -/
def nm (q : Nat) : Bs := [97 + UInt8.ofNat q]
def kr : List Cl := [([107], 1), ([114], 1)]
theorem right_nm (q : Nat) (hq : q < 4) : rtB (nm q) kr [] 0 = true := by
  rcases q with _ | _ | _ | _ | q
  · decide +kernel
  · decide +kernel
  · decide +kernel
  · decide +kernel
  · omega
theorem right_nm2 (q s : Nat) (hq : q < 4) (hs : s < 4) : rtB (nm q) kr (nm s) 1 = true := by
  have h1 : nameR (nm s) = true := by
    have := right_nm s hs
    simp only [rtB, Bool.and_eq_true] at this
    exact this.1.1
  have h2 := right_nm q hq
  simp only [rtB, Bool.and_eq_true] at h2 ⊢
  exact ⟨h2.1, by simp [rpB, nm, kr]; exact h1⟩
theorem names4 {j : Nat} (hj : j < 4) : ([Value.string ⟨#[97]⟩, .string ⟨#[98]⟩, .string ⟨#[99]⟩, .string ⟨#[100]⟩] : List Value)[j]? = some (.string (str (nm j))) := by
  rcases j with _ | _ | _ | _ | j
  · rfl
  · rfl
  · rfl
  · rfl
  · omega
/-- What Create answers here. -/
theorem refuse_kr (hE : ∀ x ∈ E, x.1.cols = kr) {q : Bs} {p : Bs} {r : Int} (hr : rtB q kr p r = true) (h1 : p = [] ∨ r = 1) :
    refuse E ⟨q, kr, p, r⟩ = if (fnd E q).isSome then 6 else if 3 ≤ E.length then 4 else if p = [] then 0 else if (fnd E p).isSome then 0 else 5 := by
  unfold refuse
  simp only [hr, Bool.true_eq_false, if_false]
  split
  · rfl
  · split
    · rfl
    · split
      · rfl
      · rename_i h3
        rcases h1 with h1 | rfl
        · exact absurd h1 h3
        · cases hf : fnd E p with
          | none => simp
          | some x =>
            have := hE x (fnd_mem hf).1
            simp [this, kr, kindAt]
end Go.Proofs.Ytkoagjfbhkhfkaa
