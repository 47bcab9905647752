/- Parts of a tree in memory: which pairs they hold. -/
import Derived.Test.YtgimjjlkniplnaaRa
import Derived.Test.YtgimjjlkniplnaaPl
namespace Go.Proofs.Ytgimjjlkniplnaa
open Go.RowKit Go.Shelf
set_option maxRecDepth 100000
/-- Pairs. -/
def EP : Ety Pr where
  m := 2
  enc := fun x => [.string x.1, .string x.2]
  tE := 33
  tS := 37
  z := .agg #[.string { data := #[] }, .string { data := #[] }]
  bytes := 32
  len := fun _ => rfl
  one := fun x u h => by simp at h; rcases h with rfl | rfl <;> rfl
  und := Try.underlying37
  info := by kernel_rfl
  zs := rfl
  pos := by decide
  by32 := by decide
/-- Pairs of a leaf. -/
def EL : Ety Pr where
  m := 2
  enc := fun x => [.string x.1, .string x.2]
  tE := 33
  tS := 64
  z := .agg #[.string { data := #[] }, .string { data := #[] }]
  bytes := 32
  len := fun _ => rfl
  one := fun x u h => by simp at h; rcases h with rfl | rfl <;> rfl
  und := Try.underlying64
  info := by kernel_rfl
  zs := rfl
  pos := by decide
  by32 := by decide
/-- Parts: of which type, and what. -/
abbrev Bx := Nat × Value
abbrev bxV (x : Bx) : Value := .iface x.1 x.2
def EK : Ety Bx where
  m := 1
  enc := fun x => [.iface x.1 x.2]
  tE := 60
  tS := 69
  z := .nilIface
  bytes := 16
  len := fun _ => rfl
  one := fun x u h => by simp at h; subst h; rfl
  und := Try.underlying69
  info := by kernel_rfl
  zs := rfl
  pos := by decide
  by32 := by decide
/-- The key that comes first. -/
def fst (kv : List Pr) : ByteArray := (kv.headD (.empty, .empty)).1
abbrev Kd := Bx × List Pr
def flat (ks : List Kd) : List Pr := (ks.map (·.2)).flatten
/-- A part of that height, with so many of its own, that holds these pairs. -/
def Part (w : World) : Nat → Nat → Bx → List Pr → Prop
  | 0, n, x, kv => x.1 = 64 ∧ LV EP w x.2 kv ∧ kv.length = n
  | h + 1, n, x, kv => ∃ (sl : Value) (ks : List Kd), x = (72, .agg #[sl, .string (fst kv), .int .i64 (kv.length : Int)]) ∧ LV EK w sl (ks.map (·.1)) ∧ ks.length = n ∧ 0 < n ∧ kv = flat ks ∧ ∀ k ∈ ks, ∃ m, 4 ≤ m ∧ m ≤ 8 ∧ Part w h m k.1 k.2
theorem Part.below {w w' : World} (b : Below w.heap.size w w') : ∀ {h n : Nat} {x : Bx} {kv : List Pr}, Part w h n x kv → Part w' h n x kv
  | 0, _, _, _, ⟨h1, h2, h3⟩ => ⟨h1, h2.below b, h3⟩
  | _ + 1, _, _, _, ⟨sl, ks, h1, h2, h3, h4, h5, h6⟩ => ⟨sl, ks, h1, h2.below b, h3, h4, h5, fun k hk => by obtain ⟨m, q1, q2, q3⟩ := h6 k hk; exact ⟨m, q1, q2, q3.below b⟩⟩
theorem flat_len : ∀ {ks : List Kd}, (∀ k ∈ ks, 1 ≤ k.2.length) → ks.length ≤ (flat ks).length
  | [], _ => by simp [flat]
  | a :: l, hh => by
    have h1 := hh a (by simp)
    have h2 := @flat_len l (fun k hk => hh k (by simp [hk]))
    simp only [flat, List.map_cons, List.flatten_cons, List.length_append, List.length_cons] at h2 ⊢
    omega
theorem Part.len {w : World} : ∀ {h n : Nat} {x : Bx} {kv : List Pr}, Part w h n x kv → n ≤ kv.length
  | 0, _, _, _, ⟨_, _, h3⟩ => Nat.le_of_eq h3.symm
  | h + 1, _, _, _, ⟨sl, ks, _, _, h3, _, h5, h6⟩ => by
    subst h3 h5
    exact flat_len fun k hk => by
      obtain ⟨m, q1, _, q3⟩ := h6 k hk
      have := Part.len q3
      omega
theorem first90 {w : World} {v : Value} {kv : List Pr} (h : LV EP w v kv) (h0 : 0 < kv.length) : Calls Try.prog 90 #[v] w fun e w' => e = .returned (.string (fst kv)) ∧ w = w' := by
  obtain ⟨a, c, rfl⟩ := h.form
  obtain ⟨p, hp⟩ : ∃ p, kv[0]? = some p := ⟨_, List.getElem?_eq_getElem h0⟩
  obtain ⟨g, o, rfl, hc⟩ := h.at hp
  have c0 := hc 0 (by decide)
  have hf : fst kv = p.1 := by cases kv with | nil => cases hp | cons a l => cases hp; rfl
  have h1 : (0 : Int) < (kv.length : Int) := by omega
  simp only [EP, Nat.zero_mul, Nat.add_zero, List.getElem?_cons_zero] at c0
  rw [hf]
  go_enter Try.func90, Try.ntmps90
  go_wp2
  go_ret
  exact ⟨rfl, rfl⟩
theorem count89 (a : Option Addr) (n c : Nat) (w : World) : Calls Try.prog 89 #[.slice a n c] w fun e w' => e = .returned (.int .i64 (n : Int)) ∧ w = w' := by
  go_enter Try.func89, Try.ntmps89
  go_wp2
  go_ret
  exact ⟨rfl, rfl⟩
theorem size91 (a : Option Addr) (n c : Nat) (w : World) : Calls Try.prog 91 #[.slice a n c] w fun e w' => e = .returned (.int .i64 (n : Int)) ∧ w = w' := by
  go_enter Try.func91, Try.ntmps91
  go_wp2
  go_ret
  exact ⟨rfl, rfl⟩
theorem count92 (a : Option Addr) (n c : Nat) (s : ByteArray) (x : Int) (w : World) : Calls Try.prog 92 #[.agg #[.slice a n c, .string s, .int .i64 x]] w fun e w' => e = .returned (.int .i64 x) ∧ Below w.heap.size w w' := by
  go_enter Try.func92, Try.ntmps92
  go_wp2
  go_ret
  exact ⟨rfl, al _ _⟩
theorem first93 (a : Option Addr) (n c : Nat) (s : ByteArray) (x : Int) (w : World) : Calls Try.prog 93 #[.agg #[.slice a n c, .string s, .int .i64 x]] w fun e w' => e = .returned (.string s) ∧ Below w.heap.size w w' := by
  go_enter Try.func93, Try.ntmps93
  go_wp2
  go_ret
  exact ⟨rfl, al _ _⟩
theorem size94 (a : Option Addr) (n c : Nat) (s : ByteArray) (x : Int) (w : World) : Calls Try.prog 94 #[.agg #[.slice a n c, .string s, .int .i64 x]] w fun e w' => e = .returned (.int .i64 (n : Int)) ∧ Below w.heap.size w w' := by
  go_enter Try.func94, Try.ntmps94
  go_wp2
  go_ret
  exact ⟨rfl, al _ _⟩
end Go.Proofs.Ytgimjjlkniplnaa
