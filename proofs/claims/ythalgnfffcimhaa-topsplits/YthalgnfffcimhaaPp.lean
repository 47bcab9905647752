/- How many rows there are on the way; what is held on the way. -/
import Derived.Test.YthalgnfffcimhaaPk
namespace Go.Proofs.Ythalgnfffcimhaa
open Go.RowKit Go.Shelf
set_option maxRecDepth 100000
noncomputable abbrev upL (cs : List Cl) (ss : List Se) (a b : Int) (L : List Rw) : List Rw := canonR (missR a b L ++ (outR a b L ++ (inR a b L).map (setR cs ss)))
noncomputable abbrev deL (a b : Int) (L : List Rw) : List Rw := canonR (missR a b L ++ outR a b L)
structure Few3 (cs : List Cl) (ss : List Se) (a b : Int) (L : List Rw) : Prop where
  l : L.length ≤ 1
  u : (upL cs ss a b L).length ≤ 10
  d : (deL a b L).length ≤ 10
  i : (inR a b L).length ≤ 1
theorem few3_of {cs : List Cl} {ss : List Se} {a b : Int} {L : List Rw} (h : L.length ≤ 1) : Few3 cs ss a b L := by
  match L, h with
  | [], _ => refine ⟨by simp, ?_, ?_, ?_⟩ <;> simp [upL, deL, missR, outR, inR, canon_nil]
  | [r], _ =>
    have ho : (outR a b [r]).length ≤ 2 := by have := lists_len a b [r] 1; simpa [lists] using this
    have hi : (inR a b [r]).length ≤ 1 := sliceR_len a b [r]
    have key : (missR a b [r]).length + (outR a b [r]).length + (inR a b [r]).length ≤ 3 ∧ (missR a b [r]).length + (outR a b [r]).length ≤ 2 := by
      cases hh : hitB a b r
      · simp [missR, outR, inR, cutR, hh]
      · have : missR a b [r] = [] := by simp [missR, hh]
        rw [this]
        simp only [List.length_nil]
        omega
    refine ⟨by simp, ?_, ?_, hi⟩
    · refine Nat.le_trans (canon_len _) ?_
      have : (missR a b [r] ++ (outR a b [r] ++ (inR a b [r]).map (setR cs ss))).length ≤ 3 := by
        simp only [List.length_append, List.length_map]; omega
      exact Nat.le_trans (Nat.mul_le_mul this this) (by decide)
    · refine Nat.le_trans (canon_len _) ?_
      have : (missR a b [r] ++ outR a b [r]).length ≤ 2 := by
        simp only [List.length_append]; omega
      exact Nat.le_trans (Nat.mul_le_mul this this) (by decide)
theorem few3 (cs : List Cl) (ss : List Se) (a b : Int) (vl : List Vt) (f t : Int) : Few3 cs ss a b (canonR [(vl, f, t)]) := by
  refine few3_of ?_
  have := canon_len [(vl, f, t)]
  simpa using this
theorem vals_canon {l : List Rw} {n : Nat} (h : ∀ r ∈ l, r.1.length ≤ n) : ∀ r ∈ canonR l, r.1.length ≤ n := fun r hr => by
  obtain ⟨q, hq, e⟩ := canon_mem l hr
  rw [← e]
  exact h q hq
theorem vals_up {cs : List Cl} {ss : List Se} {a b : Int} {l : List Rw} {n : Nat} (h : ∀ r ∈ l, r.1.length ≤ n) : ∀ r ∈ upL cs ss a b l, r.1.length ≤ n := by
  obtain ⟨h1, h2, h3⟩ := lists_vals (a := a) (b := b) h
  refine vals_canon fun r hr => ?_
  rcases List.mem_append.1 hr with hr | hr
  · exact h1 r hr
  rcases List.mem_append.1 hr with hr | hr
  · exact h2 r hr
  · obtain ⟨q, hq, rfl⟩ := List.mem_map.1 hr
    show (setsV cs ss q.1).length ≤ n
    rw [setsV_len]
    exact h3 q hq
theorem vals_de {a b : Int} {l : List Rw} {n : Nat} (h : ∀ r ∈ l, r.1.length ≤ n) : ∀ r ∈ deL a b l, r.1.length ≤ n := by
  obtain ⟨h1, h2, h3⟩ := lists_vals (a := a) (b := b) h
  refine vals_canon fun r hr => ?_
  rcases List.mem_append.1 hr with hr | hr
  · exact h1 r hr
  · exact h2 r hr
theorem vals_one (k v : Vt) (f t : Int) : ∀ r ∈ canonR [([k, v], f, t)], r.1.length ≤ 1000 := vals_canon fun r hr => by simp only [List.mem_singleton] at hr; subst hr; simp
abbrev vL (x : Vt) : List Value := [.int .u8 x.1, .int .i64 x.2.1, .string x.2.2]
def zf : Nat → Value
  | 0 => .int .u8 3
  | 2 => .slice none 0 0
  | 4 => .int .i64 0
  | 6 => .slice none 0 0
  | 12 => .slice none 0 0
  | 17 => .int .u8 0
  | 18 => .int .i64 0
  | 19 => .int .i64 0
  | _ => .string { data := #[] }
/-- The columns k and a, the sets of a. -/
abbrev ca : ByteArray := { data := #[97] }
abbrev ck : ByteArray := { data := #[107] }
abbrev cs2 (i j : Int) : List Cl := [(ck, i), (ca, j)]
theorem col_a (i j : Int) : colI (cs2 i j) ca = 1 := by
  have h : colN (cs2 i j) ca = 1 := by
    unfold colN
    simp [List.findIdx_cons]
  simp [colI, h]
theorem set_a (i j : Int) (k v u : Vt) : setsV (cs2 i j) [(ca, u)] [k, v] = [k, u] := by
  show setOne (cs2 i j) [k, v] (ca, u) = _
  unfold setOne
  simp only [col_a]
  simp
/-- What is held on the way. -/
structure Sc (W : World) (k v u : Vt) (a b : Int) (lv : Value) (x : List El) (gt gb g1 g2 gc gp gk : Nat) : Prop where
  to : Blk W gt (stL zf (.slice (some ⟨g1, 0, none⟩) 1 1) none 0 a b) 47
  back : Blk W gb (stL zf (.slice (some ⟨g2, 0, none⟩) 1 1) none 0 a b) 47
  s1 : Blk W g1 [.string ca, .int .u8 u.1, .int .i64 u.2.1, .string u.2.2] 38
  s2 : Blk W g2 [.string ca, .int .u8 v.1, .int .i64 v.2.1, .string v.2.2] 38
  co : Blk W gc [.string ck, .int .u8 k.1, .string ca, .int .u8 v.1] 34
  p : Blk W gp [.int .i64 a, .int .i64 b] 27
  k : Blk W gk (vL k) 24
  l : RL W (fun _ => False) lv x
theorem Sc.below {W W' : World} {k v u : Vt} {a b : Int} {lv : Value} {x : List El} {gt gb g1 g2 gc gp gk : Nat} (h : Sc W k v u a b lv x gt gb g1 g2 gc gp gk) (q : Below W.heap.size W W') : Sc W' k v u a b lv x gt gb g1 g2 gc gp gk :=
  ⟨h.to.below q, h.back.below q, h.s1.below q, h.s2.below q, h.co.below q, h.p.below q, h.k.below q, h.l.below q⟩
theorem so_of {W : World} {g : Nat} {u : Vt} (h : Blk W g [.string ca, .int .u8 u.1, .int .i64 u.2.1, .string u.2.2] 38) : SO W g [(ca, u)] := ⟨fun i x hx => by
  match i with
  | 0 => cases hx; exact ⟨h.cell 0, h.cell 1, h.cell 2, h.cell 3⟩
  | i + 1 => simp at hx⟩
theorem co_of {W : World} {g : Nat} {i j : Int} (h : Blk W g [.string ck, .int .u8 i, .string ca, .int .u8 j] 34) : CO W g (cs2 i j) := ⟨fun n x hx => by
  match n with
  | 0 => cases hx; exact ⟨h.cell 0, h.cell 1⟩
  | 1 => cases hx; exact ⟨h.cell 2, h.cell 3⟩
  | n + 2 => simp at hx⟩
theorem up_of {W : World} {k v u : Vt} {a b : Int} {av : Option Addr} {cv : Nat} {es : List El} {gc g cc : Nat} {L : List Rw}
    (hs : Blk W g [.string ca, .int .u8 u.1, .int .i64 u.2.1, .string u.2.2] 38) (hc : Blk W gc [.string ck, .int .u8 k.1, .string ca, .int .u8 v.1] 34)
    (h : RL W (fun _ => False) (.slice av es.length cv) es) (hL : rws es = L) (hl : L.length ≤ 10) (hv : ∀ r ∈ L, r.1.length ≤ 1000) :
    Calls Try.prog 5 #[.slice av es.length cv, .slice (some ⟨gc, 0, none⟩) 2 cc, stV zf (.slice (some ⟨g, 0, none⟩) 1 1) none 0 a b] W (DPost W (upL (cs2 k.1 v.1) [(ca, u)] a b L) (inR a b L).length) := by
  subst hL
  exact update5 (cs := cs2 k.1 v.1) (ss := [(ca, u)]) h (by simpa [rws] using hl) (rws_vals rfl hv) (co_of hc) (by simp) hc.lt (so_of hs) (by simp) hs.lt
theorem de_of {W : World} {a b : Int} {av : Option Addr} {cv : Nat} {es : List El} {ac : Option Addr} {nc cc : Nat} {sets : Value} {L : List Rw}
    (h : RL W (fun _ => False) (.slice av es.length cv) es) (hL : rws es = L) (hl : L.length ≤ 10) (hv : ∀ r ∈ L, r.1.length ≤ 1000) :
    Calls Try.prog 6 #[.slice av es.length cv, .slice ac nc cc, stV zf sets none 0 a b] W (DPost W (deL a b L) (inR a b L).length) := by
  subst hL
  exact delete6 h (by have : es.length ≤ 10 := by simpa [rws] using hl
                      omega) (rws_vals rfl hv)
end Go.Proofs.Ythalgnfffcimhaa
