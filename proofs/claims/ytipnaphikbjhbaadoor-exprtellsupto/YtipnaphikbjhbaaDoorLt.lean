/- lex.Tokens. -/
import Derived.Test.YtipnaphikbjhbaaDoorLb
namespace Go.Proofs.YtipnaphikbjhbaaDoor
open Go.RowKit Go.Lib Go.Joins
set_option maxRecDepth 100000

def cellT (x : Tk) : List Value := [.int .u8 (x.k : Int), .string (str x.t), .int .i64 x.n, .int .i64 (x.a : Int)]
def cellsT (l : List Tk) : List Value := l.flatMap cellT
theorem cellsT_snoc (l : List Tk) (x : Tk) : cellsT (l ++ [x]) = cellsT l ++ cellT x := by simp [cellsT]
/-- Tokens in a row of the call's own. -/
def TRow (B : Nat) (v : Value) (l : List Tk) (w : World) : Prop := w.ownsRow B 97 4 v l.length (cellsT l)
theorem own_block {W W' : World} {base e size n : Nat} {v : Value} {xs : List Value} (h : W.ownsRow base e size v n xs) (hb : ∀ k, v.ownBlock = some k → W'.heap[k]? = W.heap[k]?) : W'.ownsRow base e size v n xs := by
  obtain ⟨h1, h2 | ⟨g, cap, cur, rfl, hBg, hw, hn, hcap, hz, htk⟩⟩ := h
  · exact ⟨h1, .inl h2⟩
  · exact ⟨h1, .inr ⟨g, cap, cur, rfl, hBg, by rw [hb g rfl]; exact hw, hn, hcap, hz, htk⟩⟩
theorem own_base {W : World} {base base' e size n : Nat} {v : Value} {xs : List Value} (h : W.ownsRow base e size v n xs) (hb : base' ≤ base) : W.ownsRow base' e size v n xs := by
  obtain ⟨h1, h2 | ⟨g, cap, cur, rfl, hBg, hw, hn, hcap, hz, htk⟩⟩ := h
  · exact ⟨h1, .inl h2⟩
  · exact ⟨h1, .inr ⟨g, cap, cur, rfl, Nat.le_trans hb hBg, hw, hn, hcap, hz, htk⟩⟩
theorem own_below {W W' : World} {base e size n : Nat} {v : Value} {xs : List Value} (h : W.ownsRow base e size v n xs) (hb : Below W.heap.size W W') : W'.ownsRow base e size v n xs :=
  own_block h fun k e => hb.block k (World.ownsRow.lt h k e).2
structure TS (w0 : World) (s : ByteArray) (pos : Nat) (v : Value) (acc : List Tk) (w : World) : Prop where
  row : TRow (w0.heap.size + 1) v acc w
  iter : w.heap[w0.heap.size]? = some (.stringIter s pos)
  bel : Below w0.heap.size w0 w
theorem TS.next {w0 w : World} {s : ByteArray} {pos : Nat} {v : Value} {acc : List Tk} (h : TS w0 s pos v acc w) (p : Nat) : TS w0 s p v acc (w.iterAt w0.heap.size s p) :=
  ⟨own_block h.row fun k e => iterAt_other _ _ _ _ _ (by have := (World.ownsRow.lt h.row k e).1; omega), iterAt_heap _ _ _ _ _ h.iter, below_iterAt h.bel (Nat.le_refl _) _ _⟩
theorem TS.lt {w0 w : World} {s : ByteArray} {pos : Nat} {v : Value} {acc : List Tk} (h : TS w0 s pos v acc w) : w0.heap.size < w.heap.size := (Array.getElem?_eq_some_iff.1 h.iter).1
theorem TS.below {w0 w w' : World} {s : ByteArray} {pos : Nat} {v : Value} {acc : List Tk} (h : TS w0 s pos v acc w) (hb : Below w.heap.size w w') : TS w0 s pos v acc w' :=
  ⟨own_below h.row hb, (hb.block _ h.lt).trans h.iter, h.bel.trans (hb.mono h.bel.size)⟩
theorem TS.push {w0 w w' : World} {s : ByteArray} {pos : Nat} {v v' : Value} {acc : List Tk} {x : Tk} (h : TS w0 s pos v acc w) (hr : TRow (w0.heap.size + 1) v' (acc ++ [x]) w') (hg : w.grownBy w' v.ownBlock) : TS w0 s pos v' (acc ++ [x]) w' :=
  ⟨hr, (hg.block _ h.lt (fun e => by have := (World.ownsRow.lt h.row _ e.symm).1; omega)).trans h.iter, h.bel.grown hg h.bel.size fun k e => by have := (World.ownsRow.lt h.row k e).1; omega⟩
/-- A rune does not go over a byte below 128. -/
theorem jump {s : ByteArray} {pos q : Nat} (hp : pos < s.size) (h1 : pos < q) (hq : q ≤ s.size) (hb : ((bs s).getD (q - 1) 0).toNat < 128) : pos + (Utf8.decode s pos).2 ≤ q := by
  have hdec := rest_decode s pos
  have hcons := rest_cons hp
  by_cases hlow : (s[pos]'hp).toNat < 128
  · have hd : decodeL ((bs s).drop pos) = ((s[pos]'hp).toNat, 1) := by rw [hcons]; exact ascii_head hlow
    have : (Utf8.decode s pos).2 = 1 := by rw [← hdec, hd]
    omega
  · have hh := (high_bytes _ (rest_ne hp) (by rw [hcons]; simpa using hlow)).2
    rw [hdec] at hh
    by_cases hlt : q < pos + (Utf8.decode s pos).2
    · exfalso
      have hl : q - 1 < (bs s).length := by rw [bs_length]; omega
      have e : (bs s).getD (q - 1) 0 = (bs s)[q - 1] := by rw [List.getD_eq_getElem?_getD, List.getElem?_eq_getElem hl]; rfl
      have := hh ((bs s)[q - 1]) (by
        rw [List.mem_take_iff_getElem]
        refine ⟨q - 1 - pos, by rw [List.length_drop]; omega, ?_⟩
        rw [List.getElem_drop]
        congr 1
        omega)
      rw [e] at hb
      omega
    · omega
/-- The first rune, by the first byte. -/
theorem first_rune {s : ByteArray} {pos : Nat} (hp : pos < s.size) : ((s[pos]'hp).toNat < 128 ∧ (Utf8.decode s pos).1 = (s[pos]'hp).toNat ∧ (Utf8.decode s pos).2 = 1) ∨ (128 ≤ (s[pos]'hp).toNat ∧ 128 ≤ (Utf8.decode s pos).1) := by
  have hdec := rest_decode s pos
  have hcons := rest_cons hp
  by_cases hlow : (s[pos]'hp).toNat < 128
  · have hd : decodeL ((bs s).drop pos) = ((s[pos]'hp).toNat, 1) := by rw [hcons]; exact ascii_head hlow
    exact .inl ⟨hlow, by rw [← hdec, hd], by rw [← hdec, hd]⟩
  · have hh := (high_bytes _ (rest_ne hp) (by rw [hcons]; simpa using hlow)).1
    rw [hdec] at hh
    exact .inr ⟨by omega, hh⟩
theorem bs_from (s : ByteArray) (pos : Nat) : bs (s.extract pos s.size) = (bs s).drop pos := by
  rw [ext_take, List.take_of_length_le (by rw [bs_length]; omega)]
theorem info34 : (Tryd.prog.info? 97).map (fun i => (i.zero, i.size, i.bytes)) = some (some (.agg #[.int .u8 0, .string ⟨#[]⟩, .int .i64 0, .int .i64 0]), 4, 40) := by kernel_rfl

theorem news2 (w2 : World) (o : Obj) (a b c d : Value) (t : TypeId) : ∀ j u, [a, b, c, d][j]? = some u → ((w2.alloc o).alloc (.cells #[a, b, c, d] t)).cell? ((⟨w2.heap.size + 1, 0, none⟩ : Addr).add j) = some u := by
  intro j u hj
  rw [show (⟨w2.heap.size + 1, 0, none⟩ : Addr).add j = ⟨w2.heap.size + 1, j, none⟩ by unfold Addr.add; split <;> simp_all]
  rw [World.cell?_alloc_at _ _ _ _ (by simp)]
  simpa using hj
end Go.Proofs.YtipnaphikbjhbaaDoor
