/- Bytes as a string. · What Open answers on the disk of a log that is known. -/
import Derived.Test.YtnganmekiloigaaLaw
import Derived.Laws.BytesArg
import Derived.Test.YtnganmekiloigaaJh
/-! ### Bytes as a string. -/
namespace Go.Proofs.Ytnganmekiloigaa
open Go.RowKit
def strB (l : Bs) : ByteArray := ⟨l.toArray⟩
theorem strOf_eq (l : Bs) : strOfNums (l.map fun b => (b.toNat : Int)) = strB l := by
  unfold strOfNums strB
  congr 2
  rw [List.map_map]
  conv => rhs; rw [← List.map_id l]
  apply List.map_congr_left
  intro b _
  simp
end Go.Proofs.Ytnganmekiloigaa
/-! ### What Open answers on the disk of a log that is known. -/
namespace Go.Proofs.Ytnganmekiloigaa
open Go.RowKit
set_option maxRecDepth 100000
variable {w w' : World} {B d s x : Nat} {D : Dk} {W : Wl} {G : List Nat}
theorem rdS_nil (h : D.wait = []) : rdS D = D.secs := by
  unfold rdS
  rw [h]
  apply List.ext_getElem
  · simp
  · intro i h1 h2
    simp [latest, List.getD_eq_getElem?_getD, h2]
theorem Inv.congr {R h E cnt en u e1 : Nat} {D D' : Dk} {sure more : List Bs} (i : Inv R D h E cnt en u e1 sure more) (h1 : D'.secs = D.secs) (h2 : D'.wait = D.wait) (h3 : D'.cut = false) (h4 : D'.off = false) : Inv R D' h E cnt en u e1 sure more := by
  refine ⟨h3, h4, by rw [h1]; exact i.len, i.half, by rw [h2]; exact i.wait, by rw [h1]; exact i.chain, by rw [h1]; exact i.ends, i.e1, by rw [h1]; exact i.old, by rw [h1]; exact i.all, by rw [h1]; exact i.other, i.ep, i.cnt', i.en', i.room, i.recs⟩
/-- A crash where nothing waits. -/
theorem Inv.crash_nil {R h E cnt en u e1 : Nat} {D : Dk} {sure : List Bs} (i : Inv R D h E cnt en u e1 sure []) (keep : List Bool) : Inv R (D.crash keep) h E cnt en u e1 sure [] := by
  have hw : D.wait = [] := by rw [i.wait]; rfl
  refine i.congr ?_ ?_ rfl rfl
  · show land _ 0 D.wait D.secs = D.secs
    rw [hw]; rfl
  · rw [hw]; rfl
theorem conv_lv {a : Option Addr} {n c : Nat} {l : Bs} (h : LV EB w (.slice a n c) l) (h0 : 0 < l.length) : (convert 33 9 (.slice a n c)).run Try.prog w = .ok (.string (strB l)) w := by
  obtain ⟨a', c', hv, _, hat⟩ := h
  simp only [Value.slice.injEq] at hv
  obtain ⟨rfl, rfl, rfl⟩ := hv
  obtain ⟨g, o, cs, t, rfl, hb, hc⟩ := hat h0
  rw [← strOf_eq]
  refine run_convert_bytes_arg w 33 5 Try.underlying33 Try.underlying5 g o l.length c _ (by simp) ?_ 9 Try.underlying9
  intro i hi
  rw [hb.cell]
  refine hc i _ ?_
  rw [EB_cells, cellsB_get l i hi]
  simp [hi]
/-- A slice that came in, as a list. -/
theorem lv_of_in {B0 : Nat} {v : Value} {l : Bs} (h : InB B0 w v l) : LV EB w v l := by
  obtain ⟨a, c, rfl, hc, _, h3⟩ := h
  refine ⟨a, c, rfl, hc, fun h0 => ?_⟩
  obtain ⟨b, o, rfl, hb, hat⟩ := h3 h0
  have h1 := hat 0 h0
  have hcell : ∀ i, w.cell? ⟨b, i, none⟩ = (match w.heap[b]? with | some (.cells c _ _) => c[i]? | _ => none) := fun i => by
    unfold World.cell?
    cases w.heap[b]? with
    | none => rfl
    | some ob => cases ob <;> rfl
  rw [hcell] at h1
  cases hh : w.heap[b]? with
  | none => rw [hh] at h1; cases h1
  | some ob =>
    cases ob <;> (try (rw [hh] at h1; cases h1; done))
    rename_i cs t fr
    refine ⟨b, o, cs.toList, t, rfl, ⟨fr, by simp [hh]⟩, fun j u hu => ?_⟩
    rw [EB_cells] at hu
    have hj := (List.getElem?_eq_some_iff.1 hu).1
    rw [cellsB_length] at hj
    have h2 := hat j hj
    rw [hcell, hh] at h2
    rw [cellsB_get l j hj] at hu
    rw [← hu, ← h2]
    simp
theorem LG.add {g : Nat} (h : LG B w d s D x W G) (k : Below w.heap.size w w') (h1 : w.heap.size ≤ g) (h2 : g < w'.heap.size) : LG B w' d s D x W (g :: G) := by
  have hxl := h.wal.lt
  obtain ⟨wv, p1, p2, p3, p4⟩ := h.disk
  refine ⟨⟨wv, p1.below k, fun g' hg' => ?_, p3, Nat.le_trans p4 k.size⟩, h.wal.below k, fun hm => ?_, h.bx⟩
  · simp only [List.mem_cons] at hg'
    rcases hg' with rfl | rfl | hg'
    · exact ⟨(p2 _ (by simp)).1, by have := k.size; omega⟩
    · exact ⟨fun hf => by have := p1.foot_lt _ hf; omega, h2⟩
    · exact ⟨(p2 _ (by simp [hg'])).1, by have := (p2 g' (by simp [hg'])).2; have := k.size; omega⟩
  · rcases List.mem_cons.1 hm with e | hm
    · omega
    · exact h.nx hm
/-- A value reads as a list of records. -/
def RL (w : World) (v : Value) (L : List Bs) : Prop := ∃ vs : List Sl, LV EV w v vs ∧ vs.length = L.length ∧ ∀ (i : Nat) (y : Sl) (b : Bs), vs[i]? = some y → L[i]? = some b → LV EB w (slV y) b
theorem RL.below {v : Value} {L : List Bs} (h : RL w v L) (k : Below w.heap.size w w') : RL w' v L := by
  obtain ⟨vs, h1, h2, h3⟩ := h
  exact ⟨vs, h1.below k, h2, fun i y b hy hb => (h3 i y b hy hb).below k⟩
theorem RL.form {v : Value} {L : List Bs} (h : RL w v L) : ∃ a c, v = .slice a L.length c := by
  obtain ⟨vs, h1, h2, _⟩ := h
  obtain ⟨a, c, rfl⟩ := h1.form
  exact ⟨a, c, by rw [h2]⟩
/-- One of its records. -/
theorem RL.at {a : Option Addr} {n c : Nat} {L : List Bs} (h : RL w (.slice a n c) L) {i : Nat} {b : Bs} (hb : L[i]? = some b) : ∃ g o p k q, a = some ⟨g, o, none⟩ ∧ w.cell? ⟨g, o + i, none⟩ = some (.slice p k q) ∧ LV EB w (.slice p k q) b := by
  obtain ⟨vs, h1, h2, h3⟩ := h
  have hi := (List.getElem?_eq_some_iff.1 hb).1
  obtain ⟨y, hy⟩ : ∃ y, vs[i]? = some y := ⟨_, List.getElem?_eq_getElem (by omega)⟩
  obtain ⟨g, o, ha, hc⟩ := h1.at hy
  refine ⟨g, o, y.1, y.2.1, y.2.2, ha, ?_, h3 i y b hy hb⟩
  have := hc 0 (by decide)
  rw [Nat.add_zero, show i * EV.m = i from Nat.mul_one i] at this
  exact this
theorem open_inv {R h E cnt en u e1 : Nat} {sure : List Bs} (hA : Alone B w d s D []) (i : Inv R D h E cnt en u e1 sure []) (hR : 2 ≤ R) (hR2 : R ≤ 64) :
    Calls Try.prog 35 #[.pointer (some ⟨d, 0, none⟩)] w fun e w' => ∃ x ua uc, e = .returned (.tuple #[.pointer (some ⟨x, 0, none⟩), .slice ua sure.length uc, .int .i64 0]) ∧ Blk w' x (wlC d ⟨h, great (pcs D.secs) + 1, sure.length, u, false⟩) 111 ∧ RL w' (.slice ua sure.length uc) sure ∧ Below w.heap.size w w' ∧ w.heap.size ≤ x := by
  have hw : D.wait = [] := by rw [i.wait]; rfl
  have hgr : great (pcs D.secs) ≤ E := great_bound _ 0 E (Nat.zero_le _) i.all
  obtain ⟨o1, o2, o3, o4⟩ := i.opens
  refine (open35 hA i.off (by rw [hw]; simp) i.len hR hR2 (by rw [rdS_nil hw]; have := i.ep.2; omega)).mono ?_
  rintro e w1 ⟨x, v, vs, rfl, hb, hu, hvs, hB, hx⟩
  rw [rdS_nil hw] at hb hvs
  rw [o1, o3, o4] at hb
  have hl := hvs.len
  rw [o4] at hl
  obtain ⟨ua, uc, rfl, _⟩ := hu.form
  rw [hl] at hu ⊢
  refine ⟨x, ua, uc, rfl, hb, ⟨vs, hu.read, hl, fun i y b hy hb => ?_⟩, hB, hx⟩
  obtain ⟨r, hr, rfl⟩ : ∃ r, (toldP D.secs)[i]? = some r ∧ r.b = b := by
    rw [← o2, List.getElem?_map] at hb
    cases hq : (toldP D.secs)[i]? with
    | none => rw [hq] at hb; cases hb
    | some r => rw [hq] at hb; exact ⟨r, rfl, by simpa using hb⟩
  exact (hvs.at' i y r hy hr).read
end Go.Proofs.Ytnganmekiloigaa
