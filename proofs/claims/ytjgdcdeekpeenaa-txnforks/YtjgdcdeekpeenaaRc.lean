/- The document's End, Tick, Begin, Oldest, Writes. -/
import Derived.Test.YtjgdcdeekpeenaaRb
namespace Go.Proofs.Ytjgdcdeekpeenaa
open Go.RowKit Go.Shelf
set_option maxRecDepth 100000
/-- What a call of the document's manager leaves: the manager, and all blocks but its own. -/
def LR (r : Nat) (R : Rf) (w w' : World) : Prop := (∃ K D, RM w' r K D R) ∧ Keep (fun q => q = r) w w'
theorem RM.setKeep {w w' : World} {r : Nat} {K : Nat → Value} {D : Value} {R : Rf} (h : RM w r K D R) (k : Keep (fun q => q = r) w w') : (∀ i, i < 4 → LV ET w' (K i) (R.l i).keys) ∧ LV ED w' D R.done :=
  ⟨fun i hi => (h.keys i hi).keep fun _ _ q => q.keep k (fun e => blk_ne q h.blk ET.not75 e), h.done.keep fun _ _ q => q.keep k (fun e => blk_ne q h.blk ED.not75 e)⟩
def Rf.put (R : Rf) (i : Nat) (o : On) : Rf := { R with l := upd R.l i o }
theorem RM.put {w : World} {r : Nat} {K : Nat → Value} {D : Value} {R : Rf} (h : RM w r K D R) {i : Nat} (hi : i < 4) (o : On) (v : Value) (hv : LV ET w v o.keys) :
    LR r (R.put i o) w (((w.setCell ⟨r, 2 + i * 3, none⟩ (.bool o.op)).setCell ⟨r, 2 + i * 3 + 1, none⟩ (.int .i64 o.since)).setCell ⟨r, 2 + i * 3 + 2, none⟩ v) := by
  have k : Keep (fun q => q = r) w (((w.setCell ⟨r, 2 + i * 3, none⟩ (.bool o.op)).setCell ⟨r, 2 + i * 3 + 1, none⟩ (.int .i64 o.since)).setCell ⟨r, 2 + i * 3 + 2, none⟩ v) := Keep.set (F := fun q => q = r) (Keep.set (F := fun q => q = r) (keep_set w r _ _) (.inr rfl) _) (.inr rfl) _
  obtain ⟨h1, h2⟩ := h.setKeep k
  refine ⟨⟨upd K i v, D, ?_, fun j hj => ?_, h2⟩, k⟩
  · have := ((h.blk.set (o := 2 + i * 3) (.bool o.op)).set (o := 2 + i * 3 + 1) (.int .i64 o.since)).set (o := 2 + i * 3 + 2) v
    rw [rg_set _ _ _ _ _ o v hi] at this
    exact this
  · by_cases c : j = i
    · subst c
      simp only [upd, Rf.put, if_true]
      exact hv.keep fun _ _ q => q.keep k (fun e => blk_ne q h.blk ET.not75 e)
    · simp only [upd, Rf.put, c, if_false]
      exact h1 j hj
theorem keep_of_below {w w' : World} {F : Nat → Prop} (h : Below w.heap.size w w') : Keep F w w' := Keep.of h
theorem LR.first {r : Nat} {R : Rf} {w w1 w' : World} (h : LR r R w1 w') (b : Below w.heap.size w w1) : LR r R w w' := ⟨h.1, (Keep.of b).trans h.2 (fun _ _ e => e)⟩
theorem LR.last {r : Nat} {R : Rf} {w w1 w' : World} (h : LR r R w w1) (b : Below w1.heap.size w1 w') : LR r R w w' := by
  obtain ⟨⟨K, D, h1⟩, h2⟩ := h
  exact ⟨⟨K, D, h1.below b⟩, h2.trans (Keep.of (F := fun q => q = r) b) (fun _ _ e => e)⟩
def none0 : On := ⟨false, 0, []⟩
def Rf.fin (R : Rf) (id : Int) : Rf := if errR R id = 0 then R.put id.toNat none0 else R
theorem rend44 {w : World} {r : Nat} {K : Nat → Value} {D : Value} {R : Rf} (h : RM w r K D R) (id : Int) : Calls Try.prog 44 #[.pointer (some ⟨r, 0, none⟩), .int .i64 id] w fun e w' => e = .returned (.int .i64 (errR R id)) ∧ LR r (R.fin id) w w' := by
  have k := look48 h id
  rcases idR_cases R id with ⟨_, e⟩ | ⟨i, hi, rfl, ⟨_, e⟩ | ⟨_, e⟩⟩
  · have HL : Hid (∀ W, Below w.heap.size w W → LR r (R.fin id) w W) := fun W b => by rw [Rf.fin, e]; exact ⟨⟨K, D, h.below b⟩, Keep.of b⟩
    rw [e] at k ⊢
    clear h
    go_enter Try.func44, Try.ntmps44
    go_wp2_with (go_at_call 48; (with_reducible refine k.mono ?_); rintro e w1 ⟨rfl, hB⟩)
    go_ret
    exact ⟨rfl, HL.out _ hB⟩
  · have HL : Hid (∀ W, Below w.heap.size w W → W.cell? ⟨r, 2 + i * 3, none⟩ = some (.bool (R.l i).op) ∧ W.cell? ⟨r, 2 + i * 3 + 1, none⟩ = some (.int .i64 (R.l i).since) ∧ W.cell? ⟨r, 2 + i * 3 + 2, none⟩ = some (K i) ∧ (∀ j, W.frozen? ⟨r, j, none⟩ = false) ∧ Hid (LR r (R.fin (i : Int)) w (((W.setCell ⟨r, 2 + i * 3, none⟩ (.bool false)).setCell ⟨r, 2 + i * 3 + 1, none⟩ (.int .i64 0)).setCell ⟨r, 2 + i * 3 + 2, none⟩ (.slice none 0 0)))) := fun W b => by
      obtain ⟨a1, a2, a3⟩ := (h.below b).at hi
      refine ⟨a1, a2, a3, (h.below b).blk.frozen, ?_⟩
      have := (h.below b).put hi none0 (.slice none 0 0) (LV.nil ET _ none 0)
      rw [Rf.fin, e]
      exact this.first b
    rw [e] at k ⊢
    have h1 : (0 : Int) ≤ (i : Int) := by omega
    have h2 : (i : Int) < 4 := by omega
    clear h
    go_enter Try.func44, Try.ntmps44
    go_wp2_with (go_at_call 48; (with_reducible refine k.mono ?_); rintro e w1 ⟨rfl, hB⟩; obtain ⟨a1, a2, a3, fz, hL⟩ := HL.out _ hB; have z0 := fz (2 + i * 3); have z1 := fz (2 + i * 3 + 1); have z2 := fz (2 + i * 3 + 2))
    go_ret
    exact ⟨rfl, hL.out⟩
  · have HL : Hid (∀ W, Below w.heap.size w W → LR r (R.fin (i : Int)) w W) := fun W b => by rw [Rf.fin, e]; exact ⟨⟨K, D, h.below b⟩, Keep.of b⟩
    rw [e] at k ⊢
    clear h
    go_enter Try.func44, Try.ntmps44
    go_wp2_with (go_at_call 48; (with_reducible refine k.mono ?_); rintro e w1 ⟨rfl, hB⟩)
    go_ret
    exact ⟨rfl, HL.out _ hB⟩
theorem RM.set1 {w : World} {r : Nat} {K : Nat → Value} {D : Value} {R : Rf} (h : RM w r K D R) (n : Int) : LR r { R with high := n } w (w.setCell ⟨r, 1, none⟩ (.int .i64 n)) := by
  have k := keep_set w r 1 (.int .i64 n)
  obtain ⟨h1, h2⟩ := h.setKeep k
  exact ⟨⟨K, D, h.blk.set (o := 1) (.int .i64 n), h1, h2⟩, k⟩
theorem RM.set0 {w : World} {r : Nat} {K : Nat → Value} {D : Value} {R : Rf} (h : RM w r K D R) (n : Int) : LR r { R with clock := n } w (w.setCell ⟨r, 0, none⟩ (.int .i64 n)) := by
  have k := keep_set w r 0 (.int .i64 n)
  obtain ⟨h1, h2⟩ := h.setKeep k
  exact ⟨⟨K, D, h.blk.set (o := 0) (.int .i64 n), h1, h2⟩, k⟩
def Rf.tick (R : Rf) (n : Int) : Rf := { R with clock := tickC R.clock n }
theorem rtick45 {w : World} {r : Nat} {K : Nat → Value} {D : Value} {R : Rf} (h : RM w r K D R) (f0 : 0 ≤ R.clock) (f1 : R.clock ≤ 1073741824) (n : Int) : Calls Try.prog 45 #[.pointer (some ⟨r, 0, none⟩), .int .i64 n] w fun e w' => e = .returned (.tuple #[]) ∧ LR r (R.tick n) w w' := by
  have c0 : w.cell? ⟨r, 0, none⟩ = some (.int .i64 R.clock) := h.blk.cell 0
  have z0 := h.blk.frozen 0
  by_cases hn : 0 < n
  · have HL : Hid (∀ x, x = tickC R.clock n → LR r (R.tick n) w (w.setCell ⟨r, 0, none⟩ (.int .i64 x))) := fun x q => by rw [q]; exact h.set0 _
    have b1 : decide (0 < n) = true := decide_eq_true hn
    clear h
    generalize R.clock = c at *
    go_enter Try.func45, Try.ntmps45
    go_wp2
    go_region
    refine bodyPost_end (v := .tuple #[]) (by simp [results, Try.results45, go_sem]) rfl ⟨rfl, ?_⟩
    exact (HL.out _ (by unfold tickC; omega)).last ((Below.refl _ _).drew)
  · have HL : Hid (LR r (R.tick n) w w) := by
      have e : R.tick n = R := by
        have : tickC R.clock n = R.clock := by unfold tickC; omega
        rw [Rf.tick, this]
      rw [e]
      exact ⟨⟨K, D, h⟩, Keep.refl _ _⟩
    have b1 : decide (0 < n) = false := decide_eq_false hn
    clear h
    go_enter Try.func45, Try.ntmps45
    go_wp2
    exact bodyPost_end (v := .tuple #[]) (by simp [results, Try.results45, go_sem]) rfl ⟨rfl, HL.out⟩
def errRB (R : Rf) (id : Int) : Int := if id < 0 ∨ 4 ≤ id then 2 else if (R.l id.toNat).op = true then 7 else 0
abbrev hiR (R : Rf) : Int := max R.clock R.high
def Rf.bgn (R : Rf) (id : Int) : Rf := if errRB R id = 0 then { R with high := hiR R, l := upd R.l id.toNat ⟨true, hiR R, []⟩ } else R
def bgnRR (R : Rf) (id : Int) : Int := if errRB R id = 0 then hiR R else 0
theorem idB_cases (R : Rf) (id : Int) : ((id < 0 ∨ 4 ≤ id) ∧ errRB R id = 2) ∨ ∃ i : Nat, i < 4 ∧ id = (i : Int) ∧ ((R.l i).op = true ∧ errRB R id = 7 ∨ (R.l i).op = false ∧ errRB R id = 0) := by
  by_cases h : id < 0 ∨ 4 ≤ id
  · exact .inl ⟨h, by simp [errRB, h]⟩
  · right
    have e : id = (id.toNat : Int) := by omega
    refine ⟨id.toNat, by omega, e, ?_⟩
    cases ho : (R.l id.toNat).op
    · exact .inr ⟨rfl, by simp [errRB, h, ho]⟩
    · exact .inl ⟨rfl, by simp [errRB, h, ho]⟩
set_option maxHeartbeats 1000000 in
theorem rbegin41 {w : World} {r : Nat} {K : Nat → Value} {D : Value} {R : Rf} (h : RM w r K D R) (id : Int) : Calls Try.prog 41 #[.pointer (some ⟨r, 0, none⟩), .int .i64 id] w fun e w' => e = .returned (.tuple #[.int .i64 (bgnRR R id), .int .i64 (errRB R id)]) ∧ LR r (R.bgn id) w w' := by
  rcases idB_cases R id with ⟨q, e⟩ | ⟨i, hi, rfl, ⟨q, e⟩ | ⟨q, e⟩⟩
  · have k := is51_no id q w
    have HL : Hid (∀ W, Below w.heap.size w W → LR r (R.bgn id) w W) := fun W b => by rw [Rf.bgn, e]; exact ⟨⟨K, D, h.below b⟩, Keep.of b⟩
    rw [bgnRR, e]
    clear h
    go_enter Try.func41, Try.ntmps41
    go_wp2_with (go_at_call 51; (with_reducible refine k.mono ?_); rintro e w1 ⟨rfl, hB⟩)
    exact bodyPost_ret (v := .tuple #[.int .i64 0, .int .i64 2]) (by simp [results, Try.results41, go_sem]) rfl ⟨rfl, HL.out _ hB⟩
  · have k := is51_ok i hi w
    have HL : Hid (∀ W, Below w.heap.size w W → W.cell? ⟨r, 2 + i * 3, none⟩ = some (.bool true) ∧ LR r (R.bgn (i : Int)) w W) := fun W b => by
      refine ⟨?_, ?_⟩
      · have := ((h.below b).at hi).1
        rwa [q] at this
      · rw [Rf.bgn, e]; exact ⟨⟨K, D, h.below b⟩, Keep.of b⟩
    rw [bgnRR, e]
    have h1 : (0 : Int) ≤ (i : Int) := by omega
    have h2 : (i : Int) < 4 := by omega
    clear h
    go_enter Try.func41, Try.ntmps41
    go_wp2_with (go_at_call 51; (with_reducible refine k.mono ?_); rintro e w1 ⟨rfl, hB⟩; obtain ⟨c2, hL⟩ := HL.out _ hB)
    exact bodyPost_ret (v := .tuple #[.int .i64 0, .int .i64 7]) (by simp [results, Try.results41, go_sem]) rfl ⟨rfl, hL⟩
  · have k := is51_ok i hi w
    have HC : Hid (∀ W, Below w.heap.size w W → RM W r K D R ∧ W.cell? ⟨r, 2 + i * 3, none⟩ = some (.bool false) ∧ W.cell? ⟨r, 0, none⟩ = some (.int .i64 R.clock) ∧ W.cell? ⟨r, 1, none⟩ = some (.int .i64 R.high) ∧ W.frozen? ⟨r, 1, none⟩ = false) := fun W b => by
      have := ((h.below b).at hi).1
      rw [q] at this
      exact ⟨h.below b, this, (h.below b).blk.cell 0, (h.below b).blk.cell 1, (h.below b).blk.frozen 1⟩
    rw [bgnRR, e]
    have HE : Hid (R.bgn (i : Int) = { R with high := hiR R, l := upd R.l i ⟨true, hiR R, []⟩ }) := by show _ = _; rw [Rf.bgn, e]; rfl
    have h1 : (0 : Int) ≤ (i : Int) := by omega
    have h2 : (i : Int) < 4 := by omega
    clear h
    go_enter Try.func41, Try.ntmps41
    go_wp2_with (go_at_call 51; (with_reducible refine k.mono ?_); rintro e w1 ⟨rfl, hB1⟩; obtain ⟨hM1, c2, c0, c1, z1⟩ := HC.out _ hB1)
    go_region
    have hL2 := (hM1.set1 (max R.clock R.high)).last ((Below.refl _ _).drew)
    obtain ⟨⟨K2, D2, hM2⟩, hK2⟩ := hL2
    generalize (w1.setCell ⟨r, 1, none⟩ (.int .i64 (max R.clock R.high))).drew = w2 at *
    have d1 : w2.cell? ⟨r, 1, none⟩ = some (.int .i64 (max R.clock R.high)) := hM2.blk.cell 1
    obtain ⟨a1, a2, a3⟩ := hM2.at hi
    have z0 := hM2.blk.frozen (2 + i * 3)
    have z3 := hM2.blk.frozen (2 + i * 3 + 1)
    have z4 := hM2.blk.frozen (2 + i * 3 + 2)
    have HL3 : Hid _ := hM2.put hi ⟨true, max R.clock R.high, []⟩ (.slice none 0 0) (LV.nil ET _ none 0)
    have HK2 : Hid _ := hK2
    clear hM2 hK2 c0 c1 c2 z1 hM1 k HC
    go_wp2_with fail
    go_region
    obtain ⟨⟨K3, D3, hM3⟩, hK3⟩ := LR.last (r := r) HL3.out ((Below.refl _ _).drew)
    clear HL3 d1 a1 a2 a3 z0 z3 z4
    generalize (World.setCell _ _ (.slice none 0 0)).drew = w3 at *
    have d3 : w3.cell? ⟨r, 1, none⟩ = some (.int .i64 (max R.clock R.high)) := hM3.blk.cell 1
    have HM3 : Hid _ := hM3
    have HK3 : Hid _ := hK3
    clear hM3 hK3
    go_wp2_with fail
    exact bodyPost_ret (v := .tuple #[.int .i64 (hiR R), .int .i64 0]) (by simp [results, Try.results41, go_sem]) rfl ⟨rfl, ⟨K3, D3, by rw [HE.out]; exact HM3.out⟩, ((Keep.of hB1).trans HK2.out (fun _ _ e => e)).trans HK3.out (fun _ _ e => e)⟩
end Go.Proofs.Ytjgdcdeekpeenaa
