/- A catalog: Create. -/
import Derived.Test.YtkoagjfbhkhfkaaDoorCr
import Derived.Deep.AppendLies
namespace Go.Proofs.YtkoagjfbhkhfkaaDoor
open Go.RowKit Go.Lib
set_option maxRecDepth 100000
variable {w w' : World} {c m : Nat} {nv : Value} {E : List En}
theorem Blk.here {b j : Nat} {l : List Value} {t : TypeId} {v : Value} (h : Blk w b l t) (e : l[j]? = some v) : w.cell? ⟨b, j, none⟩ = some v := (h.cell j).trans e
theorem Blk.ne {a b : Nat} {l l' : List Value} {t t' : TypeId} (h : Blk w a l t) (h' : Blk w b l' t') (hne : t ≠ t') : a ≠ b := fun e => by
  subst e
  rw [Blk] at h h'
  rw [h] at h'
  simp only [Option.some.injEq, Obj.cells.injEq] at h'
  exact hne h'.2.1
theorem Blk.ne_map {a b n : Nat} {l : List Value} {t : TypeId} {D : DataW Value} (h : Blk w a l t) (h' : w.ownsMap Tryd.prog 9 heldR b n D) : a ≠ b := fun e => by
  subst e
  obtain ⟨es, cl, h1, _⟩ := h'
  rw [Blk] at h
  rw [h] at h1
  cases h1
theorem Blk.ne_row {a n sz : Nat} {l xs : List Value} {t e : TypeId} {v : Value} (h : Blk w a l t) (h' : w.ownsRow 0 e sz v n xs) (hne : t ≠ e) : v.ownBlock ≠ some a := fun he => by
  obtain ⟨cur, h1⟩ := ownsRow_lt h' he
  rw [Blk] at h
  rw [h] at h1
  simp only [Option.some.injEq, Obj.cells.injEq] at h1
  exact hne h1.2.1
theorem row_ne_map {b n k sz : Nat} {xs : List Value} {e : TypeId} {v : Value} {D : DataW Value} (h : w.ownsRow 0 e sz v n xs) (h' : w.ownsMap Tryd.prog 9 heldR b k D) : v.ownBlock ≠ some b := fun he => by
  obtain ⟨cur, h1⟩ := ownsRow_lt h he
  obtain ⟨es, cl, h2, _⟩ := h'
  rw [h1] at h2
  cases h2
theorem Cat.put (h : Cat w c m nv E) (t : Tb) (ht : t.n.length ≤ 100000) (g : Nat) : ∃ w', (Instr.mapUpdate 59 (.map (some m)) (.string (str t.n)) (tv (t, g))).run Tryd.prog w = .ok () w' ∧ w'.ownsMap Tryd.prog 9 heldR m (E.length + 1) (DT ((t, g) :: E)) ∧ w.grownBy w' (some m) := by
  have hf := h.few
  obtain ⟨w', h1, h2, h3⟩ := h.map.update keyed9 Tryd.underlying59 (by unfold maxLen; omega) (key := .string (str t.n)) (kl := .string t.n) (by have := WideMaps.keyOf_string_mk (s := str t.n) Tryd.underlying9 (by unfold maxLen; rw [str_size]; omega); rwa [show (str t.n).data.toList = t.n from rfl] at this) (show heldR (tv (t, g)) = some (.held (tv (t, g)), []) from rfl)
  exact ⟨w', h1, h2, h3⟩
theorem ne_some {a b : Nat} (h : a ≠ b) : some a ≠ some b := fun e => h (Option.some.inj e)
theorem refuse_ok {t : Tb} (h : refuse E t = 0) : rtB t.n t.cols t.p t.r = true := by
  unfold refuse at h
  split at h
  · cases h
  · rename_i h1
    simpa using h1
theorem refuse_few {t : Tb} (h : refuse E t = 0) : E.length < 3 := by
  unfold refuse at h
  split at h
  · cases h
  · split at h
    · cases h
    · split at h
      · cases h
      · omega
theorem step_append_run {P : Program} {ops : Array Oper} {o : Oper} {a : Act} {w : World} {K : Act → World → Prop} {Q : Exit → Act → World → Prop} {E : Prop} (hgd : o.guard = none) (s x : Operand) (t : TypeId)
    (ho : o.op = .call { callee := .builtin .append, args := #[s, x], argTypes := #[t, t] }) (v y : Value) (hs : a.eval s = v) (hx : a.eval x = y) (u : Value) (w' : World) (hrun : (Builtin.append_ #[t, t] o.type #[v, y]).run P w = .ok u w')
    (h : K (a.put o.dst u) w') : if Region.wanted o (yielded ops a.tmps) = true then Oper.wp P o a w K Q else E := by
  have hw : Region.wanted o (yielded ops a.tmps) = true := by simp [Region.wanted, hgd]
  rw [if_pos hw]
  unfold Oper.wp execOp
  simp only [ho, resolve, invoke, builtin, Sem.run_bind, Sem.run_pure, Result.andThen_ok, List.map_toArray, List.map_cons, List.map_nil, hs, hx, hrun]
  exact h
/-- What Create may write. -/
def foot (c m : Nat) (nv : Value) (k : Nat) : Prop := k = c ∨ k = m ∨ nv.ownBlock = some k
theorem info9 : (Tryd.prog.info? 9).map (fun i => (i.zero, i.size, i.bytes)) = some (some (.string ByteArray.empty), 1, 16) := by kernel_rfl
theorem create6_no (h : Cat w c m nv E) (n p : ByteArray) (v : Value) (l : List Cl) (r : Int) (hv : SC w v l) (hl : l.length ≤ 1000) (hr : refuse E ⟨bs n, l, bs p, r⟩ ≠ 0) :
    Calls Tryd.prog 20 #[.pointer (some ⟨c, 0, none⟩), TB n v p r] w fun e w' => e = .returned (.int .i64 (refuse E ⟨bs n, l, bs p, r⟩)) ∧ Below w.heap.size w w' := by
  have H10 := refusal10 (h.below (al w (.cells #[.string n, v, .string p, .int .i64 r] 32))) n p v l r (hv.below (al _ _)) hl
  obtain ⟨a, cp, rfl, _⟩ := hv
  generalize refuse E ⟨bs n, l, bs p, r⟩ = R at *
  have hrb : (R != 0) = true := by simpa using hr
  go_enter Tryd.func20, Tryd.ntmps20
  go_wp2_with (go_at_call 41; refine H10.mono ?_; rintro e w1 ⟨rfl, hb1⟩)
  go_ret
  exact ⟨rfl, bmore (al _ _) hb1⟩
set_option maxHeartbeats 2000000 in
theorem create6_yes (h : Cat w c m nv E) (n p : ByteArray) (v : Value) (l : List Cl) (r : Int) (hv : SC w v l) (hl : l.length ≤ 1000) (hr : refuse E ⟨bs n, l, bs p, r⟩ = 0) :
    Calls Tryd.prog 20 #[.pointer (some ⟨c, 0, none⟩), TB n v p r] w fun e w' => e = .returned (.int .i64 0) ∧ ∃ nv' g, Cat w' c m nv' ((⟨bs n, l, bs p, r⟩, g) :: E) ∧ Keep (foot c m nv) w w' ∧ (∀ k, foot c m nv' k → foot c m nv k ∨ w.heap.size ≤ k) ∧ w.heap.size ≤ g := by
  have H10 := refusal10 (h.below (al w (.cells #[.string n, v, .string p, .int .i64 r] 32))) n p v l r (hv.below (al _ _)) hl
  rw [hr] at H10
  have H9 : Hid (∀ w1, Below w.heap.size w w1 → Calls Tryd.prog 40 #[TB n v p r] w1 fun e w' => ∃ g, e = .returned (TB n (.slice (some ⟨g, 0, none⟩) l.length l.length) p r) ∧ w1.heap.size ≤ g ∧ Blk w' g (cellsC l) 44 ∧ Below w1.heap.size w1 w') := fun w1 h1 => copied9 n p v l r w1 (hv.below h1) hl
  have HC : Hid (∀ w1, Below w.heap.size w w1 → Cat w1 c m nv E) := fun w1 h1 => h.below h1
  have HP : Hid (∀ w1, Below w.heap.size w w1 → ∀ g, ∃ w', (Instr.mapUpdate 59 (.map (some m)) (.string n) (TB n (.slice (some ⟨g, 0, none⟩) l.length l.length) p r)).run Tryd.prog w1 = .ok () w' ∧ w'.ownsMap Tryd.prog 9 heldR m (E.length + 1) (DT ((⟨bs n, l, bs p, r⟩, g) :: E)) ∧ w1.grownBy w' (some m)) := fun w1 h1 g => by
    have := (h.below h1).put ⟨bs n, l, bs p, r⟩ (by have h5 := rtB_name (refuse_ok hr); simp only at h5 ⊢; omega) g
    simp only [tv, str_bs] at this
    exact this
  obtain ⟨a, cp, rfl, _⟩ := hv
  generalize l.length = N at *
  go_enter Tryd.func20, Tryd.ntmps20
  go_wp2_with (go_at_call 41; refine H10.mono ?_; rintro e w1 ⟨rfl, hb1⟩; have F1 := bmore (al _ _) hb1; have b1 := (blk_new w [.string n, .slice a N cp, .string p, .int .i64 r] 32).below hb1)
  have F2 : Below w.heap.size w w1.drew := F1.drew
  have b4of : ∀ {w3 w4 : World} {hb2 : Below w1.drew.heap.size w1.drew w3}, w3.grownBy w4 (some m) → Blk w4 w.heap.size [.string n, .slice a N cp, .string p, .int .i64 r] 32 := fun {w3 w4 hb2} hgr4 => by
    have := (b1.block (W' := w1.drew) rfl).below hb2
    exact this.block (hgr4.block _ this.lt (ne_some (this.ne_map (HC.out _ (bmore F2 hb2)).map)))
  have S0 : Hid (∀ W, Below w1.drew.heap.size w1.drew W → W.cell? ⟨c, 0, none⟩ = some (.map (some m)) ∧ W.cell? ⟨w.heap.size, 0, none⟩ = some (.string n) ∧ W.cell? ⟨w.heap.size, 1, none⟩ = some (.slice a N cp) ∧ W.cell? ⟨w.heap.size, 2, none⟩ = some (.string p) ∧ W.cell? ⟨w.heap.size, 3, none⟩ = some (.int .i64 r)) := fun W hW => by
    have hb := ((b1.block (W' := w1.drew) rfl).below hW).cell
    exact ⟨(HC.out W (bmore F2 hW)).blk.cell 0, hb 0, hb 1, hb 2, hb 3⟩
  have hS0 := S0.out _ (Below.refl _ _)
  go_region_held3 (fun W => W.cell? ⟨c, 0, none⟩ = some (.map (some m)) ∧ W.cell? ⟨w.heap.size, 0, none⟩ = some (.string n) ∧ W.cell? ⟨w.heap.size, 1, none⟩ = some (.slice a N cp) ∧ W.cell? ⟨w.heap.size, 2, none⟩ = some (.string p) ∧ W.cell? ⟨w.heap.size, 3, none⟩ = some (.int .i64 r)) (first | exact hS0 | exact S0.out _ hb2 | exact hS4) (first | (go_at_call 40; (with_reducible refine (H9.out _ F2).mono ?_; rintro e w3 ⟨g, rfl, hg, hblk, hb2⟩; obtain ⟨w4, hrun4, hown4, hgr4⟩ := HP.out _ (bmore F2 hb2) g; have hS4 : w4.cell? ⟨c, 0, none⟩ = some (.map (some m)) ∧ w4.cell? ⟨w.heap.size, 0, none⟩ = some (.string n) ∧ w4.cell? ⟨w.heap.size, 1, none⟩ = some (.slice a N cp) ∧ w4.cell? ⟨w.heap.size, 2, none⟩ = some (.string p) ∧ w4.cell? ⟨w.heap.size, 3, none⟩ = some (.int .i64 r) := ⟨((HC.out _ (bmore F2 hb2)).blk.block (hgr4.block _ (HC.out _ (bmore F2 hb2)).blk.lt (ne_some ((HC.out _ (bmore F2 hb2)).blk.ne_map (HC.out _ (bmore F2 hb2)).map)))).here rfl, (b4of (hb2 := hb2) hgr4).here rfl, (b4of (hb2 := hb2) hgr4).here rfl, (b4of (hb2 := hb2) hgr4).here rfl, (b4of (hb2 := hb2) hgr4).here rfl⟩)))
  have C3 := HC.out _ (bmore F2 hb2)
  have c4 : Blk w4 c [.map (some m), nv] 61 := C3.blk.block (hgr4.block _ C3.blk.lt (ne_some (C3.blk.ne_map C3.map)))
  have n4 : w4.ownsRow 0 9 1 nv E.length (namesV E) := ownsRow_block C3.names (fun k hk => hgr4.block k (C3.lt (.inr (.inr (.inl hk)))) (fun e => row_ne_map C3.names C3.map (hk.trans e)))
  have x4 : ∀ x ∈ E, Blk w4 x.2 (cellsC x.1.cols) 44 := fun x hx => (C3.cols x hx).block (hgr4.block _ (C3.cols x hx).lt (ne_some ((C3.cols x hx).ne_map C3.map)))
  have t4 : Blk w4 g (cellsC l) 44 := hblk.block (hgr4.block _ hblk.lt (ne_some (hblk.ne_map C3.map)))
  have b4 : Blk w4 w.heap.size [.string n, .slice a N cp, .string p, .int .i64 r] 32 := b4of (hb2 := hb2) hgr4
  have K4 : Keep (foot c m nv) w w4 := (Keep.of (bmore F2 hb2)).grown hgr4 (fun k hk => by cases hk; exact .inr (.inr (.inl rfl)))
  have hgw : w.heap.size ≤ g := Nat.le_trans F2.size hg
  go_wp2
  have hgd : Below w4.heap.size w4 (w4.alloc (.cells #[.string n] 9)).drew := (al _ _).drew
  have b5 : Blk (w4.alloc (.cells #[.string n] 9)).drew w4.heap.size [.string n] 9 := (blk_new w4 [.string n] 9).block rfl
  have c5 := c4.below hgd
  have n5 : (w4.alloc (.cells #[.string n] 9)).drew.ownsRow 0 9 1 nv E.length (namesV E) := ownsRow_block n4 (fun k hk => hgd.block _ (by obtain ⟨cur, hc⟩ := ownsRow_lt n4 hk; exact (Array.getElem?_eq_some_iff.1 hc).1))
  obtain ⟨i9, hi9, hzz⟩ := Option.map_eq_some_iff.1 info9
  simp only [Prod.mk.injEq] at hzz
  obtain ⟨hz9, hs9, hb9⟩ := hzz
  have hfew := h.few
  obtain ⟨gn, cap, w6, hrun6, hown6, hgrow6, hat6, hlt6⟩ := run_append_lies (P := Tryd.prog) (w4.alloc (.cells #[.string n] 9)).drew 51 51 0 9 i9 _ 1 16 Tryd.underlying51 hi9 hz9 hs9 hb9 rfl (by decide) nv E.length (namesV E) n5 ⟨w4.heap.size, 0, none⟩ 1 1 [.string n] rfl (World.news_of_block b5) (by simp [Value.oneCell']) (by decide) (by unfold maxLen; omega) (by omega) (Nat.zero_le _) _ rfl
  have c6 : Blk w6 c [.map (some m), nv] 61 := c5.block (hgrow6.block _ c5.lt (fun e => c5.ne_row n5 (by decide) e.symm))
  have x6 : ∀ x ∈ E, Blk w6 x.2 (cellsC x.1.cols) 44 := fun x hx => ((x4 x hx).below hgd).block (hgrow6.block _ ((x4 x hx).below hgd).lt (fun e => ((x4 x hx).below hgd).ne_row n5 (by decide) e.symm))
  have t6 : Blk w6 g (cellsC l) 44 := (t4.below hgd).block (hgrow6.block _ (t4.below hgd).lt (fun e => (t4.below hgd).ne_row n5 (by decide) e.symm))
  have m5 : (w4.alloc (.cells #[.string n] 9)).drew.ownsMap Tryd.prog 9 heldR m (E.length + 1) (DT ((⟨bs n, l, bs p, r⟩, g) :: E)) := (hown4.alloc _).drew
  have m6 : w6.ownsMap Tryd.prog 9 heldR m (E.length + 1) (DT ((⟨bs n, l, bs p, r⟩, g) :: E)) := m5.kept hgrow6 (fun e => row_ne_map n5 m5 e.symm)
  have K6 : Keep (foot c m nv) w w6 := (K4.trans (Keep.of (F := foot c m nv) hgd) (fun _ _ h => h)).grown hgrow6 (fun k hk => .inr (.inr (.inr hk)))
  have e1 := c4.here (j := 1) rfl
  have e2 := c5.here (j := 1) rfl
  have e3 := c6.here (j := 1) rfl
  have e4 := c6.frozen 1
  have e5 := b4.here (j := 0) rfl
  have e7 := (b4.below hgd).here (j := 0) rfl
  have hw4 : w.heap.size ≤ w4.heap.size := K4.size
  have HF : Hid (∃ nv' g, Cat (w6.setCell ⟨c, 1, none⟩ (.slice (some ⟨gn, 0, none⟩) (E.length + 1) cap)) c m nv' ((⟨bs n, l, bs p, r⟩, g) :: E) ∧ Keep (foot c m nv) w (w6.setCell ⟨c, 1, none⟩ (.slice (some ⟨gn, 0, none⟩) (E.length + 1) cap)) ∧ (∀ k, foot c m nv' k → foot c m nv k ∨ w.heap.size ≤ k) ∧ w.heap.size ≤ g) := by
    refine ⟨.slice (some ⟨gn, 0, none⟩) (E.length + 1) cap, g, ⟨c6.set _, ?_, ?_, ?_, ?_, ?_⟩, K6.set (.inr (.inl rfl)) _, ?_, hgw⟩
    · exact m6.setCell (fun e => c6.ne_map m6 e.symm) _
    · rw [namesV_cons]
      simp only [str_bs]
      exact ownsRow_block hown6 (fun k hk => Below.heap_setCell _ _ _ _ (fun e => c6.ne_row hown6 (by decide) (by rw [hk, show k = c from e])))
    · intro x hx
      rcases List.mem_cons.1 hx with rfl | hx
      · exact t6.other (fun e => t6.ne c6 (by decide) e) _
      · exact (x6 x hx).other (fun e => (x6 x hx).ne c6 (by decide) e) _
    · intro x hx
      rcases List.mem_cons.1 hx with rfl | hx
      · exact refuse_ok hr
      · exact h.ok x hx
    · have := refuse_few hr
      simp only [List.length_cons]
      omega
    · intro k hk
      rcases hk with rfl | rfl | hk
      · exact .inl (.inl rfl)
      · exact .inl (.inr (.inl rfl))
      · simp only [Value.ownBlock, Option.some.injEq] at hk
        subst hk
        rcases hat6 with h6 | rfl
        · exact .inl (.inr (.inr h6))
        · exact .inr (Nat.le_trans hw4 hgd.size)
  clear c5 n5 c6 x6 t6 m5 m6 K6 hgd b5 hown6 hgrow6 hat6 hlt6 x4 t4 n4 hi9 hz9 hs9 hb9
  have HRUN : Hid _ := hrun6
  clear hrun6
  obtain ⟨na, ncap, rfl⟩ := names_form h
  go_region_law (refine step_append_run rfl (.tmp 26) (.tmp 29) 51 rfl _ _ rfl rfl _ _ HRUN.out ?_)
  all_goals (
    go_wp2
    go_ret
    exact ⟨rfl, HF.out⟩)
end Go.Proofs.YtkoagjfbhkhfkaaDoor
