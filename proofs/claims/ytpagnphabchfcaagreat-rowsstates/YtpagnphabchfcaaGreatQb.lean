/- The document's own: a row whose values are its own. -/
import Derived.Test.YtpagnphabchfcaaGreatQa
import Derived.Test.YtpagnphabchfcaaGreatGc
import Derived.Test.YtpagnphabchfcaaGreatGd
namespace Go.Proofs.YtpagnphabchfcaaGreat
open Go.RowKit Go.Shelf
set_option maxRecDepth 100000
/-- Values in a block of one's own. -/
def OwnV (w : World) (B : Nat) (v : Value) (vs : List Vt) : Prop := w.ownsRow B 25 3 v vs.length (cellsV vs)
theorem OwnV.nil (w : World) (B : Nat) : OwnV w B (.slice none 0 0) [] := World.ownsRow_nil _ _ _ _
theorem OwnV.below {w w' : World} {B : Nat} {v : Value} {vs : List Vt} (h : OwnV w B v vs) (k : Below w.heap.size w w') : OwnV w' B v vs := owns_keep h (fun j hj => k.block j (World.ownsRow.lt h j hj).2)
theorem OwnV.sv {w : World} {B : Nat} {v : Value} {vs : List Vt} {X : Nat → Prop} (h : OwnV w B v vs) (hX : ∀ b, B ≤ b → ¬ X b) : SV w X v vs := by
  have hc := fun g hg => World.ownsRow.cells h (g := g) hg
  have hlt := World.ownsRow.lt h
  obtain ⟨_, ⟨rfl, h0⟩ | ⟨g, c, cur, rfl, _⟩⟩ := h
  · exact ⟨none, 0, by rw [h0], fun h => by omega⟩
  · refine ⟨_, c, rfl, fun _ => ⟨g, 0, rfl, (hlt g rfl).2, hX g (hlt g rfl).1, fun i e he => ?_⟩⟩
    obtain ⟨e1, e2, e3⟩ := cellsV_get vs i e he
    have q1 := hc g rfl _ _ e1
    have q2 := hc g rfl _ _ e2
    have q3 := hc g rfl _ _ e3
    rw [Addr.add_mid] at q1 q2 q3
    exact ⟨q1, by rw [Nat.add_assoc]; exact q2, by rw [Nat.add_assoc]; exact q3⟩
theorem cellsV_app (l m : List Vt) : cellsV (l ++ m) = cellsV l ++ cellsV m := by simp [cellsV]
theorem OwnV.cap {w : World} {B : Nat} {v : Value} {vs : List Vt} (h : OwnV w B v vs) : CapOk v := by
  obtain ⟨_, ⟨rfl, h0⟩ | ⟨g, c, cur, rfl, _, _, h1, _⟩⟩ := h
  · intro a n c e; cases e; exact Nat.le_refl _
  · intro a n c' e; cases e; exact h1
theorem OwnV.form {w : World} {B : Nat} {v : Value} {vs : List Vt} (h : OwnV w B v vs) : ∃ a c, v = .slice a vs.length c := SV.form (OwnV.sv (X := fun _ => False) h (fun _ _ => id))
theorem ownV_apps {w : World} {B : Nat} {X : Nat → Prop} {u lv : Value} {es es' : List Vt} (h : OwnV w B u es) (hV : SV w X lv es') (hn : es.length + es'.length ≤ 100000) (hB : B ≤ w.heap.size) :
    ∃ u' w', (Builtin.append_ #[35, 35] 35 #[u, lv]).run Tryz.prog w = .ok u' w' ∧ OwnV w' B u' (es ++ es') ∧ w.grownBy w' u.ownBlock := by
  obtain ⟨i0, hi, hz0, hz1, hz2⟩ := info_parts' info54
  have hcap := h.cap
  obtain ⟨a, c, rfl, hat⟩ := hV
  by_cases h0 : es' = []
  · subst h0
    rw [List.append_nil]
    have hsrc : Src Tryz.prog i0.size 35 (.slice a 0 c) 0 [] w := by
      cases a with
      | none => exact Src.ofNil w Tryz.underlying35 c
      | some a => exact Src.ofSlice w Tryz.underlying35 a 0 c [] (by simp) (by simp) (by simp)
    obtain ⟨b, n, rfl⟩ := h.form
    exact ⟨_, w, run_append_nothing w 35 35 35 25 i0 Tryz.underlying35 hi b es.length n (hcap _ _ _ rfl) _ hsrc, h, ⟨rfl, rfl, rfl, Nat.le_refl _, fun _ _ _ => rfl⟩⟩
  · have hpos : 0 < es'.length := List.length_pos_iff.2 h0
    obtain ⟨g, o, rfl, _, _, hta⟩ := hat hpos
    have hr := vals_range hta
    obtain ⟨v', w', hrun, r1, r2, r3, r4⟩ := run_append_own_at (P := Tryz.prog) w B 35 35 25 i0 (.agg #[.int .u8 0, .int .i64 0, .string ByteArray.empty]) 3 32 Tryz.underlying35 hi hz0 hz1 hz2 rfl (by decide) u es.length (cellsV es) h ⟨g, o, none⟩ es'.length c (cellsV es') (cellsV_length es') (fun j x hx => by
      rw [Addr.add_mid]; exact hr j x hx) (fun v hv => cellsV_one es' v hv) (by unfold maxLen; omega) (by omega) hB
    refine ⟨v', w', hrun, ?_, r2⟩
    unfold OwnV
    rw [List.length_append, cellsV_app]
    exact r1
theorem run_build0V (w : World) : (Instr.buildSlice 35 0 #[]).run Tryz.prog w = .ok (.slice (some ⟨w.heap.size, 0, none⟩) 0 0) (w.alloc (.cells #[] 25)) := by
  obtain ⟨i, hi, hz0, hz1, hz2⟩ := info_parts' info54
  simp [Instr.buildSlice, Sem.run_bind, run_underlying Tryz.underlying35, sizeOf, typeInfo, hi, Instr.fill, newRow, newObj]
  rw [show (Array.map (fun _ => (default : Value)) (Array.range 0)) = #[] by simp]
  rfl
theorem own_build0V (w : World) : OwnV (w.alloc (.cells #[] 25)) w.heap.size (.slice (some ⟨w.heap.size, 0, none⟩) 0 0) [] :=
  ⟨rfl, .inr ⟨w.heap.size, 0, #[], rfl, Nat.le_refl _, (MapKept.heap_alloc w _).1, Nat.le_refl _, by unfold maxLen; omega, rfl, rfl⟩⟩
theorem Blk.other {W : World} {b : Nat} {l : List Value} {t : TypeId} (h : Blk W b l t) {p : Addr} (hp : p.block ≠ b) (v : Value) : Blk (W.setCell p v) b l t := (Below.heap_setCell _ _ _ _ (fun e => hp e.symm)).trans h
/-- A result that is a row in a block. -/
theorem results_cell {fn : Func} {t : Tmp} {ty : TypeId} (h : fn.results = #[.cell t ty]) (tmps : Array Value) (P : Program) (w : World) (b : Nat) (l : List Value) (t' : TypeId) (hb : Blk w b l t') (ht : tmps.getD t undef = .pointer (some ⟨b, 0, none⟩)) (d : TypeDesc) (hu : P.underlying ty = some d) (hd : d.isRow = true) (hi : (P.info? ty).map (·.size) = some l.length) :
    (results fn tmps).run P w = .ok (.agg l.toArray) w := by
  have ht' : tmps[t]?.getD undef = .pointer (some ⟨b, 0, none⟩) := by simpa using ht
  simp [results, h, ht', asAddr, run_loadVar_mid w b 0 ty l d hb.whole hu hd hi]
set_option maxHeartbeats 1000000 in
theorem own49 {w : World} {X : Nat → Prop} {v : Value} {r : Rw} (h : SV w X v r.1) (hl : r.1.length ≤ 1000) :
    Calls Tryz.prog 49 #[RV v r] w fun e w' => ∃ v', e = .returned (RV v' r) ∧ SV w' (fun b => b < w.heap.size) v' r.1 ∧ Below w.heap.size w w' := by
  obtain ⟨a, c, rfl⟩ := h.form
  obtain ⟨vs, f, t⟩ := r
  simp only at h hl
  have hA1 := al w (.cells #[.slice a vs.length c, .int .i64 f, .int .i64 t] 64)
  have b1 := blk_new w [.slice a vs.length c, .int .i64 f, .int .i64 t] 64
  change Blk (w.alloc (.cells #[.slice a vs.length c, .int .i64 f, .int .i64 t] 64)) _ _ _ at b1
  have HApp : Hid (∃ v7 w7, (Builtin.append_ #[35, 35] 35 #[.slice (some ⟨w.heap.size + 1 + 1, 0, none⟩) 0 0, .slice a vs.length c]).run Tryz.prog (((w.alloc (.cells #[.slice a vs.length c, .int .i64 f, .int .i64 t] 64)).alloc (.cells #[.slice none 0 0, .int .i64 0, .int .i64 0] 64)).alloc (.cells #[] 25)) = .ok v7 w7 ∧ Hid (SV w7 (fun b => b < w.heap.size + 1 + 1) v7 vs ∧ Below w.heap.size w w7 ∧ Blk w7 w.heap.size [.slice a vs.length c, .int .i64 f, .int .i64 t] 64 ∧ Blk w7 (w.heap.size + 1) [.slice none 0 0, .int .i64 0, .int .i64 0] 64)) := by
    have hA2 := al (w.alloc (.cells #[.slice a vs.length c, .int .i64 f, .int .i64 t] 64)) (.cells #[.slice none 0 0, .int .i64 0, .int .i64 0] 64)
    have b2 := blk_at (w.alloc (.cells #[.slice a vs.length c, .int .i64 f, .int .i64 t] 64)) [.slice none 0 0, .int .i64 0, .int .i64 0] 64 (g := w.heap.size + 1) (by simp)
    change Blk ((w.alloc (.cells #[.slice a vs.length c, .int .i64 f, .int .i64 t] 64)).alloc (.cells #[.slice none 0 0, .int .i64 0, .int .i64 0] 64)) _ _ _ at b2
    have b1' := b1.below hA2
    have hs2 : ((w.alloc (.cells #[.slice a vs.length c, .int .i64 f, .int .i64 t] 64)).alloc (.cells #[.slice none 0 0, .int .i64 0, .int .i64 0] 64)).heap.size = w.heap.size + 1 + 1 := by simp
    have hB2 := bmore hA1 hA2
    generalize ((w.alloc (.cells #[.slice a vs.length c, .int .i64 f, .int .i64 t] 64)).alloc (.cells #[.slice none 0 0, .int .i64 0, .int .i64 0] 64)) = W2 at *
    have ho := own_build0V W2
    have hA3 := al W2 (.cells #[] 25)
    obtain ⟨v7, w7, hr, o7, g7⟩ := ownV_apps ho (h.below (bmore hB2 hA3)) (by simpa using (by omega : vs.length ≤ 100000)) hA3.size
    rw [List.nil_append] at o7
    rw [hs2] at hr o7
    have hk : Keep (fun b => b = W2.heap.size) W2 w7 := ((Keep.of (F := fun b => b = W2.heap.size) hA3).trans (keep_of_grown g7) (fun i _ h => by cases h; rfl))
    refine ⟨v7, w7, hr, OwnV.sv o7 (fun b hb => by omega), (bmore hB2 (hk.below (Nat.le_refl _) (fun i hi => by omega))), b1'.keep hk (by omega), b2.keep hk (by omega)⟩
  clear b1 hA1 h
  have hb0 := fun w => run_build0V w
  go_enter Tryz.func49, Tryz.ntmps49
  go_wp2_with (at_builtin; refine wpList_append_ex (by rfl) (.tmp 3) (.tmp 5) 35 (by rfl) _ _ (by rfl) (by rfl) HApp.out ?_; rintro v7 w7 ⟨hS7, hB7, b1, b2⟩; obtain ⟨p7, c7, rfl⟩ := SV.form hS7; have HS7 : Hid _ := hS7; have HB7 : Hid _ := hB7; have y0 : w7.cell? ⟨w.heap.size, 0, none⟩ = some (.slice a vs.length c) := b1.cell 0; have y1 : w7.cell? ⟨w.heap.size, 1, none⟩ = some (.int .i64 f) := b1.cell 1; have y2 : w7.cell? ⟨w.heap.size, 2, none⟩ = some (.int .i64 t) := b1.cell 2; have x0 : w7.cell? ⟨w.heap.size + 1, 0, none⟩ = some (.slice none 0 0) := b2.cell 0; have x1 : w7.cell? ⟨w.heap.size + 1, 1, none⟩ = some (.int .i64 0) := b2.cell 1; have x2 : w7.cell? ⟨w.heap.size + 1, 2, none⟩ = some (.int .i64 0) := b2.cell 2; have r0 := b1.frozen 0; have s0 := b2.frozen 0; have s1 := b2.frozen 1; have s2 := b2.frozen 2; have HB2 : Hid (Blk w7 (w.heap.size + 1) [.slice none 0 0, .int .i64 0, .int .i64 0] 64) := b2; clear b1 b2 hS7 hB7)
  have K8 : Keep (fun b => b < w.heap.size + 1 + 1 ∧ w.heap.size ≤ b) w7 ((((w7.setCell ⟨w.heap.size, 0, none⟩ (.slice p7 vs.length c7)).setCell ⟨w.heap.size + 1, 0, none⟩ (.slice p7 vs.length c7)).setCell ⟨w.heap.size + 1, 1, none⟩ (.int .i64 f)).setCell ⟨w.heap.size + 1, 2, none⟩ (.int .i64 t)) := ((((Keep.refl _ _).set (.inr (by show _ ∧ _; simp only; omega)) _).set (.inr (by show _ ∧ _; simp only; omega)) _).set (.inr (by show _ ∧ _; simp only; omega)) _).set (.inr (by show _ ∧ _; simp only; omega)) _
  refine bodyPost_ret (results_cell rfl _ _ _ (w.heap.size + 1) [.slice p7 vs.length c7, .int .i64 f, .int .i64 t] 64 ?_ rfl _ Tryz.underlying64 rfl (by kernel_rfl)) rfl ⟨_, rfl, ?_, ?_⟩
  · exact (((HB2.out.other (by simp) _).set _).set _).set _
  · exact SV.keep (SV.mono (w := w7) (X := fun b => b < w.heap.size + 1 + 1) (Y := fun b => b < w.heap.size + 1 + 1 ∧ w.heap.size ≤ b ∨ b < w.heap.size) HS7.out (fun b _ h => by omega)) (K8.mono (fun i _ h => .inl h)) (fun b _ h => .inr h)
  · exact HB7.out.trans (K8.below (B := w.heap.size) HB7.out.size (fun i hi h => by omega))
end Go.Proofs.YtpagnphabchfcaaGreat
