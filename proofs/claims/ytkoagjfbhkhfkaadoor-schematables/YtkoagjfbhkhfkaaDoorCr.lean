/- A catalog: why a table is refused. -/
import Derived.Test.YtkoagjfbhkhfkaaDoorCg
import Derived.BigQuiet
namespace Go.Proofs.YtkoagjfbhkhfkaaDoor
open Go.RowKit Go.Lib
set_option maxRecDepth 100000
variable {w w' : World} {c m : Nat} {nv : Value} {E : List En}
def kindAt (l : List Cl) (i : Nat) : Nat := (l.getD i ([], 0)).2
/-- Why a table is refused. -/
def refuse (E : List En) (t : Tb) : Int :=
  if rtB t.n t.cols t.p t.r = false then 3
  else if (fnd E t.n).isSome then 6
  else if 3 ≤ E.length then 4
  else if t.p = [] then 0
  else match fnd E t.p with
    | none => 5
    | some x => if kindAt t.cols t.r.toNat = kindAt x.1.cols 0 then 0 else 9
theorem names_form (h : Cat w c m nv E) : ∃ a cap, nv = .slice a E.length cap := by
  rcases h.names.2 with ⟨rfl, h0⟩ | ⟨g, cap, cur, rfl, _⟩
  · exact ⟨none, 0, by rw [h0]⟩
  · exact ⟨_, cap, rfl⟩
theorem bdrewN {B : Nat} {a b : World} (h : Below B a b) (n : Nat) : Below B a (b.drewN n) := h.trans ⟨rfl, rfl, rfl, Nat.le_refl _, fun _ _ => rfl⟩
theorem nameR_size {l : Bs} (h : nameR l = true) : l.length ≤ 8 := by
  simp only [nameR, Bool.and_eq_true, decide_eq_true_eq] at h
  exact h.1.2
theorem rtB_name {n : Bs} {l : List Cl} {p : Bs} {r : Int} (h : rtB n l p r = true) : n.length ≤ 8 := by
  simp only [rtB, Bool.and_eq_true] at h
  exact nameR_size h.1.1
theorem cellsC_kind {l : List Cl} {i : Nat} (h : i < l.length) : (cellsC l)[i * 2 + 1]? = some (.int .u8 (kindAt l i : Int)) := by
  have := (cellsC_get l i l[i] (List.getElem?_eq_getElem h)).2
  rw [this]
  simp [kindAt, List.getD, List.getElem?_eq_getElem h]
set_option maxHeartbeats 2000000 in
theorem refusal10 (h : Cat w c m nv E) (n p : ByteArray) (v : Value) (l : List Cl) (r : Int) (hv : SC w v l) (hl : l.length ≤ 1000) :
    Calls Tryd.prog 41 #[.pointer (some ⟨c, 0, none⟩), TB n v p r] w fun e w' => e = .returned (.int .i64 (refuse E ⟨bs n, l, bs p, r⟩)) ∧ Below w.heap.size w w' := by
  have H8 : Hid (∀ w1, Below w.heap.size w w1 → Calls Tryd.prog 11 #[TB n v p r] w1 fun e w' => e = .returned (.bool (rtB (bs n) l (bs p) r)) ∧ Below w1.heap.size w1 w') := fun w1 h1 => right8 n p v l r w1 (hv.below h1) hl
  have HSC : Hid (∀ w1, Below w.heap.size w w1 → SC w1 v l) := fun w1 h1 => hv.below h1
  have HC : Hid (∀ w1, Below w.heap.size w w1 → Cat w1 c m nv E) := fun w1 h1 => h.below h1
  obtain ⟨a, cp, rfl, _⟩ := hv
  obtain ⟨R, hR⟩ : ∃ R, refuse E ⟨bs n, l, bs p, r⟩ = R := ⟨_, rfl⟩
  have HR : Hid (refuse E ⟨bs n, l, bs p, r⟩ = R) := hR
  rw [hR]
  clear hR
  cases hrt : rtB (bs n) l (bs p) r
  · rw [hrt] at H8
    have HV : Hid (R = 3) := by show _ = _; rw [← HR.out]; simp [refuse, hrt]
    go_enter Tryd.func41, Tryd.ntmps41
    go_wp2_with (go_at_call 11; refine (H8.out _ (al _ _)).mono ?_; rintro e w1 ⟨rfl, hb1⟩)
    go_ret
    exact ⟨by rw [HV.out]; rfl, bmore (al _ _) hb1⟩
  · rw [hrt] at H8
    have hn : n.size ≤ maxLen := by
      have h5 := rtB_name hrt
      rw [bs_length] at h5
      unfold maxLen
      omega
    go_enter Tryd.func41, Tryd.ntmps41
    go_wp2_with (go_at_call 11; refine (H8.out _ (al _ _)).mono ?_; rintro e w1 ⟨rfl, hb1⟩; have F1 := bmore (al _ _) hb1; have b0 := (blk_new w [.string n, .slice a l.length cp, .string p, .int .i64 r] 32).below hb1)
    have F2 : Below w.heap.size w w1.drew := F1.drew
    have hb2 := (HC.out _ F2).blk.cell 0
    have hb3 := fun o => (HC.out _ (bal F2 o)).blk.cell 0
    have b1 := b0.block (W' := w1.drew) rfl
    have hn2 := b1.cell 0
    have hn3 := fun o => (b1.below (al _ o)).cell 0
    have hk2 := (HC.out _ F2).look n hn
    have hk3 := fun o => (HC.out _ (bal F2 o)).look n hn
    simp only [List.getElem?_cons_zero] at hb2 hb3 hn2 hn3
    cases hfn : fnd E (bs n) with
    | some x =>
      have HV : Hid (R = 6) := by show _ = _; rw [← HR.out]; simp [refuse, hrt, hfn]
      rw [hfn] at hk2 hk3
      simp only [Option.map_some, Option.getD_some, Option.isSome_some] at hk2 hk3
      unfold tv at hk2 hk3
      generalize str x.1.n = xn at *
      generalize str x.1.p = xp at *
      generalize x.1.cols.length = xl at *
      generalize x.1.r = xr at *
      have hS0 : w1.drew.cell? ⟨c, 0, none⟩ = some (.map (some m)) ∧ w1.drew.cell? ⟨w.heap.size, 0, none⟩ = some (.string n) ∧ (Instr.lookup 59 (.map (some m)) (.string n) true).run Tryd.prog w1.drew = .ok (.tuple #[TB xn (.slice (some ⟨x.2, 0, none⟩) xl xl) xp xr, .bool true]) w1.drew := ⟨hb2, hn2, hk2⟩
      have hS1 : ∀ o, (w1.drew.alloc o).cell? ⟨c, 0, none⟩ = some (.map (some m)) ∧ (w1.drew.alloc o).cell? ⟨w.heap.size, 0, none⟩ = some (.string n) ∧ (Instr.lookup 59 (.map (some m)) (.string n) true).run Tryd.prog (w1.drew.alloc o) = .ok (.tuple #[TB xn (.slice (some ⟨x.2, 0, none⟩) xl xl) xp xr, .bool true]) (w1.drew.alloc o) := fun o => ⟨hb3 o, hn3 o, hk3 o⟩
      have HS1 : Hid _ := hS1
      clear hb2 hb3 hn2 hn3 hk2 hk3 hS1
      go_region_held3 (fun w' => w'.cell? ⟨c, 0, none⟩ = some (.map (some m)) ∧ w'.cell? ⟨w.heap.size, 0, none⟩ = some (.string n) ∧ (Instr.lookup 59 (.map (some m)) (.string n) true).run Tryd.prog w' = .ok (.tuple #[TB xn (.slice (some ⟨x.2, 0, none⟩) xl xl) xp xr, .bool true]) w') (first | exact hS0 | exact HS1.out _) (skip)
      all_goals (
        go_wp2
        go_ret
        exact ⟨by rw [HV.out]; rfl, bmore F1 (by first | exact (al _ _).drew | exact bal (Below.refl _ _).drew _)⟩)
    | none =>
      rw [hfn] at hk2 hk3
      simp only [Option.map_none, Option.getD_none, Option.isSome_none] at hk2 hk3
      have hS0 : w1.drew.cell? ⟨c, 0, none⟩ = some (.map (some m)) ∧ w1.drew.cell? ⟨w.heap.size, 0, none⟩ = some (.string n) ∧ (Instr.lookup 59 (.map (some m)) (.string n) true).run Tryd.prog w1.drew = .ok (.tuple #[TB0, .bool false]) w1.drew := ⟨hb2, hn2, hk2⟩
      have hS1 : ∀ o, (w1.drew.alloc o).cell? ⟨c, 0, none⟩ = some (.map (some m)) ∧ (w1.drew.alloc o).cell? ⟨w.heap.size, 0, none⟩ = some (.string n) ∧ (Instr.lookup 59 (.map (some m)) (.string n) true).run Tryd.prog (w1.drew.alloc o) = .ok (.tuple #[TB0, .bool false]) (w1.drew.alloc o) := fun o => ⟨hb3 o, hn3 o, hk3 o⟩
      have HS1 : Hid _ := hS1
      clear hb2 hb3 hn2 hn3 hk2 hk3 hS1
      go_region_held3 (fun w' => w'.cell? ⟨c, 0, none⟩ = some (.map (some m)) ∧ w'.cell? ⟨w.heap.size, 0, none⟩ = some (.string n) ∧ (Instr.lookup 59 (.map (some m)) (.string n) true).run Tryd.prog w' = .ok (.tuple #[TB0, .bool false]) w') (first | exact hS0 | exact HS1.out _) (skip)
      all_goals (
        obtain ⟨W3, hW3⟩ : ∃ W3, (w1.alloc (.cells #[.string ⟨#[]⟩, .slice none 0 0, .string ⟨#[]⟩, .int .i64 0] 32)).drew = W3 := ⟨_, rfl⟩
        have F3 : Below w.heap.size w W3 := by rw [← hW3]; exact (bal F1 _).drew
        have b3 : Blk W3 w.heap.size [.string n, .slice a l.length cp, .string p, .int .i64 r] 32 := by rw [← hW3]; exact (b0.below (al _ _)).block rfl
        rw [hW3]
        clear hW3 hS0 HS1 b0 b1 F1 F2
        obtain ⟨na, ncap, rfl⟩ := names_form h
        have hc1 := (HC.out _ F3).blk.cell 1
        have hp0 := b3.cell 2
        simp only [List.getElem?_cons_zero, List.getElem?_cons_succ] at hc1 hp0
        by_cases h3 : 3 ≤ E.length
        · have h3i : (3 : Int) ≤ (E.length : Int) := by omega
          have HV : Hid (R = 4) := by show _ = _; rw [← HR.out]; simp [refuse, hrt, hfn, h3]
          go_wp2
          go_ret
          exact ⟨by rw [HV.out]; rfl, F3⟩
        · have h3i : ¬ (3 : Int) ≤ (E.length : Int) := by omega
          by_cases hp0' : bs p = []
          · obtain rfl : p = ⟨#[]⟩ := by have := congrArg str hp0'; rw [str_bs] at this; exact this
            have HV : Hid (R = 0) := by show _ = _; rw [← HR.out]; simp [refuse, hrt, hfn, h3, hp0']
            go_wp2
            go_ret
            exact ⟨by rw [HV.out]; rfl, F3⟩
          · have hem : p.toList.isEmpty = false := by
              rw [toList_data]
              cases hb : bs p with
              | nil => exact absurd hb hp0'
              | cons x t => rw [show p.data.toList = x :: t from hb]; rfl
            obtain ⟨q, hq⟩ : ∃ q : Nat, r = (q : Int) ∧ q < l.length ∧ p.size ≤ 8 := by
              have hrt' := hrt
              simp only [rtB, rpB, if_neg hp0', Bool.and_eq_true, decide_eq_true_eq] at hrt'
              obtain ⟨_, ⟨h5, h6⟩, h7⟩ := hrt'
              refine ⟨r.toNat, by omega, by omega, ?_⟩
              have := nameR_size h5
              rwa [bs_length] at this
            obtain ⟨rfl, hql, hp8⟩ := hq
            have hp : p.size ≤ maxLen := by unfold maxLen; omega
            go_wp2
            have F4 : Below w.heap.size w W3.drew := F3.drew
            have b4 := b3.block (W' := W3.drew) rfl
            have hb2 := (HC.out _ F4).blk.cell 0
            have hb3 := fun o => (HC.out _ (bal F4 o)).blk.cell 0
            have hn2 := b4.cell 2
            have hn3 := fun o => (b4.below (al _ o)).cell 2
            have hk2 := (HC.out _ F4).look p hp
            have hk3 := fun o => (HC.out _ (bal F4 o)).look p hp
            simp only [List.getElem?_cons_zero, List.getElem?_cons_succ] at hb2 hb3 hn2 hn3
            cases hfp : fnd E (bs p) with
            | none =>
              rw [hfp] at hk2 hk3
              simp only [Option.map_none, Option.getD_none, Option.isSome_none] at hk2 hk3
              have HV : Hid (R = 5) := by show _ = _; rw [← HR.out]; simp [refuse, hrt, hfn, h3, hp0', hfp]
              have hS0 : W3.drew.cell? ⟨c, 0, none⟩ = some (.map (some m)) ∧ W3.drew.cell? ⟨w.heap.size, 2, none⟩ = some (.string p) ∧ (Instr.lookup 59 (.map (some m)) (.string p) true).run Tryd.prog W3.drew = .ok (.tuple #[TB0, .bool false]) W3.drew := ⟨hb2, hn2, hk2⟩
              have hS1 : ∀ o, (W3.drew.alloc o).cell? ⟨c, 0, none⟩ = some (.map (some m)) ∧ (W3.drew.alloc o).cell? ⟨w.heap.size, 2, none⟩ = some (.string p) ∧ (Instr.lookup 59 (.map (some m)) (.string p) true).run Tryd.prog (W3.drew.alloc o) = .ok (.tuple #[TB0, .bool false]) (W3.drew.alloc o) := fun o => ⟨hb3 o, hn3 o, hk3 o⟩
              have HS1 : Hid _ := hS1
              clear hb2 hb3 hn2 hn3 hk2 hk3 hS1
              go_region_held3 (fun w' => w'.cell? ⟨c, 0, none⟩ = some (.map (some m)) ∧ w'.cell? ⟨w.heap.size, 2, none⟩ = some (.string p) ∧ (Instr.lookup 59 (.map (some m)) (.string p) true).run Tryd.prog w' = .ok (.tuple #[TB0, .bool false]) w') (first | exact hS0 | exact HS1.out _) (skip)
              all_goals (
                go_wp2
                go_ret
                exact ⟨by rw [HV.out]; rfl, bmore F3 (by first | exact (al _ _).drew | exact bal (Below.refl _ _).drew _)⟩)
            | some x =>
              rw [hfp] at hk2 hk3
              simp only [Option.map_some, Option.getD_some, Option.isSome_some] at hk2 hk3
              unfold tv at hk2 hk3
              have hx := (fnd_mem hfp).1
              have hxl : (0 : Int) < (x.1.cols.length : Int) := by have := rtB_cols (h.ok x hx); omega
              have hxc := cellsC_kind (l := x.1.cols) (i := 0) (by omega)
              have hxb := fun w1 h1 => (HC.out w1 h1).cols x hx
              generalize hxn : str x.1.n = xn at *
              generalize hxp : str x.1.p = xp at *
              generalize hxll : x.1.cols.length = xl at *
              generalize x.1.r = xr at *
              have hS0 : W3.drew.cell? ⟨c, 0, none⟩ = some (.map (some m)) ∧ W3.drew.cell? ⟨w.heap.size, 2, none⟩ = some (.string p) ∧ (Instr.lookup 59 (.map (some m)) (.string p) true).run Tryd.prog W3.drew = .ok (.tuple #[TB xn (.slice (some ⟨x.2, 0, none⟩) xl xl) xp xr, .bool true]) W3.drew := ⟨hb2, hn2, hk2⟩
              have hS1 : ∀ o, (W3.drew.alloc o).cell? ⟨c, 0, none⟩ = some (.map (some m)) ∧ (W3.drew.alloc o).cell? ⟨w.heap.size, 2, none⟩ = some (.string p) ∧ (Instr.lookup 59 (.map (some m)) (.string p) true).run Tryd.prog (W3.drew.alloc o) = .ok (.tuple #[TB xn (.slice (some ⟨x.2, 0, none⟩) xl xl) xp xr, .bool true]) (W3.drew.alloc o) := fun o => ⟨hb3 o, hn3 o, hk3 o⟩
              have HS1 : Hid _ := hS1
              clear hb2 hb3 hn2 hn3 hk2 hk3 hS1
              go_region_held3 (fun w' => w'.cell? ⟨c, 0, none⟩ = some (.map (some m)) ∧ w'.cell? ⟨w.heap.size, 2, none⟩ = some (.string p) ∧ (Instr.lookup 59 (.map (some m)) (.string p) true).run Tryd.prog w' = .ok (.tuple #[TB xn (.slice (some ⟨x.2, 0, none⟩) xl xl) xp xr, .bool true]) w') (first | exact hS0 | exact HS1.out _) (skip)
              all_goals (
                go_wp2
                obtain ⟨W5, hW5⟩ : ∃ W5, (W3.alloc (.cells #[.string xn, .slice (some ⟨x.2, 0, none⟩) xl xl, .string xp, .int .i64 xr] 32)).drew = W5 := ⟨_, rfl⟩
                have F5 : Below w.heap.size w W5 := by rw [← hW5]; exact (bal F3 _).drew
                have b5 : Blk W5 w.heap.size [.string n, .slice a l.length cp, .string p, .int .i64 (q : Int)] 32 := by rw [← hW5]; exact (b3.below (al _ _)).block rfl
                have b6 : Blk W5 W3.heap.size [.string xn, .slice (some ⟨x.2, 0, none⟩) xl xl, .string xp, .int .i64 xr] 32 := by rw [← hW5]; exact (blk_new W3 _ 32).block rfl
                rw [hW5]
                clear hW5 hS0 HS1 b3 b4 F4
                obtain ⟨a', c', he, hat⟩ := HSC.out _ F5
                cases he
                obtain ⟨g, o, rfl, hgl, hco⟩ := hat (by omega)
                have hq2 := (hco q l[q] (List.getElem?_eq_getElem hql)).2
                have hq3 : l[q].2 = kindAt l q := by simp [kindAt, List.getD, List.getElem?_eq_getElem hql]
                rw [hq3] at hq2
                have hx2 := ((hxb _ F5).cell (0 * 2 + 1)).trans hxc
                have e1 := b5.cell 1
                have e3 := b5.cell 3
                have d1 := b6.cell 1
                simp only [List.getElem?_cons_zero, List.getElem?_cons_succ, Nat.zero_mul, Nat.zero_add] at e1 e3 d1 hx2
                have hq0 : (0 : Int) ≤ (q : Int) := by omega
                have hq1 : (q : Int) < (l.length : Int) := by omega
                have HV : Hid (R = if kindAt l q = kindAt x.1.cols 0 then 0 else 9) := by show _ = _; rw [← HR.out]; simp [refuse, hrt, hfn, h3, hp0', hfp]
                generalize kindAt l q = k1 at *
                generalize kindAt x.1.cols 0 = k2 at *
                have hS0 : W5.cell? ⟨w.heap.size, 1, none⟩ = some (.slice (some ⟨g, o, none⟩) l.length cp) ∧ W5.cell? ⟨w.heap.size, 3, none⟩ = some (.int .i64 (q : Int)) ∧ W5.cell? ⟨g, o + q * 2 + 1, none⟩ = some (.int .u8 (k1 : Int)) ∧ W5.cell? ⟨W3.heap.size, 1, none⟩ = some (.slice (some ⟨x.2, 0, none⟩) xl xl) ∧ W5.cell? ⟨x.2, 1, none⟩ = some (.int .u8 (k2 : Int)) := ⟨e1, e3, hq2, d1, hx2⟩
                clear e1 e3 hq2 d1 hx2 b5 b6 hco hat HSC HC hxb
                by_cases hkk : k1 = k2
                · subst hkk
                  rw [if_pos rfl] at HV
                  obtain ⟨z1, z2, z3, z4, z5⟩ := hS0
                  go_quiet (fail)
                  go_wp2
                  go_ret
                  exact ⟨by rw [HV.out]; rfl, bdrewN F5 _⟩
                · rw [if_neg hkk] at HV
                  have hkb : ((k1 : Int) != (k2 : Int)) = true := by simp; omega
                  obtain ⟨z1, z2, z3, z4, z5⟩ := hS0
                  go_quiet (fail)
                  go_wp2
                  go_ret
                  exact ⟨by rw [HV.out]; rfl, bdrewN F5 _⟩))
end Go.Proofs.YtkoagjfbhkhfkaaDoor
