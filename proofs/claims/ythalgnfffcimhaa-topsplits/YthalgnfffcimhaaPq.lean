/- The law TopSplits. -/
import Derived.Test.YthalgnfffcimhaaPp
namespace Go.Proofs.Ythalgnfffcimhaa
open Go.RowKit Go.Shelf
set_option maxRecDepth 100000
abbrev xA (k v u : Vt) : Array Value := #[.int .u8 k.1, .int .i64 k.2.1, .string k.2.2, .int .u8 v.1, .int .i64 v.2.1, .string v.2.2, .int .u8 u.1, .int .i64 u.2.1, .string u.2.2]
abbrev xL (k v u : Vt) : List Value := [.int .u8 k.1, .int .i64 k.2.1, .string k.2.2, .int .u8 v.1, .int .i64 v.2.1, .string v.2.2, .int .u8 u.1, .int .i64 u.2.1, .string u.2.2]
theorem boxes3 (w : World) (x : List Value) (f t a b : Int) : Blk (((w.alloc (.cells x.toArray 25)).alloc (.cells #[.int .i64 f, .int .i64 t] 27)).alloc (.cells #[.int .i64 a, .int .i64 b] 27)) w.heap.size x 25 ∧ Blk (((w.alloc (.cells x.toArray 25)).alloc (.cells #[.int .i64 f, .int .i64 t] 27)).alloc (.cells #[.int .i64 a, .int .i64 b] 27)) (w.heap.size + 1) [.int .i64 f, .int .i64 t] 27 ∧ Blk (((w.alloc (.cells x.toArray 25)).alloc (.cells #[.int .i64 f, .int .i64 t] 27)).alloc (.cells #[.int .i64 a, .int .i64 b] 27)) (w.heap.size + 1 + 1) [.int .i64 a, .int .i64 b] 27 ∧ Below w.heap.size w (((w.alloc (.cells x.toArray 25)).alloc (.cells #[.int .i64 f, .int .i64 t] 27)).alloc (.cells #[.int .i64 a, .int .i64 b] 27)) := by
  refine ⟨((blk_new w x 25).below (al _ _)).below (al _ _), ?_, ?_, bal (bal (al _ _) _) _⟩
  · have := (blk_new (w.alloc (.cells x.toArray 25)) [.int .i64 f, .int .i64 t] 27).below (al _ (.cells #[.int .i64 a, .int .i64 b] 27))
    simpa using this
  · have := blk_new ((w.alloc (.cells x.toArray 25)).alloc (.cells #[.int .i64 f, .int .i64 t] 27)) [.int .i64 a, .int .i64 b] 27
    simpa using this
theorem al3blk (W : World) (A B C : List Value) : Blk (((W.alloc (.cells A.toArray 24)).alloc (.cells B.toArray 24)).alloc (.cells C.toArray 24)).drew W.heap.size A 24 ∧ Blk (((W.alloc (.cells A.toArray 24)).alloc (.cells B.toArray 24)).alloc (.cells C.toArray 24)).drew (W.heap.size + 1) B 24 ∧ Blk (((W.alloc (.cells A.toArray 24)).alloc (.cells B.toArray 24)).alloc (.cells C.toArray 24)).drew (W.heap.size + 1 + 1) C 24 ∧ Below W.heap.size W (((W.alloc (.cells A.toArray 24)).alloc (.cells B.toArray 24)).alloc (.cells C.toArray 24)).drew := by
  have h1 : Blk (((W.alloc (.cells A.toArray 24)).alloc (.cells B.toArray 24)).alloc (.cells C.toArray 24)) W.heap.size A 24 := ((blk_new W A 24).below (al _ (.cells B.toArray 24))).below (al _ (.cells C.toArray 24))
  refine ⟨h1, ?_, ?_, (bal (bal (al _ _) _) _).drew⟩
  · have := (blk_new (W.alloc (.cells A.toArray 24)) B 24).below (al _ (.cells C.toArray 24))
    rw [show (W.alloc (.cells A.toArray 24)).heap.size = W.heap.size + 1 by simp] at this
    exact this
  · have := blk_new ((W.alloc (.cells A.toArray 24)).alloc (.cells B.toArray 24)) C 24
    rw [show ((W.alloc (.cells A.toArray 24)).alloc (.cells B.toArray 24)).heap.size = W.heap.size + 1 + 1 by simp] at this
    exact this
/-- The law's three values, each in a block. -/
structure KVU (W1 W : World) (k v u : Vt) (b7 b8 b9 : Nat) : Prop where
  k : Blk W b7 (vL k) 24
  v : Blk W b8 (vL v) 24
  u : Blk W b9 (vL u) 24
  b : Below W1.heap.size W1 W
theorem rl_one {W : World} {g : Nat} {sv : Value} {vl : List Vt} {f t : Int} (hb : Blk W g [sv, .int .i64 f, .int .i64 t] 30) (hsv : SV W (fun _ => False) sv vl) : RL W (fun _ => False) (.slice (some ⟨g, 0, none⟩) 1 1) [(sv, vl, f, t)] := by
  refine ⟨⟨some ⟨g, 0, none⟩, 1, rfl, fun _ => ⟨g, 0, rfl, hb.lt, fun h => h, fun i e he => ?_⟩⟩, fun e he => ?_⟩
  · match i with
    | 0 => cases he; exact ⟨hb.cell 0, hb.cell 1, hb.cell 2⟩
    | i + 1 => simp at he
  · simp only [List.mem_singleton] at he
    subst he
    exact hsv
theorem st_one (p : Option Addr) (n c : Nat) (a b : Int) : (stL zf (.slice p n c) none 0 a b).toArray.all (·.oneCell') = true := by simp [zf, Value.oneCell']
abbrev z20 : Array Value := #[.int .u8 0, .string { data := #[] }, .slice none 0 0, .string { data := #[] }, .int .i64 0, .string { data := #[] }, .slice none 0 0, .slice none 0 0, .slice none 0 0, .bool false, .int .i64 0, .int .i64 0, .slice none 0 0, .string { data := #[] }, .string { data := #[] }, .string { data := #[] }, .string { data := #[] }, .int .u8 0, .int .i64 0, .int .i64 0]
/-- A statement that was laid. -/
theorem laid47 (W : World) (S : Obj) (old : Array Value) (cells : List Value) : ((W.alloc S).alloc (.cells old 47)).heap[W.heap.size + 1]? = some (.cells old 47 (0, 0)) ∧ Blk (((W.alloc S).alloc (.cells old 47)).setRow (W.heap.size + 1) cells.toArray) (W.heap.size + 1) cells 47 ∧ Below W.heap.size W (((W.alloc S).alloc (.cells old 47)).setRow (W.heap.size + 1) cells.toArray) ∧ (((W.alloc S).alloc (.cells old 47)).setRow (W.heap.size + 1) cells.toArray).heap[W.heap.size]? = (W.alloc S).heap[W.heap.size]? ∧ (((W.alloc S).alloc (.cells old 47)).setRow (W.heap.size + 1) cells.toArray).heap.size = W.heap.size + 2 := by
  have h1 : ((W.alloc S).alloc (.cells old 47)).heap[W.heap.size + 1]? = some (.cells old 47 (0, 0)) := by
    have := World.alloc_heap_new (W.alloc S) (.cells old 47)
    rwa [World.size_alloc] at this
  have hb := bal (al W S) (.cells old 47)
  refine ⟨h1, setRow_heap _ _ _ _ _ _ h1, ⟨hb.os, hb.tape, hb.output, by rw [setRow_size]; exact hb.size, fun q hq => (setRow_other _ _ _ _ (by omega)).trans (hb.block q hq)⟩, (setRow_other _ _ _ _ (by omega)).trans (Below.heap_alloc _ _ _ (by simp)), by rw [setRow_size]; simp⟩
theorem laid47' (W : World) (old : Array Value) (cells : List Value) : (W.alloc (.cells old 47)).heap[W.heap.size]? = some (.cells old 47 (0, 0)) ∧ Blk ((W.alloc (.cells old 47)).setRow W.heap.size cells.toArray) W.heap.size cells 47 ∧ Below W.heap.size W ((W.alloc (.cells old 47)).setRow W.heap.size cells.toArray) := by
  have h1 := World.alloc_heap_new W (.cells old 47)
  have hb := al W (.cells old 47)
  exact ⟨h1, setRow_heap _ _ _ _ _ _ h1, ⟨hb.os, hb.tape, hb.output, by rw [setRow_size]; exact hb.size, fun q hq => (setRow_other _ _ _ _ (by omega)).trans (hb.block q hq)⟩⟩
set_option maxHeartbeats 2000000 in
theorem topSplits3 (k v u : Vt) (f t a b : Int) (w : World) :
    Calls Try.prog 3 #[.agg (xA k v u), .agg #[.int .i64 f, .int .i64 t], .agg #[.int .i64 a, .int .i64 b]] w fun e w' => e = .returned (.bool true) ∧ Below w.heap.size w w' := by
  obtain ⟨bx, bs, bp, hb⟩ := boxes3 w (xL k v u) f t a b
  go_enter Try.func3, Try.ntmps3
  go_upto_region 1 with fail
  generalize World.alloc (World.alloc (World.alloc w _) _) _ = W1 at *
  have HX : Hid (∀ W, Below W1.heap.size W1 W → W.cell? ⟨w.heap.size, 0, none⟩ = some (.int .u8 k.1) ∧ W.cell? ⟨w.heap.size, 1, none⟩ = some (.int .i64 k.2.1) ∧ W.cell? ⟨w.heap.size, 2, none⟩ = some (.string k.2.2) ∧ W.cell? ⟨w.heap.size, 3, none⟩ = some (.int .u8 v.1) ∧ W.cell? ⟨w.heap.size, 4, none⟩ = some (.int .i64 v.2.1) ∧ W.cell? ⟨w.heap.size, 5, none⟩ = some (.string v.2.2) ∧ W.cell? ⟨w.heap.size, 6, none⟩ = some (.int .u8 u.1) ∧ W.cell? ⟨w.heap.size, 7, none⟩ = some (.int .i64 u.2.1) ∧ W.cell? ⟨w.heap.size, 8, none⟩ = some (.string u.2.2)) := fun W q => ⟨(bx.below q).cell 0, (bx.below q).cell 1, (bx.below q).cell 2, (bx.below q).cell 3, (bx.below q).cell 4, (bx.below q).cell 5, (bx.below q).cell 6, (bx.below q).cell 7, (bx.below q).cell 8⟩
  have hx0 := HX.out _ (Below.refl _ _)
  have BS : Hid (Blk W1 (w.heap.size + 1) [.int .i64 f, .int .i64 t] 27) := bs
  have BP : Hid (Blk W1 (w.heap.size + 1 + 1) [.int .i64 a, .int .i64 b] 27) := bp
  have HB : Hid (Below w.heap.size w W1) := hb
  clear bx bs bp hb
  go_cut [7, 8, 9] from 23 (fun u7 u8 u9 wx => ∃ b7 b8 b9 : Nat, u7 = .pointer (some ⟨b7, 0, none⟩) ∧ u8 = .pointer (some ⟨b8, 0, none⟩) ∧ u9 = .pointer (some ⟨b9, 0, none⟩) ∧ KVU W1 wx k v u b7 b8 b9)
  case first =>
    go_region_held3 (fun W => W.cell? ⟨w.heap.size, 0, none⟩ = some (.int .u8 k.1) ∧ W.cell? ⟨w.heap.size, 1, none⟩ = some (.int .i64 k.2.1) ∧ W.cell? ⟨w.heap.size, 2, none⟩ = some (.string k.2.2) ∧ W.cell? ⟨w.heap.size, 3, none⟩ = some (.int .u8 v.1) ∧ W.cell? ⟨w.heap.size, 4, none⟩ = some (.int .i64 v.2.1) ∧ W.cell? ⟨w.heap.size, 5, none⟩ = some (.string v.2.2) ∧ W.cell? ⟨w.heap.size, 6, none⟩ = some (.int .u8 u.1) ∧ W.cell? ⟨w.heap.size, 7, none⟩ = some (.int .i64 u.2.1) ∧ W.cell? ⟨w.heap.size, 8, none⟩ = some (.string u.2.2)) (first | (refine HX.out _ ?_; (repeat (first | exact Below.refl _ _ | refine Below.drew ?_ | refine bal ?_ _ | refine Below.setCell ?_ (by simp) _)); done)) (fail)
    all_goals (go_wp2_with fail)
    all_goals go_meet
    all_goals (first | (have h := al3blk W1 (vL k) (vL v) (vL u); exact ⟨_, _, _, rfl, rfl, rfl, ⟨h.1, h.2.1, h.2.2.1, h.2.2.2⟩⟩) | (have h := al3blk W1 (vL k) (vL u) (vL v); exact ⟨_, _, _, rfl, rfl, rfl, ⟨h.1, h.2.2.1, h.2.1, h.2.2.2⟩⟩) | (have h := al3blk W1 (vL v) (vL k) (vL u); exact ⟨_, _, _, rfl, rfl, rfl, ⟨h.2.1, h.1, h.2.2.1, h.2.2.2⟩⟩) | (have h := al3blk W1 (vL v) (vL u) (vL k); exact ⟨_, _, _, rfl, rfl, rfl, ⟨h.2.2.1, h.1, h.2.1, h.2.2.2⟩⟩) | (have h := al3blk W1 (vL u) (vL k) (vL v); exact ⟨_, _, _, rfl, rfl, rfl, ⟨h.2.1, h.2.2.1, h.1, h.2.2.2⟩⟩) | (have h := al3blk W1 (vL u) (vL v) (vL k); exact ⟨_, _, _, rfl, rfl, rfl, ⟨h.2.2.1, h.2.1, h.1, h.2.2.2⟩⟩))
  case rest =>
    obtain ⟨b7, b8, b9, rfl, rfl, rfl, hkvu⟩ := hcut
    clear hx0 HX
    have c0 := hkvu.k.cell 0
    have c1 := hkvu.k.cell 1
    have c2 := hkvu.k.cell 2
    have d0 := hkvu.v.cell 0
    have d1 := hkvu.v.cell 1
    have d2 := hkvu.v.cell 2
    have bsw := (Blk.below BS.out hkvu.b).below (al wc (.cells (vL k ++ vL v).toArray 24))
    have s0 := bsw.cell 0
    have s1 := bsw.cell 1
    simp only [List.getElem?_cons_zero, List.getElem?_cons_succ, List.cons_append, List.nil_append] at c0 c1 c2 d0 d1 d2 s0 s1
    have hv := blk_new wc (vL k ++ vL v) 24
    have kA := al wc (.cells (vL k ++ vL v).toArray 24)
    have hr := blk_new (wc.alloc (.cells (vL k ++ vL v).toArray 24)) [.slice (some ⟨wc.heap.size, 0, none⟩) 2 2, .int .i64 f, .int .i64 t] 30
    have hvr := hv.below (al _ (.cells #[.slice (some ⟨wc.heap.size, 0, none⟩) 2 2, .int .i64 f, .int .i64 t] 30))
    have kB := bal kA (.cells #[.slice (some ⟨wc.heap.size, 0, none⟩) 2 2, .int .i64 f, .int .i64 t] 30)
    simp only [List.cons_append, List.nil_append] at hv kA hr hvr kB
    have HKVU : Hid _ := hkvu
    clear hkvu bsw
    go_upto_region 3 with fail
    rw [show (wc.alloc (.cells #[.int .u8 k.1, .int .i64 k.2.1, .string k.2.2, .int .u8 v.1, .int .i64 v.2.1, .string v.2.2] 24)).heap.size = wc.heap.size + 1 by simp] at hr
    clear hv kA c0 c1 c2 d0 d1 d2 s0 s1
    generalize World.alloc (World.alloc wc _) _ = W2 at *
    have r0 := hr.cell 0
    have r1 := hr.cell 1
    have r2 := hr.cell 2
    simp only [List.getElem?_cons_zero, List.getElem?_cons_succ] at r0 r1 r2
    have kC := al W2 (.cells #[.slice (some ⟨wc.heap.size, 0, none⟩) 2 2, .int .i64 f, .int .i64 t] 30)
    have hsv : SV (W2.alloc (.cells #[.slice (some ⟨wc.heap.size, 0, none⟩) 2 2, .int .i64 f, .int .i64 t] 30)) (fun _ => False) (.slice (some ⟨wc.heap.size, 0, none⟩) 2 2) [k, v] := SV.blk (l := [k, v]) (hvr.below kC) (fun h => h)
    have k4 := canon7 (rl_one (blk_new W2 [.slice (some ⟨wc.heap.size, 0, none⟩) 2 2, .int .i64 f, .int .i64 t] 30) hsv) (by simp) (fun e he => by simp only [List.mem_singleton] at he; subst he; simp)
    have HBC : Hid (Below wc.heap.size wc (W2.alloc (.cells #[.slice (some ⟨wc.heap.size, 0, none⟩) 2 2, .int .i64 f, .int .i64 t] 30))) := bmore kB kC
    obtain ⟨L, hL⟩ : ∃ L, canonR [([k, v], f, t)] = L := ⟨_, rfl⟩
    have HL : Hid (canonR [([k, v], f, t)] = L) := hL
    change Calls _ _ _ _ (LPost _ (canonR [([k, v], f, t)])) at k4
    rw [hL] at k4
    clear hL hsv kC kB hr hvr
    go_upto_region 4 with (go_at_call 4; (with_reducible refine k4.mono ?_); rintro e w3 ⟨v3, x3, rfl, hO3, hE3, hB3⟩; have HB3 : Hid (Below wc.heap.size wc w3) := bmore HBC.out hB3; obtain ⟨a3, c3, rfl⟩ := (OwnR.rl hO3).form; have HO3 : Hid _ := hO3.rl; have HE3 : Hid _ := hE3; clear hO3 hE3 hB3)
    clear r0 r1 r2 k4 HBC
    have HW3 : Hid (Below W1.heap.size W1 w3) := bmore HKVU.out.b HB3.out
    have g7 := (HKVU.out.k.below HB3.out).cell 0
    have g8 := (HKVU.out.v.below HB3.out).cell 0
    simp only [List.getElem?_cons_zero] at g7 g8
    have hco := blk_new w3 [.string { data := #[107] }, .int .u8 k.1, .string { data := #[97] }, .int .u8 v.1] 34
    have kD := al w3 (.cells #[.string { data := #[107] }, .int .u8 k.1, .string { data := #[97] }, .int .u8 v.1] 34)
    go_upto_region 5 with fail
    have HCO : Hid (Blk (w3.alloc (.cells #[.string { data := #[107] }, .int .u8 k.1, .string { data := #[97] }, .int .u8 v.1] 34)) w3.heap.size [.string { data := #[107] }, .int .u8 k.1, .string { data := #[97] }, .int .u8 v.1] 34) := hco
    have HD : Hid (Below w3.heap.size w3 (w3.alloc (.cells #[.string { data := #[107] }, .int .u8 k.1, .string { data := #[97] }, .int .u8 v.1] 34))) := kD
    clear g7 g8 hco kD
    generalize w3.alloc (.cells #[.string { data := #[107] }, .int .u8 k.1, .string { data := #[97] }, .int .u8 v.1] 34) = W4 at *
    have HW4 : Hid (Below W1.heap.size W1 W4) := bmore HW3.out HD.out
    have bp4 := Blk.below BP.out HW4.out
    have bu4 := (HKVU.out.u.below HB3.out).below HD.out
    have p0 := bp4.cell 0
    have p1 := bp4.cell 1
    have u0 := bu4.cell 0
    have u1 := bu4.cell 1
    have u2 := bu4.cell 2
    simp only [List.getElem?_cons_zero, List.getElem?_cons_succ] at p0 p1 u0 u1 u2
    obtain ⟨l1, l2, l3, l4, l5⟩ := laid47 W4 (.cells #[.string { data := #[97] }, .int .u8 u.1, .int .i64 u.2.1, .string u.2.2] 38) z20 (stL zf (.slice (some ⟨W4.heap.size, 0, none⟩) 1 1) none 0 a b)
    have so := blk_new W4 [.string { data := #[97] }, .int .u8 u.1, .int .i64 u.2.1, .string u.2.2] 38
    have so5 := Blk.block so l4
    go_upto_region 6 with (first | (refine wpList_store_row (by rfl) 47 (.tmp 13) (.tmp 48) (by rfl) (W4.heap.size + 1) (stL zf (.slice (some ⟨W4.heap.size, 0, none⟩) 1 1) none 0 a b).toArray (by rfl) (by rfl) 47 z20 l1 info47s rfl (st_one _ _ _ _ _) ?_))
    clear p0 p1 u0 u1 u2 l1 l4 so
    generalize World.setRow _ _ _ = W5 at *
    obtain ⟨m1, m2, m3⟩ := laid47' W5 z20 (stL zf (.slice (some ⟨W4.heap.size, 0, none⟩) 1 1) none 0 a b)
    have HT5 : Hid (Blk W5 (W4.heap.size + 1) (stL zf (.slice (some ⟨W4.heap.size, 0, none⟩) 1 1) none 0 a b) 47) := l2
    have HS5 : Hid (Blk W5 W4.heap.size [.string { data := #[97] }, .int .u8 u.1, .int .i64 u.2.1, .string u.2.2] 38) := so5
    have HB5 : Hid (Below W4.heap.size W4 W5) := l3
    have bv5 := (((HKVU.out.v.below HB3.out).below HD.out).below l3).below m3
    clear bp4 bu4 so5 l3 l5
    go_upto_region 7 with (first
      | (refine wpList_load_row (by rfl) 47 (.tmp 13) (by rfl) (W4.heap.size + 1) (by rfl) 47 _ (0, 0) _ l2 Try.underlying47 rfl info47s ?_)
      | (refine wpList_store_row (by rfl) 47 (.tmp 14) (.tmp 49) (by rfl) W5.heap.size (stL zf (.slice (some ⟨W4.heap.size, 0, none⟩) 1 1) none 0 a b).toArray (by rfl) (by rfl) 47 z20 m1 info47s rfl (st_one _ _ _ _ _) ?_))
    have HT6 : Hid _ := l2.below m3
    have HB6 : Hid (Below W5.heap.size W5 ((W5.alloc (.cells z20 47)).setRow W5.heap.size (stL zf (.slice (some ⟨W4.heap.size, 0, none⟩) 1 1) none 0 a b).toArray)) := m3
    clear m1 m3 l2
    generalize World.setRow _ _ _ = W6 at *
    have v0 := bv5.cell 0
    have v1 := bv5.cell 1
    have v2 := bv5.cell 2
    simp only [List.getElem?_cons_zero, List.getElem?_cons_succ] at v0 v1 v2
    have bk := m2.below (al W6 (.cells #[.string { data := #[97] }, .int .u8 v.1, .int .i64 v.2.1, .string v.2.2] 38))
    have y7 := bk.cell 7
    have z7 := bk.frozen 7
    simp only [List.getElem?_cons_zero, List.getElem?_cons_succ] at y7
    have hbk := bk.set (o := 7) (.slice (some ⟨W6.heap.size, 0, none⟩) 1 1)
    have hs2 := blk_new W6 [.string { data := #[97] }, .int .u8 v.1, .int .i64 v.2.1, .string v.2.2] 38
    go_upto_region 8 with fail
    have K7 : Below W5.heap.size W5 ((W6.alloc (.cells #[.string { data := #[97] }, .int .u8 v.1, .int .i64 v.2.1, .string v.2.2] 38)).setCell ⟨W5.heap.size, 7, none⟩ (.slice (some ⟨W6.heap.size, 0, none⟩) 1 1)) := Below.setCell (bal HB6.out _) (Nat.le_refl _) _
    have hsc : Sc ((W6.alloc (.cells #[.string { data := #[97] }, .int .u8 v.1, .int .i64 v.2.1, .string v.2.2] 38)).setCell ⟨W5.heap.size, 7, none⟩ (.slice (some ⟨W6.heap.size, 0, none⟩) 1 1)) k v u a b (.slice a3 x3.length c3) x3 (W4.heap.size + 1) W5.heap.size W4.heap.size W6.heap.size w3.heap.size (w.heap.size + 1 + 1) b7 := by
      refine ⟨Blk.below HT5.out K7, hbk, Blk.below HS5.out K7, ?_, (Blk.below HCO.out HB5.out).below K7, ((Blk.below BP.out HW4.out).below HB5.out).below K7, (((Blk.below HKVU.out.k HB3.out).below HD.out).below HB5.out).below K7, ((RL.below HO3.out HD.out).below HB5.out).below K7⟩
      exact hs2.keep (Keep.set (F := fun q => q = W5.heap.size) (Keep.refl _ _) (.inr rfl) _) (fun e => by have := m2.lt; omega)
    have HB7 : Hid (Below w.heap.size w ((W6.alloc (.cells #[.string { data := #[97] }, .int .u8 v.1, .int .i64 v.2.1, .string v.2.2] 38)).setCell ⟨W5.heap.size, 7, none⟩ (.slice (some ⟨W6.heap.size, 0, none⟩) 1 1))) := bmore (bmore (bmore HB.out HW4.out) HB5.out) K7
    generalize (World.setCell (World.alloc W6 _) _ (.slice (some ⟨W6.heap.size, 0, none⟩) 1 1)) = W7 at *
    have HSc : Hid _ := hsc
    have HF : Hid (Few3 (cs2 k.1 v.1) [(ca, u)] a b L) := by
      have := few3 (cs2 k.1 v.1) [(ca, u)] a b [k, v] f t
      rw [HL.out] at this
      exact this
    have HV : Hid (∀ r ∈ L, r.1.length ≤ 1000) := by
      have := vals_one k v f t
      rw [HL.out] at this
      exact this
    have hspl := splits (f := f) (t := t) (a := a) (b := b) (set_a k.1 v.1 k v u) (set_a k.1 v.1 k u v)
    have HBk : Hid (upL (cs2 k.1 v.1) [(ca, v)] a b (upL (cs2 k.1 v.1) [(ca, u)] a b L) = L) := by
      have := hspl.back
      rw [HL.out] at this
      exact this
    obtain ⟨N, hN⟩ : ∃ N, (inR a b L).length = N := ⟨_, rfl⟩
    have HN : Hid ((inR a b L).length = N) := hN
    have HHi : Hid ((inR a b (upL (cs2 k.1 v.1) [(ca, u)] a b L)).length = N) := by
      have := hspl.hits
      rw [HL.out, hN] at this
      exact this
    have HAg : Hid ((sortR (inR a b L)).foldl (fun d r => canonR (d ++ [r])) (deL a b L) = L) := by
      have := hspl.again
      rw [HL.out] at this
      exact this
    have t7 := hsc.to
    have k5a : Calls Try.prog 5 #[.slice a3 x3.length c3, .slice (some ⟨w3.heap.size, 0, none⟩) 2 2, stV zf (.slice (some ⟨W4.heap.size, 0, none⟩) 1 1) none 0 a b] W7 (DPost W7 (upL (cs2 k.1 v.1) [(ca, u)] a b L) N) := by
      have := up_of (a := a) (b := b) (cc := 2) hsc.s1 hsc.co hsc.l HE3.out (by have := HF.out.l; omega) HV.out
      rw [hN] at this
      exact this
    clear hsc hspl hN HB5 HB6 HT5 HS5 HT6 bk hs2 hbk m2 y7 z7 v0 v1 v2 bv5 K7 HKVU HW4 HCO HD HO3 HW3 HB3 BS BP HB
    go_upto_region 9 with (first
      | (refine wpList_load_row (by rfl) 47 (.tmp 13) (by rfl) (W4.heap.size + 1) (by rfl) 47 _ (0, 0) _ t7 Try.underlying47 rfl info47s ?_)
      | (go_at_call 5; (with_reducible refine k5a.mono ?_); rintro e w8 ⟨v8, x8, rfl, hO8, hE8, hB8⟩; obtain ⟨a8, c8, rfl⟩ := (OwnR.rl hO8).form; have HO8 : Hid _ := hO8; have HE8 : Hid (rws x8 = upL (cs2 k.1 v.1) [(ca, u)] a b L) := hE8; have HB8 : Hid (Below W7.heap.size W7 w8) := hB8; clear hO8 hE8 hB8))
    clear t7 k5a
    have t8 := (Sc.below HSc.out HB8.out).back
    have k5b : Calls Try.prog 5 #[.slice a8 x8.length c8, .slice (some ⟨w3.heap.size, 0, none⟩) 2 2, stV zf (.slice (some ⟨W6.heap.size, 0, none⟩) 1 1) none 0 a b] w8 (DPost w8 L N) := by
      have h8 := Sc.below HSc.out HB8.out
      have := up_of (a := a) (b := b) (cc := 2) h8.s2 h8.co (OwnR.rl HO8.out) HE8.out HF.out.u (vals_up HV.out)
      rw [show upL (cs2 k.1 v.1) [(ca, v)] a b (upL (cs2 k.1 v.1) [(ca, u)] a b L) = L from HBk.out, show (inR a b (upL (cs2 k.1 v.1) [(ca, u)] a b L)).length = N from HHi.out] at this
      exact this
    go_upto_region 10 with (first
      | (refine wpList_load_row (by rfl) 47 (.tmp 14) (by rfl) W5.heap.size (by rfl) 47 _ (0, 0) _ t8 Try.underlying47 rfl info47s ?_)
      | (go_at_call 5; (with_reducible refine k5b.mono ?_); rintro e w9 ⟨v9, x9, rfl, hO9, hE9, hB9⟩; obtain ⟨a9, c9, rfl⟩ := (OwnR.rl hO9).form; have HO9 : Hid _ := hO9; have HE9 : Hid (rws x9 = L) := hE9; have HB9 : Hid (Below W7.heap.size W7 w9) := bmore HB8.out hB9; clear hO9 hE9 hB9))
    clear t8 k5b
    have t9 := (Sc.below HSc.out HB9.out).to
    have k6 : Calls Try.prog 6 #[.slice a3 x3.length c3, .slice (some ⟨w3.heap.size, 0, none⟩) 2 2, stV zf (.slice (some ⟨W4.heap.size, 0, none⟩) 1 1) none 0 a b] w9 (DPost w9 (deL a b L) N) := by
      have h9 := Sc.below HSc.out HB9.out
      have := de_of (a := a) (b := b) (ac := some ⟨w3.heap.size, 0, none⟩) (nc := 2) (cc := 2) (sets := .slice (some ⟨W4.heap.size, 0, none⟩) 1 1) h9.l HE3.out (by have := HF.out.l; omega) HV.out
      rw [HN.out] at this
      exact this
    go_upto_region 11 with (first
      | (refine wpList_load_row (by rfl) 47 (.tmp 13) (by rfl) (W4.heap.size + 1) (by rfl) 47 _ (0, 0) _ t9 Try.underlying47 rfl info47s ?_)
      | (go_at_call 6; (with_reducible refine k6.mono ?_); rintro e w10 ⟨v10, x10, rfl, hO10, hE10, hB10⟩; obtain ⟨a10, c10, rfl⟩ := (OwnR.rl hO10).form; have HO10 : Hid _ := hO10; have HE10 : Hid (rws x10 = deL a b L) := hE10; have HB10 : Hid (Below W7.heap.size W7 w10) := bmore HB9.out hB10; have HK10 : Hid (Below w9.heap.size w9 w10) := hB10; clear hO10 hE10 hB10))
    clear t9 k6
    have h10 := Sc.below HSc.out HB10.out
    have p0 := h10.p.cell 0
    have p1 := h10.p.cell 1
    simp only [List.getElem?_cons_zero, List.getElem?_cons_succ] at p0 p1
    have k7 : Calls Try.prog 7 #[.slice a3 x3.length c3, .agg #[.int .i64 a, .int .i64 b]] w10 (SPost w10 (sortR (inR a b L))) := by
      have hlx : x3.length = L.length := by rw [← HE3.out]; simp [rws]
      have := slice26 (a := a) (b := b) h10.l (by have := HF.out.l; omega) (rws_vals HE3.out HV.out)
      rw [HE3.out] at this
      exact this
    clear h10
    go_upto_region 12 with (go_at_call 7; (with_reducible refine k7.mono ?_); rintro e w11 ⟨v11, x11, rfl, hn11, hO11, hE11, hB11⟩; obtain ⟨a11, c11, rfl⟩ := (OwnR.rl hO11).form; have HO11 : Hid _ := hO11; have HE11 : Hid (rws x11 = sortR (inR a b L)) := hE11; have HB11 : Hid (Below W7.heap.size W7 w11) := bmore HB10.out hB11; have HK11 : Hid (Below w10.heap.size w10 w11) := hB11; clear hO11 hE11 hB11 hn11)
    clear p0 p1 k7
    have HL11 : Hid (x11.length = N) := by
      have := congrArg List.length HE11.out
      rw [sortR_len, HN.out] at this
      show _ = _
      simpa [rws] using this
    have HR11 : Hid (RL w11 (fun _ => False) (.slice a11 N c11) x11) := by
      have := OwnR.rl HO11.out
      rw [HL11.out] at this
      exact this
    have HN1 : Hid (N ≤ 1) := by
      have := HF.out.i
      rw [HN.out] at this
      exact this
    have HR10 : Hid (RL w11 (fun _ => False) (.slice a10 x10.length c10) x10) := (OwnR.rl HO10.out).below HK11.out
    rw [HL11.out]
    clear HO11 HO10
    go_wp2_with fail
    go_loopw [19, 22] (fun f19 f22 wr => ∃ (j : Nat) (xd : List El) (ad : Option Addr) (cd : Nat), f19 = .slice ad xd.length cd ∧ f22 = .int .i64 (j : Int) ∧ Hid (j ≤ N) ∧ Hid (RL wr (fun _ => False) (.slice ad xd.length cd) xd) ∧ Hid (rws xd = ((sortR (inR a b L)).take j).foldl (fun d r => canonR (d ++ [r])) (deL a b L)) ∧ Hid (Below w11.heap.size w11 wr)) (fun _ f22 _ => ((N : Int) - intOf f22).toNat)
    case atStart => exact ⟨0, x10, a10, c10, rfl, rfl, Nat.zero_le _, HR10.out, HE10.out, Below.refl _ _⟩
    case round =>
      obtain ⟨j, xd, ad, cd, rfl, rfl, hj, hR, hE, hB⟩ := hrel
      by_cases hjN : j < N
      · have b1 : (j : Int) < (N : Int) := by omega
        have b2 : (0 : Int) ≤ (j : Int) := by omega
        obtain ⟨e, he⟩ : ∃ e, x11[j]? = some e := ⟨_, List.getElem?_eq_getElem (by rw [HL11.out]; exact hjN)⟩
        obtain ⟨g, o, rfl, _, _, d0, d1, d2⟩ := (RL.below HR11.out hB.out).get he
        have hsv := (RL.below HR11.out hB.out).vals e (List.mem_of_getElem? he)
        have hse : (sortR (inR a b L))[j]? = some e.2 := by rw [← HE11.out, rws, List.getElem?_map, he]; rfl
        have hvl : e.2.1.length ≤ 1000 := sortR_vals (lists_vals (a := a) (b := b) HV.out).2.2 e.2 (List.mem_of_getElem? hse)
        have hj0 : j = 0 := by have := HN1.out; omega
        have hjb : j < 1000 := by omega
        have hEd : rws xd = deL a b L := by have := hE.out; rw [hj0] at this; exact this
        have hxl : xd.length ≤ 10 := by have := HF.out.d; rw [← hEd] at this; simpa [rws] using this
        obtain ⟨sv, vl, f1, t1⟩ := e
        simp only at d0 d1 d2 hsv hvl
        obtain ⟨pb, cb, rfl⟩ := hsv.form
        have k8 := insert8 (f := f1) (t := t1) hR.out (by omega) (rws_vals hEd (vals_de HV.out)) hsv hvl
        have HE2 : Hid (canonR (rws xd ++ [(vl, f1, t1)]) = ((sortR (inR a b L)).take (j + 1)).foldl (fun d r => canonR (d ++ [r])) (deL a b L)) := by
          show _ = _
          rw [List.take_add_one, hse, List.foldl_append, ← hE.out]
          rfl
        clear he hsv hse hvl hj0 hEd hxl
        go_wp2_with (go_at_call 8; (with_reducible refine k8.mono ?_); rintro e w12 ⟨v12, x12, rfl, hO12, hE12, hB12⟩; obtain ⟨a12, c12, rfl⟩ := (OwnR.rl hO12).form; have HO12 : Hid _ := hO12; have HE12 : Hid (rws x12 = canonR (rws xd ++ [(vl, f1, t1)])) := hE12; have HB12 : Hid (Below wr.heap.size wr w12) := hB12; clear hO12 hE12 hB12)
        go_roundw
        case rel => exact ⟨j + 1, x12, a12, c12, rfl, by simp, by show _ ≤ _; omega, OwnR.rl HO12.out, by show _ = _; rw [HE12.out, HE2.out], bmore hB.out HB12.out⟩
        case measure => simp only [intOf]; omega
      · have b1 : ¬ (j : Int) < (N : Int) := by omega
        have hEx : rws xd = L := by
          rw [hE.out, List.take_of_length_le (by rw [sortR_len, HN.out]; omega)]
          exact HAg.out
        have hBw : Below W7.heap.size W7 wr := bmore HB11.out hB.out
        have hsc := Sc.below HSc.out hBw
        have hvL := HV.out
        have hlL : ∀ es : List El, rws es = L → es.length ≤ 1000 := fun es q => by
          have h1 := HF.out.l
          rw [← q] at h1
          simp only [rws, List.length_map] at h1
          omega
        have k9a : Calls Try.prog 9 #[.slice a9 x9.length c9, .slice a3 x3.length c3] wr fun e w' => e = .returned (.bool true) ∧ Below wr.heap.size wr w' := by
          have h9 : RL wr (fun _ => False) (.slice a9 x9.length c9) x9 := ((OwnR.rl HO9.out).below (bmore HK10.out (bmore HK11.out hB.out)))
          have := same15 h9 hsc.l (hlL _ HE9.out) (hlL _ HE3.out) (rws_vals HE9.out hvL) (rws_vals HE3.out hvL)
          rw [HE9.out, HE3.out, decide_eq_true rfl] at this
          exact this
        have H9b : Hid (∀ W, Below wr.heap.size wr W → Calls Try.prog 9 #[.slice ad xd.length cd, .slice a3 x3.length c3] W fun e w' => e = .returned (.bool true) ∧ Below W.heap.size W w') := fun W q => by
          have := same15 (hR.out.below q) (hsc.l.below q) (hlL _ hEx) (hlL _ HE3.out) (rws_vals hEx hvL) (rws_vals HE3.out hvL)
          rw [hEx, HE3.out, decide_eq_true rfl] at this
          exact this
        have HK : Hid (∀ W, Below wr.heap.size wr W → W.cell? ⟨b7, 0, none⟩ = some (.int .u8 k.1) ∧ W.cell? ⟨b7, 1, none⟩ = some (.int .i64 k.2.1) ∧ W.cell? ⟨b7, 2, none⟩ = some (.string k.2.2)) := fun W q => ⟨(hsc.k.below q).cell 0, (hsc.k.below q).cell 1, (hsc.k.below q).cell 2⟩
        have H4 : Hid (∀ W, Calls Try.prog 4 #[.slice (some ⟨W.heap.size + 1, 0, none⟩) 1 1] ((W.alloc (.cells #[.int .u8 k.1, .int .i64 k.2.1, .string k.2.2] 24)).alloc (.cells #[.slice (some ⟨W.heap.size, 0, none⟩) 1 1, .int .i64 0, .int .i64 1] 30)) fun e w' => ∃ a c, e = .returned (.slice a 1 c) ∧ Below W.heap.size W w') := fun W => by
          have q1 := al W (.cells (vL k).toArray 24)
          have q2 := al (W.alloc (.cells (vL k).toArray 24)) (.cells #[.slice (some ⟨W.heap.size, 0, none⟩) 1 1, .int .i64 0, .int .i64 1] 30)
          have hv1 : SV ((W.alloc (.cells (vL k).toArray 24)).alloc (.cells #[.slice (some ⟨W.heap.size, 0, none⟩) 1 1, .int .i64 0, .int .i64 1] 30)) (fun _ => False) (.slice (some ⟨W.heap.size, 0, none⟩) 1 1) [k] := SV.blk (l := [k]) ((blk_new W (vL k) 24).below q2) (fun h => h)
          have hb1 : Blk ((W.alloc (.cells (vL k).toArray 24)).alloc (.cells #[.slice (some ⟨W.heap.size, 0, none⟩) 1 1, .int .i64 0, .int .i64 1] 30)) (W.heap.size + 1) [.slice (some ⟨W.heap.size, 0, none⟩) 1 1, .int .i64 0, .int .i64 1] 30 := blk_at _ [.slice (some ⟨W.heap.size, 0, none⟩) 1 1, .int .i64 0, .int .i64 1] 30 (by simp)
          have k4 := canon7 (rl_one hb1 hv1) (by simp) (fun e he => by simp only [List.mem_singleton] at he; subst he; simp)
          refine k4.mono ?_
          rintro e w' ⟨v1, x1, rfl, hO, hE1, hB1⟩
          obtain ⟨a1, c1, rfl⟩ := (OwnR.rl hO).form
          have e1 : x1.length = 1 := by
            have h1 : rws x1 = [([k], 0, 1)] := hE1.trans (canon_right (by decide))
            have := congrArg List.length h1
            simpa [rws] using this
          rw [e1]
          exact ⟨a1, c1, rfl, bmore (bmore q1 q2) hB1⟩
        have HBe : Hid (Below w.heap.size w wr) := bmore HB7.out hBw
        clear hEx hBw hsc hvL hlL
        go_wp2_with (first
          | (go_at_call 9; (with_reducible refine k9a.mono ?_); rintro e w13 ⟨rfl, hB13⟩; have k9b := H9b.out _ hB13)
          | (go_at_call 9; (with_reducible refine k9b.mono ?_); rintro e w14 ⟨rfl, hB14⟩; obtain ⟨k0, k1, k2⟩ := HK.out _ (bmore hB13 hB14); have k4 := H4.out w14)
          | (go_at_call 4; (with_reducible refine k4.mono ?_); rintro e w15 ⟨a15, c15, rfl, hB15⟩))
        go_ret
        exact ⟨rfl, bmore HBe.out (bmore (bmore hB13 hB14) hB15)⟩
end Go.Proofs.Ythalgnfffcimhaa
