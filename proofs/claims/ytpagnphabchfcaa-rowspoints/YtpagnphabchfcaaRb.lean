/- At. -/
import Derived.Test.YtpagnphabchfcaaRa
namespace Go.Proofs.Ytpagnphabchfcaa
open Go.RowKit Go.Shelf
set_option maxRecDepth 100000
attribute [local go_sem] Oper.semAt_some
def hasR (p : Int) (r : Rw) : Bool := Sp.hasB r.2.1 r.2.2 p
/-- The values at the runs' beginnings. -/
def valsAt (S : List Rw) (x : Nat × Nat) : List Vt := ((S[x.1]?).map (·.1)).getD []
def atR (l : List Rw) (p : Int) : List (List Vt) := (cuts ((sortR (l.filter (hasR p))).map (·.1))).map (valsAt (sortR (l.filter (hasR p))))
def slv (es : List El) (x : Nat × Nat) : Value := ((es[x.1]?).map (·.1)).getD (.slice none 0 0)
/-- What the loop over the runs holds. -/
structure AW (w0 : World) (tb : Nat) (G : Nat → Prop) (g c : Nat) (es : List El) (O : Nat → Prop) (pre : List (Nat × Nat)) (W : World) : Prop where
  ex : ∃ av, Blk W tb [av] 25 ∧ W.ownsRow w0.heap.size 30 1 av pre.length (pre.map (slv es)) ∧ some tb ≠ av.ownBlock ∧ (∀ b, O b ↔ b = tb ∨ av.ownBlock = some b)
  rl : RL W (fun k => ¬ G k) (.slice (some ⟨g, 0, none⟩) es.length c) es
  k : Below w0.heap.size w0 W
  dis : ∀ b, O b → ¬ G b
theorem AW.lt {w0 W : World} {tb g c : Nat} {G O : Nat → Prop} {es : List El} {pre : List (Nat × Nat)} (h : AW w0 tb G g c es O pre W) : ∀ b, O b → b < W.heap.size := by
  obtain ⟨av, h1, h2, _, h3⟩ := h.ex
  intro b hb
  rcases (h3 b).1 hb with rfl | hb
  · exact h1.lt
  · exact (World.ownsRow.lt h2 b hb).2
theorem AW.abide {w0 : World} {tb g c n : Nat} {G : Nat → Prop} {es : List El} (hG : ∀ b, G b → b < n) (hn : w0.heap.size ≤ n) : Abide n (AW w0 tb G g c es) := by
  rintro O pre W W' ⟨⟨av, h1, h2, h3, h4⟩, hr, hk, hd⟩ k
  refine ⟨⟨av, h1.keep k (fun h => h.1 ((h4 tb).2 (.inl rfl))), owns_keep h2 (fun j hj => k.block j (World.ownsRow.lt h2 j hj).2 (fun h => h.1 ((h4 j).2 (.inr hj)))), h3, h4⟩, ?_, hk.trans (k.below (by have := hk.size; omega) (fun i hi h => by omega)), hd⟩
  exact hr.keep (k.mono (fun i _ h hg => by have := hG i hg; omega)) (fun _ _ h => h)
def APost (w : World) (L : List (List Vt)) (e : Ending) (w' : World) : Prop := ∃ v, ∃ vv : List (Value × List Vt), e = .returned v ∧ w'.ownsRow w.heap.size 30 1 v vv.length (vv.map (·.1)) ∧ (∀ x ∈ vv, SV w' (fun b => v.ownBlock = some b) x.1 x.2) ∧ vv.map (·.2) = L ∧ Below w.heap.size w w'
set_option maxHeartbeats 4000000 in
theorem at9 {w : World} {X : Nat → Prop} {v : Value} {es : List El} {p : Int} (h0 : RL w X v es) (hl : es.length ≤ 100) (hv : ∀ e ∈ es, e.2.1.length ≤ 1000) :
    Calls Try.prog 9 #[v, .int .i64 p] w (APost w (atR (rws es) p)) := by
  have h := h0.bound
  obtain ⟨a, c0, rfl⟩ := h.form
  obtain ⟨N, hN⟩ : ∃ N, es.length = N := ⟨_, rfl⟩
  have HN : Hid (es.length = N) := hN
  have HR : Hid (RL w (fun b => X b ∨ w.heap.size ≤ b) (.slice a es.length c0) es) := h
  have HV : Hid _ := hv
  rw [hN] at hl ⊢
  clear h h0 hN hv
  refine (callsIn_wide (n := 0)).1 (callsIn_of_wp_marks Try.func9 rfl trivial (wpIn_wide.2 ?_) rfl)
  simp only [Try.ntmps9, List.size_toArray, List.length_cons, List.length_nil, Nat.reduceAdd, Nat.reduceSub, Array.replicate_succ, Array.replicate_zero, List.push_toArray, List.append_toArray, List.nil_append, List.cons_append]
  go_wp2_with fail
  go_loopw [5, 12] (fun fo fi wr => ∃ (k : Nat) (es' : List El), fi = .int .i64 (k : Int) ∧ Hid (k ≤ N) ∧ Hid (OwnR wr w.heap.size fo es') ∧ Hid (rws es' = ((rws es).take k).filter (hasR p)) ∧ Hid (Below w.heap.size w wr)) (fun _ fi _ => ((N : Int) - intOf fi).toNat)
  case atStart => exact ⟨0, [], rfl, Nat.zero_le _, OwnR.nil _ _, rfl, Below.refl _ _⟩
  case round =>
    obtain ⟨k, es', rfl, hk, hO, hE, hB⟩ := hrel
    by_cases hkN : k < N
    · have hki : (k : Int) < (N : Int) := by omega
      have hk0 : (0 : Int) ≤ (k : Int) := by omega
      obtain ⟨e, he⟩ : ∃ e, es[k]? = some e := ⟨_, List.getElem?_eq_getElem (by rw [HN.out]; exact hkN)⟩
      obtain ⟨g, o, rfl, _, _, d0, d1, d2⟩ := (RL.below HR.out hB.out).get he
      have HSV : Hid (SV wr (fun b => X b ∨ w.heap.size ≤ b) e.1 e.2.1) := (HR.out.vals e (List.mem_of_getElem? he)).below hB.out
      have HTk : Hid (((rws es).take (k + 1)).filter (hasR p) = ((rws es).take k).filter (hasR p) ++ [e.2].filter (hasR p)) := by
        show _ = _
        rw [List.take_add_one, rws, List.getElem?_map, he, List.filter_append]
        rfl
      have hlen : es'.length ≤ 100000 := by
        have q1 := congrArg List.length hE.out
        have q2 := List.length_filter_le (hasR p) ((rws es).take k)
        simp [rws] at q1 q2
        omega
      obtain ⟨sv, vs, f, t⟩ := e
      simp only at d0 d1 d2 HSV HTk
      obtain ⟨pa, ca, rfl⟩ := SV.form HSV.out
      have hA := al3 wr (.slice pa vs.length ca) f t
      have b5 := blk_new wr [.slice pa vs.length ca, .int .i64 f, .int .i64 t] 34
      change Blk (wr.alloc (.cells #[.slice pa vs.length ca, .int .i64 f, .int .i64 t] 34)) _ _ _ at b5
      have HA : Hid (Below wr.heap.size wr (wr.alloc (.cells #[.slice pa vs.length ca, .int .i64 f, .int .i64 t] 34))) := hA
      have k21 := Sp.has14 f t p (wr.alloc (.cells #[.slice pa vs.length ca, .int .i64 f, .int .i64 t] 34))
      have HH : Hid (hasR p (vs, f, t) = Sp.hasB f t p) := rfl
      have HC : Hid (∀ W', Below (wr.alloc (.cells #[.slice pa vs.length ca, .int .i64 f, .int .i64 t] 34)).heap.size (wr.alloc (.cells #[.slice pa vs.length ca, .int .i64 f, .int .i64 t] 34)) W' → W'.cell? ⟨wr.heap.size, 0, none⟩ = some (.slice pa vs.length ca) ∧ W'.cell? ⟨wr.heap.size, 1, none⟩ = some (.int .i64 f) ∧ W'.cell? ⟨wr.heap.size, 2, none⟩ = some (.int .i64 t)) := fun W' k => ⟨(b5.below k).cell 0, (b5.below k).cell 1, (b5.below k).cell 2⟩
      have z1 := b5.cell 1
      have z2 := b5.cell 2
      clear he b5 hA
      have HApp : Hid (∀ (w6 : World), Hid (Below wr.heap.size wr w6) → ∃ v7 w7, (Builtin.append_ #[22, 22] 22 #[u5, .slice (some ⟨w6.heap.size, 0, none⟩) 1 1]).run Try.prog (w6.alloc (.cells #[.slice pa vs.length ca, .int .i64 f, .int .i64 t] 34)) = .ok v7 w7 ∧ Hid (OwnR w7 w.heap.size v7 (es' ++ [(.slice pa vs.length ca, vs, f, t)])) ∧ Hid (Below w.heap.size w w7)) := fun w6 hB6 => by
        have hal := al3 w6 (.slice pa vs.length ca) f t
        have O6 := hO.out.below (bmore hB6.out hal)
        have nb := blk_new w6 [.slice pa vs.length ca, .int .i64 f, .int .i64 t] 34
        have hsv6 : SV (w6.alloc (.cells #[.slice pa vs.length ca, .int .i64 f, .int .i64 t] 34)) (fun b => u5.ownBlock = some b) (.slice pa vs.length ca) vs := (SV.below (SV.below HSV.out hB6.out) hal).mono (fun b _ q => .inr (O6.row.lt b q).1)
        have hbase := (bmore (bmore hB.out hB6.out) hal).size
        obtain ⟨v7, w7, hr7, A7⟩ := OwnR.app O6 hlen hbase 22 (gb := w6.heap.size) (c := 1) (e := (.slice pa vs.length ca, vs, f, t)) hsv6 (nb.cell 0) (nb.cell 1) (nb.cell 2)
        exact ⟨v7, w7, hr7, A7.own, (bmore (bmore hB.out hB6.out) hal).trans (A7.below O6 hbase)⟩
      generalize Sp.hasB f t p = T at *
      cases T
      · go_wp2_with (go_at_call 21; (with_reducible refine k21.mono ?_); rintro e w1 ⟨rfl, hB1⟩)
        go_roundw
        case rel => exact ⟨k + 1, es', by simp, by show _ ≤ _; omega, hO.out.below (bmore HA.out hB1), by show _ = _; rw [HTk.out, hE.out]; simp [HH.out], bmore hB.out (bmore HA.out hB1)⟩
        case measure => simp only [intOf]; omega
      · go_wp2_with (first
          | (go_at_call 21; (with_reducible refine k21.mono ?_); rintro e w1 ⟨rfl, hB1⟩; obtain ⟨y0, y1, y2⟩ := HC.out _ hB1; have HB1 : Hid (Below wr.heap.size wr w1) := bmore HA.out hB1)
          | (at_builtin; refine wpList_append_ex (by rfl) (.tmp 20) (.tmp 22) 22 (by rfl) _ _ (by rfl) (by rfl) (HApp.out _ HB1) ?_; rintro v7 w7 ⟨hO7, hB7⟩))
        go_roundw
        case rel => exact ⟨k + 1, es' ++ [(Value.slice pa vs.length ca, vs, f, t)], by simp, by show _ ≤ _; omega, hO7.out, by show _ = _; rw [HTk.out, ← hE.out]; simp [rws, HH.out], hB7.out⟩
        case measure => simp only [intOf]; omega
    · have hki : ¬ (k : Int) < (N : Int) := by omega
      have HF : Hid (rws es' = (rws es).filter (hasR p)) := by show _ = _; rw [hE.out, List.take_of_length_le (by rw [rws, List.length_map, HN.out]; omega)]
      have hlen : es'.length ≤ 100 := by
        have q1 := congrArg List.length HF.out
        have q2 := List.length_filter_le (hasR p) (rws es)
        have q3 := HN.out
        simp [rws] at q1 q2
        omega
      have HV' : Hid (∀ e ∈ es', e.2.1.length ≤ 1000) := fun e he => by
        have : e.2 ∈ rws es' := List.mem_map.2 ⟨e, he, rfl⟩
        rw [HF.out] at this
        obtain ⟨x, hx, hq⟩ := List.mem_map.1 (List.mem_filter.1 this).1
        rw [← hq]
        exact HV.out x hx
      obtain ⟨ac, nc, cc, hfo⟩ := hO.out.form
      subst hfo
      have kA : Below wr.heap.size wr (wr.alloc (.cells #[.slice none 0 0] 25)) := al _ _
      have b0 := blk_new wr [.slice none 0 0] 25
      change Blk (wr.alloc (.cells #[.slice none 0 0] 25)) _ _ _ at b0
      have k17 := sorted17 ((hO.out.rl).below kA) (by omega) HV'.out
      have Hb0 : Hid (Blk (wr.alloc (.cells #[.slice none 0 0] 25)) wr.heap.size [.slice none 0 0] 25) := b0
      have HkA : Hid _ := kA
      clear b0 kA
      go_wp2_with (first
        | (go_at_call 17; (with_reducible refine k17.mono ?_); rintro e w2 ⟨v2, es2, rfl, hn2, hO2, hE2, hB2⟩; obtain ⟨g, c, rfl, hc, hBg, hg⟩ := hO2.some hn2)
        | (go_at_call 16; (with_reducible refine (byValues16 _ _ _ _).mono ?_); rintro e w3 ⟨rfl, rfl⟩))
      have HB3 : Hid (Below wr.heap.size wr (w2.alloc (.cells #[.slice (some ⟨g, 0, none⟩) es2.length c] 22))) := bmore (bmore HkA.out hB2) (al _ _)
      have Hb2 : Hid (Blk w2 wr.heap.size [.slice none 0 0] 25) := Blk.below Hb0.out hB2
      have Hb3 : Hid (Blk (w2.alloc (.cells #[.slice (some ⟨g, 0, none⟩) es2.length c] 22)) wr.heap.size [.slice none 0 0] 25) := Blk.below Hb2.out (al _ _)
      have HR3 : Hid (RL (w2.alloc (.cells #[.slice (some ⟨g, 0, none⟩) es2.length c] 22)) (fun b => (b = wr.heap.size ∨ False) ∨ (w2.alloc (.cells #[.slice (some ⟨g, 0, none⟩) es2.length c] 22)).heap.size ≤ b) (.slice (some ⟨g, 0, none⟩) es2.length c) es2) := (RL.below (RL.not (OwnR.rl hO2) Hb2.out) (al _ _)).bound
      have Hbx : Hid (Blk (w2.alloc (.cells #[.slice (some ⟨g, 0, none⟩) es2.length c] 22)) w2.heap.size [.slice (some ⟨g, 0, none⟩) es2.length c] 22) := blk_new w2 _ _
      have HS2 : Hid (w2.heap.size < (w2.alloc (.cells #[.slice (some ⟨g, 0, none⟩) es2.length c] 22)).heap.size ∧ wr.heap.size < w2.heap.size) := ⟨by simp, Blk.lt Hb2.out⟩
      have HE2 : Hid (rws es2 = sortR ((rws es).filter (hasR p))) := by rw [← HF.out]; exact hE2
      have hN2 : es2.length ≤ 100 := by
        have h1 := congrArg List.length hE2
        have h2 := (sortR_perm (rws es')).length_eq
        simp [rws] at h1 h2; omega
      have HV2 : Hid (∀ e ∈ es2, e.2.1.length ≤ 1000) := fun e he => by
        have : e.2 ∈ rws es2 := List.mem_map.2 ⟨e, he, rfl⟩
        rw [hE2] at this
        obtain ⟨x, hx, hq⟩ := List.mem_map.1 ((sortR_perm (rws es')).mem_iff.1 this)
        rw [← hq]
        exact HV'.out x hx
      have HC : Hid (es2.length ≤ c) := hc
      generalize w2.alloc (.cells #[.slice (some ⟨g, 0, none⟩) es2.length c] 22) = W3 at *
      clear hO2 hE2 hB2 k17 hBg hg hn2 hc
      refine wpIn_wide.1 (wpIn_range0 (a := { tmps := #[.slice a N c0, .int .i64 p, undef, undef, .slice none 0 0, .slice ac nc cc, undef, u7, .pointer (some ⟨wr.heap.size, 0, none⟩), undef, .slice a N c0, .int .i64 (N : Int), .int .i64 (k : Int), .bool false, u14, u15, u16, u17, u18, u19, u20, u21, u22, u23, u24, .slice ac nc cc, .slice (some ⟨g, 0, none⟩) es2.length c, .func (.func 33) #[] #[.pointer (some ⟨w2.heap.size, 0, none⟩)], undef, undef, undef, undef, undef, undef, undef, undef, undef], defers := [] }) (gf := 33) (lb := #[.pointer (some ⟨w2.heap.size, 0, none⟩)]) rfl eg33 rfl (enc := encB g 0 c) (xs := cuts (vls es2)) (G := fun k => k ≠ wr.heap.size ∧ k < W3.heap.size)
        (fun W1 k => runs33 (Blk.below Hbx.out k) ⟨Nat.ne_of_gt HS2.out.2, HS2.out.1⟩ ((RL.below HR3.out k).mono (fun b _ h => ?gx)) HC.out (by omega) HV2.out) (fun b h => h.2)
        (AW wr wr.heap.size (fun k => k ≠ wr.heap.size ∧ k < W3.heap.size) g c es2) (fun _ _ _ _ => False) (fun O pre W h => h.lt) (AW.abide (fun b h => h.2) HB3.out.size) (fun c => fun O' q W1 W2 h k => h)
        (fun b => b = wr.heap.size) (fun b h => ⟨fun q => q.1 h, by rw [h]; exact Blk.lt Hb3.out⟩) ⟨⟨.slice none 0 0, Hb3.out, World.ownsRow_nil _ _ _ _, by simp [Value.ownBlock], fun b => by simp [Value.ownBlock]⟩, HR3.out.mono (fun b _ h => ?gy), HB3.out, fun b h q => q.1 h⟩ (fun x => { tmps := #[.slice a N c0, .int .i64 p, undef, undef, .slice none 0 0, .slice ac nc cc, undef, u7, .pointer (some ⟨wr.heap.size, 0, none⟩), encB g 0 c x, .slice a N c0, .int .i64 (N : Int), .int .i64 (k : Int), .bool false, u14, u15, u16, u17, u18, u19, u20, u21, u22, u23, u24, .slice ac nc cc, .slice (some ⟨g, 0, none⟩) es2.length c, .func (.func 33) #[] #[.pointer (some ⟨w2.heap.size, 0, none⟩)], encB g 0 c x, undef, undef, undef, undef, undef, undef, undef, undef], defers := [] }) ?assign ?body ?done ?stop)
      case gx => by_cases hq : b = wr.heap.size; exact .inl (.inl hq); exact .inr (Nat.le_of_not_lt (fun hh => h ⟨hq, hh⟩))
      case gy => by_cases hq : b = wr.heap.size; exact .inl (.inl hq); exact .inr (Nat.le_of_not_lt (fun hh => h ⟨hq, hh⟩))
      case assign =>
        intro l' x' W' K hK
        gi_wp2
        exact hK
      case body =>
        intro l' O pre x W' hI hle hpre
        obtain ⟨i, j⟩ := x
        obtain ⟨hij, hjN⟩ : i < j ∧ j ≤ es2.length := by
          have := cutsF_mem (vls es2) _ _ (i, j) (hpre.subset (by simp))
          simpa [vls] using this
        have hpl : pre.length ≤ 100 := by
          have h1 := hpre.length_le
          have h2 := cutsF_len (vls es2) (vls es2).length 0
          simp [cuts, vls] at h1 h2
          omega
        obtain ⟨⟨av, h1, h2, h3, h4⟩, hr, hkk, hdis⟩ := hI
        obtain ⟨e0, he0⟩ : ∃ e, es2[i]? = some e := ⟨_, List.getElem?_eq_getElem (by omega)⟩
        have hc0 := (hr.at3 he0).1
        rw [Nat.zero_add] at hc0
        have hgW : g < W'.heap.size := World.block_lt_of_cell? W' _ hc0
        have hgG : ¬ O g := fun h => by
          obtain ⟨g', o', hq, hg', hx, _⟩ := hr.get he0
          simp only [Option.some.injEq, Addr.mk.injEq] at hq
          obtain ⟨rfl, _⟩ := hq
          exact hx (hdis g h)
        have HSl : Hid (slv es2 (i, j) = e0.1) := by show _ = _; simp [slv, he0]
        obtain ⟨pa, ca, hs0⟩ := SV.form (hr.vals e0 (List.mem_of_getElem? he0))
        rw [hs0] at hc0 HSl
        have HI1 : Hid (Blk W' wr.heap.size [av] 25) := h1
        have HI2 : Hid (W'.ownsRow wr.heap.size 30 1 av pre.length (pre.map (slv es2))) := h2
        have HI3 : Hid (some wr.heap.size ≠ av.ownBlock) := h3
        have HI4 : Hid (∀ b, O b ↔ b = wr.heap.size ∨ av.ownBlock = some b) := h4
        have HR' : Hid _ := hr
        have HKK : Hid (Below wr.heap.size wr W') := hkk
        have HDis : Hid (∀ b, O b → ¬ (b ≠ wr.heap.size ∧ b < W3.heap.size)) := hdis
        have Hc0 : Hid (W'.cell? ⟨g, i * 3, none⟩ = some (.slice pa e0.2.1.length ca)) := hc0
        have HgG : Hid (¬ O g) := hgG
        have HgW : Hid (g < W'.heap.size) := hgW
        have hm : (0 : Int) < ((j - i : Nat) : Int) := by omega
        clear h1 h2 h3 h4 hr hkk hdis hgG hgW hc0 he0 hs0
        rw [show encB g 0 c (i, j) = .slice (some ⟨g, i * 3, none⟩) (j - i) (c - i) by simp [encB]]
        gi_wp2
        refine reg11 (B := wr.heap.size) HI1.out HI2.out HKK.out.size (by omega) HI3.out hm HgW.out (fun q => HgG.out ((HI4.out g).2 (.inr q.symm))) Hc0.out ?_
        intro v34 v35 w' hb' ho' hn' hk' hw'
        gi_wp2
        have hsz := HKK.out.size
        refine ⟨fun b => b = wr.heap.size ∨ v35.ownBlock = some b, ⟨⟨v35, hb', ?_, hn', fun b => Iff.rfl⟩, ?_, ?_, ?_⟩, ?_, ?_⟩
        · rw [show (pre ++ [(i, j)]).length = pre.length + 1 by simp, List.map_append, List.map_cons, List.map_nil, HSl.out]
          exact ho'
        · exact HR'.out.keep (hk'.mono (fun b _ h => HDis.out b ((HI4.out b).2 h))) (fun _ _ h => h)
        · exact HKK.out.trans (hk'.below hsz (fun b hb h => h.elim (fun h => by omega) (fun h => by have := (World.ownsRow.lt HI2.out b h).1; omega)))
        · rintro b (h | h)
          · exact fun q => q.1 h
          · exact (hw' b h).elim (fun h => HDis.out b ((HI4.out b).2 (.inr h))) (fun h q => by omega)
        · rintro b (h | h)
          · exact .inl ((HI4.out b).2 (.inl h))
          · exact (hw' b h).imp (fun h => (HI4.out b).2 (.inr h)) id
        · exact hk'.mono (fun b _ h => (HI4.out b).2 h)
      case stop =>
        rintro D c O' pre W' _ _ _ h
        exact h.elim
      case done =>
        rintro D O' W' hD nD hI hgr hkx hd
        obtain ⟨⟨av, h1, h2, h3, h4⟩, hr, hkk, hdis⟩ := hI
        have zt := h1.cell 0
        simp only [List.getElem?_cons_zero] at zt
        have HD : Hid (wr.heap.size ≤ D ∧ w.heap.size ≤ wr.heap.size) := ⟨Nat.le_trans HB3.out.size hD, hB.out.size⟩
        obtain ⟨vv, hvv⟩ : ∃ vv : List (Value × List Vt), vv = (cuts (vls es2)).map fun x => (slv es2 x, valsAt (rws es2) x) := ⟨_, rfl⟩
        have HO : Hid (∀ w', Keep (· ∈ [D]) W' w' → w'.ownsRow w.heap.size 30 1 av vv.length (vv.map (·.1))) := fun w' k => by
          have := owns_keep h2 (fun j hj => k.block j (World.ownsRow.lt h2 j hj).2 (fun q => nD (by simp at q; rw [← q]; exact (h4 j).2 (.inr hj))))
          rw [hvv, List.length_map, List.map_map]
          exact ⟨this.1, this.2.imp id fun ⟨g, cap, cur, q1, q2, q3⟩ => ⟨g, cap, cur, q1, Nat.le_trans hB.out.size q2, q3⟩⟩
        have HVs : Hid (∀ w', Keep (· ∈ [D]) W' w' → ∀ x ∈ vv, SV w' (fun b => av.ownBlock = some b) x.1 x.2) := fun w' k x hx => by
          rw [hvv] at hx
          obtain ⟨y, hy, rfl⟩ := List.mem_map.1 hx
          obtain ⟨q1, q2⟩ := cutsF_mem (vls es2) _ _ y hy
          obtain ⟨e0, he0⟩ : ∃ e, es2[y.1]? = some e := ⟨_, List.getElem?_eq_getElem (by simp [vls] at q2; omega)⟩
          have hsv := hr.vals e0 (List.mem_of_getElem? he0)
          rw [show slv es2 y = e0.1 by simp [slv, he0], show valsAt (rws es2) y = e0.2.1 by simp [valsAt, rws, he0]]
          refine hsv.keep (k.mono (fun b _ q => ?_)) (fun b _ q => hdis b ((h4 b).2 (.inr q)))
          simp at q
          subst q
          exact fun q => by omega
        have HL : Hid (vv.map (·.2) = atR (rws es) p) := by
          show _ = _
          rw [hvv, List.map_map, atR, ← HE2.out, show vls es2 = (rws es2).map (·.1) by simp [vls, rws]]
          rfl
        have HK : Hid (Below w.heap.size w W') := bmore hB.out hkk
        have Hd : Hid _ := hd
        obtain ⟨ax, nx, cx, rfl⟩ := rowForm h2
        clear h1 h2 h3 h4 hr hkk hdis hgr hkx hd hvv
        go_wp2
        refine leave_marks [D] _ (fun w' k => ⟨results_tmp rfl _ _ _, .slice ax nx cx, vv, rfl, HO.out w' k, HVs.out w' k, HL.out, HK.out.trans (k.below HK.out.size (fun i hi h => by have := HD.out; simp at h; omega))⟩) (fun D' h => by simp at h; subst h; exact Hd.out) (by simp)
end Go.Proofs.Ytpagnphabchfcaa
