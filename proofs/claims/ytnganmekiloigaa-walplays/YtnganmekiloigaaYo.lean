/- Both Opens, as lists of records. · pair.open: both logs opened on both disks. · A deed on the program's log or disk, and then on the document's: the pair between them. · pair.do: a deed on both sides. -/
import Derived.Test.YtnganmekiloigaaYf
import Derived.Test.YtnganmekiloigaaJw
/-! ### Both Opens, as lists of records. -/
namespace Go.Proofs.Ytnganmekiloigaa
open Go.RowKit
set_option maxRecDepth 100000
variable {w w' : World} {B d s x r y q : Nat} {D D' : Dk} {W W' : Wl} {G : List Nat} {v : Value} {rs : List Rc}
/-- The program's Open, told as the document's. -/
theorem open35v {R : Nat} (hA : Alone B w d s D []) (hoff : D.off = false) (hw : D.wait = []) (hS : D.secs.length = 2 * R) (hR : 2 ≤ R) (hR2 : R ≤ 64) (hg : great (pcs D.secs) < 65535) :
    Calls Try.prog 35 #[.pointer (some ⟨d, 0, none⟩)] w fun e w' => ∃ x v, e = .returned (.tuple #[.pointer (some ⟨x, 0, none⟩), v, .int .i64 0]) ∧ Blk w' x (wlC d ⟨forceP D.secs, great (pcs D.secs) + 1, (toldP D.secs).length, ((toldP D.secs).map Rc.n).sum, false⟩) 111 ∧ VR w.heap.size w' v (toldP D.secs) ∧ Below w.heap.size w w' ∧ w.heap.size ≤ x := by
  refine (open35 hA hoff (by rw [hw]; simp) hS hR hR2 (by rw [rdS_nil hw]; omega)).mono ?_
  rintro e w1 ⟨x, v, vs, rfl, hb, hu, hvs, hB, hx⟩
  rw [rdS_nil hw] at hvs hb
  exact ⟨x, v, rfl, hb, ⟨vs, hu, hvs.len, fun i y r hy hr => (hvs.at' i y r hy hr)⟩, hB, hx⟩
/-- How far a chain reaches. -/
theorem chainR_sum {h : List Pc} : ∀ (g p e : Nat), p ≤ h.length → p + ((chainR h g p e).map Rc.n).sum ≤ h.length ∧ (chainR h g p e).length ≤ ((chainR h g p e).map Rc.n).sum
  | 0, p, _, hp => ⟨by simpa [chainR] using hp, by simp [chainR]⟩
  | g + 1, p, e, hp => by
    unfold chainR
    split
    · cases hs : atR h p with
      | none => exact ⟨by simpa using hp, by simp⟩
      | some r =>
        simp only
        split
        · exact ⟨by simpa using hp, by simp⟩
        · obtain ⟨f, h1, h2, h3, h4, h5, h6, h7⟩ := atR_some hs
          have := chainR_sum (h := h) g (p + r.n) r.e h6
          refine ⟨?_, ?_⟩
          · simp only [List.map_cons, List.sum_cons]
            omega
          · simp only [List.map_cons, List.sum_cons, List.length_cons]
            omega
    · exact ⟨by simpa using hp, by simp⟩
theorem great_here {l : List Pc} : ∀ x ∈ l, x.e ≤ great l := (great_le l 0).2
/-- Behind an Open: what the logs have, and the disks. -/
theorem Dz.opened {k E : Nat} {D : Dk} (h : Dz 6 0 E D) (hoff : D.off = false) (hE : E ≤ k) :
    Bd k D ⟨forceP D.secs, great (pcs D.secs) + 1, (toldP D.secs).length, ((toldP D.secs).map Rc.n).sum, false⟩ := by
  have hl : (halfP D.secs (forceP D.secs)).length = 6 := by
    rw [halfP_length (by rcases forceP_lt D.secs with e | e <;> omega), h.len]
  have ht : toldP D.secs = chainR (halfP D.secs (forceP D.secs)) (D.secs.length / 2 + 1) 0 0 := (chainR_eq (h.zn.half _) _ _ _).symm
  obtain ⟨c1, c2⟩ := chainR_sum (h := halfP D.secs (forceP D.secs)) (D.secs.length / 2 + 1) 0 0 (by omega)
  rw [← ht] at c1 c2
  have hg : great (pcs D.secs) ≤ E := great_bound _ 0 E (Nat.zero_le _) h.es
  have hw := h.wait
  refine ⟨⟨h.len, h.left, by omega, h.zn, h.zw, fun x hx => Nat.le_succ_of_le (great_here x hx), fun y hy => ?_⟩, fun _ => hoff, forceP_lt _, by show ((toldP D.secs).map Rc.n).sum ≤ 6; omega, by show great (pcs D.secs) + 1 ≤ k + 1; omega, c2⟩
  have : D.wait = [] := List.eq_nil_of_length_eq_zero (by omega)
  rw [this] at hy
  cases hy
end Go.Proofs.Ytnganmekiloigaa
/-! ### pair.open: both logs opened on both disks. -/
namespace Go.Proofs.Ytnganmekiloigaa
open Go.RowKit
set_option maxRecDepth 100000
variable {w w' w2 w4 : World} {B d s x r y q : Nat} {D D' : Dk} {W : Wl}
/-- The blocks of the document's disk, and the pair's. -/
def own3 (q r : Nat) (lv xv : Value) : List Nat := q :: r :: (lv.ownBlock.toList ++ xv.ownBlock.toList)
theorem mem_own3 {g : Nat} {lv xv : Value} : g ∈ own3 q r lv xv ↔ g = q ∨ rfoot r lv xv g := by
  unfold own3 rfoot
  simp only [List.mem_cons, List.mem_append, Option.mem_toList]
/-- The pair at q, ahead of an open. -/
structure Po (B : Nat) (w : World) (q d s r : Nat) (D : Dk) : Prop where
  blk : ∃ c1 c3, Blk w q [.pointer (some ⟨d, 0, none⟩), c1, .pointer (some ⟨r, 0, none⟩), c3] 60
  bq : B ≤ q
  ex : ∃ lv xv, RD w r lv xv D ∧ Alone B w d s D (own3 q r lv xv) ∧ ¬ rfoot r lv xv q ∧ ∀ g ∈ own3 q r lv xv, B ≤ g
theorem Po.below (h : Po B w q d s r D) (k : Below w.heap.size w w') : Po B w' q d s r D := by
  obtain ⟨lv, xv, h1, h2, h3, h4⟩ := h.ex
  obtain ⟨c1, c3, hb⟩ := h.blk
  exact ⟨⟨c1, c3, hb.below k⟩, h.bq, lv, xv, h1.below k, h2.below k, h3, h4⟩
theorem Po.made (h : Po B w q d s r D) (B1 : Below w.heap.size w w2) (hx1 : Blk w2 x (wlC d W) 111) (hx : w.heap.size ≤ x) (hy1 : Blk w2 y (rwC r W) 126) (hy : w.heap.size ≤ y)
    (B4 : Below ((w2.setCell ⟨q, 1, none⟩ (.pointer (some ⟨x, 0, none⟩))).setCell ⟨q, 3, none⟩ (.pointer (some ⟨y, 0, none⟩))).heap.size ((w2.setCell ⟨q, 1, none⟩ (.pointer (some ⟨x, 0, none⟩))).setCell ⟨q, 3, none⟩ (.pointer (some ⟨y, 0, none⟩))) w4) : Pr B w4 q d s r D x y W ∧ Below B w w4 := by
  obtain ⟨lv, xv, h1, h2, h3, h4⟩ := h.ex
  obtain ⟨c1, c3, hb⟩ := h.blk
  have hsz : B ≤ w.heap.size := by obtain ⟨_, _, _, _, h⟩ := h2; exact h
  have hql := hb.lt
  have hb2 := (((hb.below B1).set (o := 1) (.pointer (some ⟨x, 0, none⟩))).set (o := 3) (.pointer (some ⟨y, 0, none⟩)))
  have kk : Keep (fun b => b = q) w2 ((w2.setCell ⟨q, 1, none⟩ (.pointer (some ⟨x, 0, none⟩))).setCell ⟨q, 3, none⟩ (.pointer (some ⟨y, 0, none⟩))) := ((Keep.refl (fun b => b = q) w2).set (p := ⟨q, 1, none⟩) (.inr rfl) _).set (p := ⟨q, 3, none⟩) (.inr rfl) _
  generalize ((w2.setCell ⟨q, 1, none⟩ (.pointer (some ⟨x, 0, none⟩))).setCell ⟨q, 3, none⟩ (.pointer (some ⟨y, 0, none⟩))) = w3 at *
  have hxq : x ≠ q := by omega
  have hyq : y ≠ q := by omega
  have hxy : x ≠ y := fun e => by
    subst e
    have := hx1.symm.trans hy1
    simp at this
  have A2 := h2.adds (N := [x, y]) B1 (fun g hg => by
    simp only [List.mem_cons, List.not_mem_nil, or_false] at hg
    rcases hg with rfl | rfl
    · exact ⟨hx, hx1.lt⟩
    · exact ⟨hy, hy1.lt⟩)
  have A3 := ((A2.less (G' := q :: x :: own4 q y r lv xv) (fun g hg => by
    simp only [List.mem_cons, List.mem_append, mem_own4, mem_own3] at hg ⊢
    rcases hg with e | e | e | e | e <;> simp [e])).keepOne kk).below B4
  have RD4 := ((h1.below B1).keep kk (fun k hk e => h3 (e ▸ hk))).below B4
  refine ⟨⟨hb2.below B4, h.bq, lv, xv, RD4, (hy1.block (kk.block y hy1.lt hyq)).below B4, ⟨A3.less (fun g hg => List.mem_cons_of_mem _ hg), (hx1.block (kk.block x hx1.lt hxq)).below B4, fun hm => ?_, by omega⟩, fun hf => ?_, h3, fun e => hyq e.symm, fun g hg => ?_⟩, (B1.mono hsz).trans ((kk.below (Nat.le_trans hsz B1.size) (fun i e => by have := h.bq; omega)).trans (B4.mono (Nat.le_trans hsz (Nat.le_trans B1.size kk.size))))⟩
  · rcases mem_own4.1 hm with e | e | e
    · exact hxq e
    · exact hxy e
    · have := h1.foot_lt x e; omega
  · have := h1.foot_lt y hf; omega
  · rcases mem_own4.1 hg with e | e | e
    · exact h4 g (mem_own3.2 (.inl e))
    · omega
    · exact h4 g (mem_own3.2 (.inr e))
set_option maxHeartbeats 1000000 in
theorem Po.opens {k E : Nat} (h : Po B w q d s r D) (hoff : D.off = false) (hz : Dz 6 0 E D) (hE : E ≤ k) (hk : k ≤ 1000) :
    Calls Try.prog 64 #[.pointer (some ⟨q, 0, none⟩)] w fun e w' => e = .returned (.bool true) ∧ (∃ x y W, Pr B w' q d s r D x y W ∧ Bd k D W) ∧ Below B w w' := by
  obtain ⟨lv, xv, h1, h2, h3, h4⟩ := id h.ex
  obtain ⟨c1, c3, hb⟩ := id h.blk
  have hbd := hz.opened hoff hE
  have hw : D.wait = [] := List.eq_nil_of_length_eq_zero (by have := hz.wait; omega)
  have hg : great (pcs D.secs) < 65535 := Nat.lt_of_le_of_lt (great_bound _ 0 E (Nat.zero_le _) hz.es) (by omega)
  have hql := hb.lt
  have hS := hz.len
  have htl : (toldP D.secs).length ≤ 1000 := by have := hbd.cnt; have := hbd.en; simp only at *; omega
  have k35 := open35v (h2.less (G' := []) (by simp)) hoff hw hS (by omega) (by omega) hg
  have k44 : Hid (∀ W, Below w.heap.size w W → Calls Try.prog 44 #[.pointer (some ⟨r, 0, none⟩)] W fun e w' => ∃ y v, e = .returned (.tuple #[.pointer (some ⟨y, 0, none⟩), v, .int .i64 0]) ∧ Blk w' y (rwC r ⟨forceP D.secs, great (pcs D.secs) + 1, (toldP D.secs).length, ((toldP D.secs).map Rc.n).sum, false⟩) 126 ∧ VR W.heap.size w' v (toldP D.secs) ∧ Below W.heap.size W w' ∧ W.heap.size ≤ y) := fun W k => by
    have := open44 (h1.below k) hoff (by rw [hw]; simp) hS (by omega) (by omega) (by rw [rdS_nil hw]; exact hg)
    rw [rdS_nil hw] at this
    refine this.mono ?_
    rintro e w' ⟨y, v, rfl, q1, q2, q3, q4⟩
    rw [toldR_eq hz.zn] at q1 q2
    rw [forceR_eq hz.zn] at q1
    exact ⟨y, v, rfl, q1, q2, q3, q4⟩
  have H : Hid (Po B w q d s r D) := h
  have HBD : Hid (Bd k D ⟨forceP D.secs, great (pcs D.secs) + 1, (toldP D.secs).length, ((toldP D.secs).map Rc.n).sum, false⟩) := hbd
  have HTL : Hid ((toldP D.secs).length ≤ 1000) := htl
  have HB : Hid (Blk w q [.pointer (some ⟨d, 0, none⟩), c1, .pointer (some ⟨r, 0, none⟩), c3] 60) := hb
  have HQ : Hid (q < w.heap.size) := hql
  have e0 := hb.cell 0
  generalize forceP D.secs = fP at *
  generalize great (pcs D.secs) + 1 = gP at *
  generalize toldP D.secs = tP at *
  clear h1 h2 h3 h4 h hb hbd hw hg hql hS htl hz hoff hE
  simp only [List.getElem?_cons_zero] at e0
  go_enter Try.func64, Try.ntmps64
  go_wp2_with (first
    | (go_at_call 35; (refine k35.mono ?_; rintro e w1 ⟨x, v, rfl, hx1, hv1, B1, hx⟩; have K44 := k44.out w1 B1; have d2 := (HB.out.below B1).cell 2; simp only [List.getElem?_cons_zero, List.getElem?_cons_succ] at d2))
    | (go_at_call 44; (refine K44.mono ?_; rintro e w2 ⟨y, v2, rfl, hy1, hv2, B2, hy⟩; have hq2 := HB.out.below (bmore B1 B2); have f1 := hq2.frozen 1; have cc1 := hq2.cell 1; have hq3 := hq2.set (o := 1) (.pointer (some ⟨x, 0, none⟩)); have f3 := hq3.frozen 3; have cc3 := hq3.cell 3; simp only [List.getElem?_cons_zero, List.getElem?_cons_succ, List.set_cons_zero, List.set_cons_succ] at cc1 cc3; have kk : Keep (fun b => b = q) w2 ((w2.setCell ⟨q, 1, none⟩ (.pointer (some ⟨x, 0, none⟩))).setCell ⟨q, 3, none⟩ (.pointer (some ⟨y, 0, none⟩))) := ((Keep.refl (fun b => b = q) w2).set (p := ⟨q, 1, none⟩) (.inr rfl) _).set (p := ⟨q, 3, none⟩) (.inr rfl) _; have k74 := same74 ((hv1.below (by have := B2; exact B2)).keepFrom HQ.out kk).rl (hv2.keepFrom (Nat.lt_of_lt_of_le HQ.out B1.size) kk).rl (by rw [List.length_map]; exact HTL.out); have M := fun w4 => H.out.made (w4 := w4) (bmore B1 B2) (hx1.below B2) hx hy1 (Nat.le_trans B1.size hy); have HM : Hid (∀ w4, _ → _) := M; clear kk hq2 hq3 hv1 hv2 hx1 hy1 M))
    | (go_at_call 74; (refine k74.mono ?_; rintro e w4 ⟨rfl, B4⟩)))
  go_ret
  exact ⟨rfl, ⟨x, y, _, (HM.out w4 B4).1, HBD.out⟩, (HM.out w4 B4).2⟩
end Go.Proofs.Ytnganmekiloigaa
/-! ### A deed on the program's log or disk, and then on the document's: the pair between them. -/
namespace Go.Proofs.Ytnganmekiloigaa
open Go.RowKit
set_option maxRecDepth 100000
variable {w w' w1 w2 : World} {B d s x r y q : Nat} {D D' : Dk} {W W' : Wl}
/-- The program's side has done the deed, the document's has not. -/
structure Pm (B : Nat) (w : World) (q d s r : Nat) (D D' : Dk) (x y : Nat) (W W' : Wl) : Prop where
  blk : Blk w q [.pointer (some ⟨d, 0, none⟩), .pointer (some ⟨x, 0, none⟩), .pointer (some ⟨r, 0, none⟩), .pointer (some ⟨y, 0, none⟩)] 60
  bq : B ≤ q
  ex : ∃ lv xv, RD w r lv xv D ∧ Blk w y (rwC r W) 126 ∧ LG B w d s D' x W' (own4 q y r lv xv) ∧ ¬ rfoot r lv xv y ∧ ¬ rfoot r lv xv q ∧ q ≠ y ∧ ∀ g ∈ own4 q y r lv xv, B ≤ g
theorem Pm.below (h : Pm B w q d s r D D' x y W W') (k : Below w.heap.size w w') : Pm B w' q d s r D D' x y W W' := by
  obtain ⟨lv, xv, h1, h2, h3, h4⟩ := h.ex
  exact ⟨h.blk.below k, h.bq, lv, xv, h1.below k, h2.below k, h3.below k, h4⟩
/-- The program's half of a deed. -/
theorem Pr.half {lv xv : Value} (h : Pr B w q d s r D x y W) (h1 : RD w r lv xv D) (h2 : Blk w y (rwC r W) 126) (h4 : ¬ rfoot r lv xv y ∧ ¬ rfoot r lv xv q ∧ q ≠ y ∧ ∀ g ∈ own4 q y r lv xv, B ≤ g)
    (l1 : LG B w1 d s D' x W' (own4 q y r lv xv)) (l2 : Kept (own4 q y r lv xv) w w1) (l3 : Below B w w1) : Pm B w1 q d s r D D' x y W W' := by
  have hs : w.heap.size ≤ w1.heap.size := l3.size
  exact ⟨h.blk.block (l2 q (mem_own4.2 (.inl rfl))), h.bq, lv, xv, h1.blocks hs fun k hk => l2 k (mem_own4.2 (.inr (.inr hk))), h2.block (l2 y (mem_own4.2 (.inr (.inl rfl)))), l1, h4⟩
/-- The document's half. -/
theorem Pm.half {lv xv : Value} (h : Pm B w1 q d s r D D' x y W W') (g2 : Blk w1 y (rwC r W) 126) (l1 : LG B w1 d s D' x W' (own4 q y r lv xv)) (h47 : ¬ rfoot r lv xv y ∧ ¬ rfoot r lv xv q ∧ q ≠ y ∧ ∀ g ∈ own4 q y r lv xv, B ≤ g)
    (hR : RgLeft w1 r lv xv y D' W' w2) : Pr B w2 q d s r D' x y W' ∧ Below B w1 w2 := by
  obtain ⟨h4, h5, h6, h7⟩ := h47
  have m : ∀ g, rfoot r lv xv g → g ∈ own4 q y r lv xv := fun g hg => mem_own4.2 (.inr (.inr hg))
  have g3 := h.blk
  obtain ⟨lv2, xv2, r1, r2, r3, r4⟩ := hR
  have hyl := g2.lt
  have hql := g3.lt
  have hqr : q ≠ r := fun e => h5 (.inl e)
  have hB : B ≤ w1.heap.size := Nat.le_trans h.bq (Nat.le_of_lt hql)
  refine ⟨⟨g3.block (r3.block q hql (by rintro (e | e); exact hqr e; exact h6 e)), h.bq, lv2, xv2, r1, r2, ?_, fun hy => ?_, fun hq => ?_, h6, fun g hg => ?_⟩, r3.below hB ?_⟩
  · refine l1.renew r3 (fun b hb => ?_) (fun g hg => ?_)
    · rcases hb with rfl | rfl
      · exact m _ (.inl rfl)
      · exact mem_own4.2 (.inr (.inl rfl))
    · rcases mem_own4.1 hg with rfl | rfl | hf
      · exact ⟨.inl (mem_own4.2 (.inl rfl)), Nat.lt_of_lt_of_le hql r3.size⟩
      · exact ⟨.inl (mem_own4.2 (.inr (.inl rfl))), Nat.lt_of_lt_of_le hyl r3.size⟩
      · exact ⟨(r4 g hf).imp (m g) id, r1.foot_lt g hf⟩
  · rcases r4 y hy with e | e
    · exact h4 e
    · omega
  · rcases r4 q hq with e | e
    · exact h5 e
    · omega
  · rcases mem_own4.1 hg with rfl | rfl | hf
    · exact h.bq
    · exact h7 _ (mem_own4.2 (.inr (.inl rfl)))
    · rcases r4 g hf with e | e
      · exact h7 g (m g e)
      · omega
  · rintro i (rfl | rfl)
    · exact h7 _ (m _ (.inl rfl))
    · exact h7 _ (mem_own4.2 (.inr (.inl rfl)))
section
variable {k f g : Nat} {args : List Value} {res : Value}
theorem Did.fst (h : Did k w B d s x y r D W f g args res D' W') (P : Pr B w q d s r D x y W) : Calls Try.prog f (.pointer (some ⟨x, 0, none⟩) :: args).toArray w fun e w1 => e = .returned res ∧ Pm B w1 q d s r D D' x y W W' ∧ Below B w w1 := by
  obtain ⟨lv, xv, h1, h2, h3, h4⟩ := P.ex
  refine (h.p _ h3).mono ?_
  rintro e w1 ⟨rfl, l1, l2, l3⟩
  exact ⟨rfl, P.half h1 h2 h4 l1 l2 l3, l3⟩
theorem Did.snd (h : Did k w B d s x y r D W f g args res D' W') (P : Pm B w1 q d s r D D' x y W W') (kb : Below B w w1) : Calls Try.prog g (.pointer (some ⟨y, 0, none⟩) :: args).toArray w1 fun e w2 => e = .returned res ∧ Pr B w2 q d s r D' x y W' ∧ Below B w1 w2 := by
  obtain ⟨lv, xv, g1, g2, l1, h4⟩ := id P.ex
  refine (h.r w1 lv xv kb g1 g2 h4.1).mono ?_
  rintro e w2 ⟨rfl, hR⟩
  exact ⟨rfl, P.half g2 l1 h4 hR⟩
end
/-! ### Cut and Crash on both disks. -/
theorem Pr.cut1 {g : Nat} {n : Int} (P : Pr B w q d s r D x y W) (hk : Below w.heap.size w w1) (hg1 : w.heap.size ≤ g) (hg2 : g < w1.heap.size) (hn : -9223372036854775808 ≤ n ∧ n ≤ 9223372036854775807) :
    Calls Try.prog 23 #[.pointer (some ⟨d, 0, none⟩), .int .i64 n] w1 fun e w2 => e = .returned (.tuple #[]) ∧ Pm B w2 q d s r D (D.doCut n) x y W W ∧ w2.heap[g]? = w1.heap[g]? ∧ Below B w1 w2 := by
  obtain ⟨lv, xv, h1, h2, h3, h4⟩ := P.ex
  have A := h3.add hk hg1 hg2
  have h1' := h1.below hk
  have h2' := h2.below hk
  refine (alone23 A.disk n hn).mono ?_
  rintro e w2 ⟨rfl, A2, K2, B2⟩
  have K3 : Kept (own4 q y r lv xv) w1 w2 := fun b hb => K2 b (by simp [hb])
  exact ⟨rfl, (P.below hk).half h1' h2' h4 ⟨A2.less (fun b hb => by simp only [List.mem_cons] at hb ⊢; rcases hb with e | e <;> simp [e]), A.wal.block (K2 x (by simp)), h3.nx, h3.bx⟩ K3 B2, K2 g (by simp), B2⟩
theorem Pm.cut2 {n : Int} {g : Nat} (P : Pm B w1 q d s r D (D.doCut n) x y W W) (hg : g ≠ r) (hgl : g < w1.heap.size) (hn : -9223372036854775808 ≤ n ∧ n ≤ 9223372036854775807) :
    Calls Try.prog 62 #[.pointer (some ⟨r, 0, none⟩), .int .i64 n] w1 fun e w2 => e = .returned (.tuple #[]) ∧ Pr B w2 q d s r (D.doCut n) x y W ∧ Below B w1 w2 ∧ w2.heap[g]? = w1.heap[g]? := by
  obtain ⟨lv, xv, g1, g2, l1, h4⟩ := id P.ex
  refine (rcut62 g1 n hn).mono ?_
  rintro e w2 ⟨rfl, q1, q2⟩
  obtain ⟨z1, z2⟩ := P.half g2 l1 h4 ⟨lv, xv, q1, g2.block (q2.block y g2.lt (fun e => h4.1 (.inl e))), q2.mono (fun i _ e => .inl e), fun k hk => .inl hk⟩
  exact ⟨rfl, z1, z2, q2.block g hgl hg⟩
/-- Behind the crash of the program's disk, ahead of the document's. -/
structure Pn (B : Nat) (w : World) (q d s r : Nat) (D D' : Dk) : Prop where
  blk : ∃ c1 c3, Blk w q [.pointer (some ⟨d, 0, none⟩), c1, .pointer (some ⟨r, 0, none⟩), c3] 60
  bq : B ≤ q
  ex : ∃ lv xv, RD w r lv xv D ∧ Alone B w d s D' (own3 q r lv xv) ∧ ¬ rfoot r lv xv q ∧ ∀ g ∈ own3 q r lv xv, B ≤ g
theorem Pn.below (h : Pn B w q d s r D D') (k : Below w.heap.size w w') : Pn B w' q d s r D D' := by
  obtain ⟨lv, xv, h1, h2, h3, h4⟩ := h.ex
  obtain ⟨c1, c3, hb⟩ := h.blk
  exact ⟨⟨c1, c3, hb.below k⟩, h.bq, lv, xv, h1.below k, h2.below k, h3, h4⟩
theorem Pr.crash1 {g : Nat} {l : List Bool} {v : Value} (P : Pr B w q d s r D x y W) (hk : Below w.heap.size w w1) (hg1 : w.heap.size ≤ g) (hg2 : g < w1.heap.size) (hw : D.wait.length ≤ 100000) (hv : KB w1 v l) (hvB : ∀ a n c, v = .slice (some a) n c → 0 < l.length → a.block < B) :
    Calls Try.prog 18 #[.pointer (some ⟨d, 0, none⟩), v] w1 fun e w2 => e = .returned (.tuple #[]) ∧ Pn B w2 q d s r D (D.crash l) ∧ w2.heap[g]? = w1.heap[g]? ∧ Below B w1 w2 := by
  obtain ⟨lv, xv, h1, h2, h3, h4, h5, h6, h7⟩ := P.ex
  have A := h3.add hk hg1 hg2
  have h1' := h1.below hk
  refine (lg_crash A.disk hv hvB hw).mono ?_
  rintro e w2 ⟨rfl, A2, K2, B2⟩
  have m : ∀ b, b ∈ own3 q r lv xv → b ∈ own4 q y r lv xv := fun b hb => by
    rw [mem_own3] at hb
    rw [mem_own4]
    rcases hb with e | e <;> simp [e]
  refine ⟨rfl, ⟨⟨_, _, (P.blk.below hk).block (K2 q (by simp [mem_own4]))⟩, P.bq, lv, xv, h1'.blocks B2.size fun b hb => K2 b (by have := m b (mem_own3.2 (.inr hb)); simp [this]), A2.less fun b hb => by have := m b hb; simp [this], h5, fun b hb => h7 b (m b hb)⟩, K2 g (by simp), B2⟩
theorem Pn.crash2 {l : List Bool} {v : Value} {g : Nat} (P : Pn B w1 q d s r D (D.crash l)) (hg : g ≠ r) (hgl : g < w1.heap.size) (hS : D.secs.length = 2 * 6) (hw : D.wait.length ≤ 1000) (hv : KB w1 v l) (hvB : ∀ a n c, v = .slice (some a) n c → 0 < l.length → a.block < B) :
    Calls Try.prog 63 #[.pointer (some ⟨r, 0, none⟩), v] w1 fun e w2 => e = .returned (.tuple #[]) ∧ Po B w2 q d s r (D.crash l) ∧ Below B w1 w2 ∧ w2.heap[g]? = w1.heap[g]? := by
  obtain ⟨lv, xv, g1, g2, g3, g4⟩ := id P.ex
  obtain ⟨c1, c3, hb⟩ := id P.blk
  have hsz : B ≤ w1.heap.size := by obtain ⟨_, _, _, _, h⟩ := g2; exact h
  have hrB : B ≤ r := g4 r (mem_own3.2 (.inr (.inl rfl)))
  have hql := hb.lt
  have hqr : q ≠ r := fun e => g3 (.inl e)
  refine (rcrash63 g1 (by omega) (by omega) hw v l hv (fun a n c e h0 => by have := hvB a n c e h0; omega)).mono ?_
  rintro e w2 ⟨rfl, lv2, xv2, r1, r2, r3⟩
  have hlt : ∀ b ∈ own3 q r lv xv, b < w1.heap.size := fun b hb => by
    rcases mem_own3.1 hb with e | e
    · omega
    · exact g1.foot_lt b e
  refine ⟨rfl, ⟨⟨c1, c3, hb.block (r2.block q hql hqr)⟩, P.bq, lv2, xv2, r1, ?_, fun hq => ?_, fun b hb => ?_⟩, r2.below hsz (fun i e => by omega), r2.block g hgl hg⟩
  · obtain ⟨wv, p1, p2, p3, p4⟩ := g2
    have hrf : ¬ foot d s wv r := (p2 r (mem_own3.2 (.inr (.inl rfl)))).1
    refine ⟨wv, p1.keep r2 (fun b hb e => hrf (e ▸ hb)), fun b hb => ?_, p3, Nat.le_trans p4 r2.size⟩
    rcases mem_own3.1 hb with rfl | hf
    · exact ⟨(p2 b (mem_own3.2 (.inl rfl))).1, Nat.lt_of_lt_of_le hql r2.size⟩
    · refine ⟨fun hfo => ?_, r1.foot_lt b hf⟩
      rcases r3 b hf with e | e
      · exact (p2 b (mem_own3.2 (.inr e))).1 hfo
      · have := p1.foot_lt b hfo; omega
  · rcases r3 q hq with e | e
    · exact g3 e
    · omega
  · rcases mem_own3.1 hb with rfl | hf
    · exact P.bq
    · rcases r3 b hf with e | e
      · exact g4 b (mem_own3.2 (.inr e))
      · omega
end Go.Proofs.Ytnganmekiloigaa
/-! ### pair.do: a deed on both sides. -/
namespace Go.Proofs.Ytnganmekiloigaa
open Go.RowKit
set_option maxRecDepth 100000
variable {w w' w1 w2 : World} {B d s x r y q k : Nat} {D D' : Dk} {W W' : Wl} {kd N : Int} {vb vk : Value} {l : Bs} {kl : List Bool}
/-- Neither side parts from the other. -/
def DoPost (B q d s r k : Nat) (w0 : World) (e : Ending) (w' : World) : Prop := e = .returned (.bool true) ∧ (∃ D x y W, Pr B w' q d s r D x y W ∧ Bd k D W) ∧ Below B w0 w'
theorem Pr.bounds (P : Pr B w q d s r D x y W) : B ≤ w.heap.size ∧ B ≤ r ∧ B ≤ y := by
  obtain ⟨lv, xv, h1, h2, h3, h4, h5, h6, h7⟩ := P.ex
  exact ⟨h3.size, h7 r (by simp [mem_own4, rfoot]), h7 y (by simp [mem_own4])⟩
theorem Pr.cells (P : Pr B w q d s r D x y W) : (w.cell? ⟨q, 1, none⟩ = some (.pointer (some ⟨x, 0, none⟩)) ∧ w.cell? ⟨q, 3, none⟩ = some (.pointer (some ⟨y, 0, none⟩))) ∧ w.cell? ⟨q, 0, none⟩ = some (.pointer (some ⟨d, 0, none⟩)) ∧ w.cell? ⟨q, 2, none⟩ = some (.pointer (some ⟨r, 0, none⟩)) := ⟨⟨P.blk.cell 1, P.blk.cell 3⟩, P.blk.cell 0, P.blk.cell 2⟩
theorem Pm.cells (P : Pm B w q d s r D D' x y W W') : (w.cell? ⟨q, 1, none⟩ = some (.pointer (some ⟨x, 0, none⟩)) ∧ w.cell? ⟨q, 3, none⟩ = some (.pointer (some ⟨y, 0, none⟩))) ∧ w.cell? ⟨q, 0, none⟩ = some (.pointer (some ⟨d, 0, none⟩)) ∧ w.cell? ⟨q, 2, none⟩ = some (.pointer (some ⟨r, 0, none⟩)) := ⟨⟨P.blk.cell 1, P.blk.cell 3⟩, P.blk.cell 0, P.blk.cell 2⟩
theorem Pn.cells (P : Pn B w q d s r D D') : w.cell? ⟨q, 0, none⟩ = some (.pointer (some ⟨d, 0, none⟩)) ∧ w.cell? ⟨q, 2, none⟩ = some (.pointer (some ⟨r, 0, none⟩)) := by
  obtain ⟨c1, c3, hb⟩ := P.blk
  exact ⟨hb.cell 0, hb.cell 2⟩
theorem kb_of_inkZ {B : Nat} {W1 W : World} {v : Value} {kl : List Bool} (h : InK B W1 v kl) (hB : Below B W1 W) : KB W v kl := by
  obtain ⟨a, c, rfl, h1, h2, h3⟩ := h.below hB
  by_cases h0 : 0 < kl.length
  · obtain ⟨b, o, rfl, hb, hat⟩ := h3 h0
    exact .inr ⟨b, o, c, rfl, h0, hat⟩
  · have e : kl = [] := List.eq_nil_of_length_eq_zero (by omega)
    subst e
    exact .inl ⟨a, c, rfl, rfl⟩
theorem ink_lowZ {B : Nat} {W1 : World} {v : Value} {kl : List Bool} (h : InK B W1 v kl) : ∀ a n c, v = .slice (some a) n c → 0 < kl.length → a.block < B := fun a n c e h0 => by
  obtain ⟨a', c', h1, _, _, h3⟩ := h
  obtain ⟨b, o, e', hb, _⟩ := h3 h0
  rw [h1, e'] at e
  cases e
  exact hb
set_option maxHeartbeats 4000000 in
theorem do65_append (P : Pr B w q d s r D x y W) (hb : Bd k D W) (hk : k ≤ 30) (hv : InB B w vb l) (hkv : InK B w vk kl) :
    Calls Try.prog 65 #[.pointer (some ⟨q, 0, none⟩), .agg #[.int .i64 0, vb, .int .i64 N, vk]] w (DoPost B q d s r (k + 1) w) := by
  obtain ⟨hsz, hBr, hBy⟩ := P.bounds
  obtain ⟨a, c, rfl, hlc, hcm, hin⟩ := id hv
  obtain ⟨ka, kc, rfl, hkc, _, _⟩ := id hkv
  generalize hn : l.length = n at *
  generalize hkn : kl.length = kn at *
  have bD := blk_new w [.int .i64 0, .slice a n c, .int .i64 N, .slice ka kn kc] 69
  have k1 := al w (.cells #[.int .i64 0, .slice a n c, .int .i64 N, .slice ka kn kc] 69)
  obtain ⟨w1, hw1⟩ : ∃ w1, w.alloc (.cells #[.int .i64 0, .slice a n c, .int .i64 N, .slice ka kn kc] 69) = w1 := ⟨_, rfl⟩
  have bD' : Blk w1 w.heap.size [.int .i64 0, .slice a n c, .int .i64 N, .slice ka kn kc] 69 := by rw [← hw1]; exact bD
  rw [hw1] at k1
  have k40 := short40 a n c hlc
  have k37 := bits37 ka kn kc hkc
  have P1 := P.below k1
  have hB1 : Below B w w1 := k1.mono hsz
  have hB1d : Below w.heap.size w w1.drew := bmore k1 (Below.refl _ _).drew
  have y0 : w1.cell? ⟨w.heap.size, 0, none⟩ = some (.int .i64 0) := bD'.cell 0
  have y1 : w1.cell? ⟨w.heap.size, 1, none⟩ = some (.slice a n c) := bD'.cell 1
  have y2 : w1.cell? ⟨w.heap.size, 2, none⟩ = some (.int .i64 N) := bD'.cell 2
  have y3 : w1.cell? ⟨w.heap.size, 3, none⟩ = some (.slice ka kn kc) := bD'.cell 3
  have y2d : w1.drew.cell? ⟨w.heap.size, 2, none⟩ = some (.int .i64 N) := bD'.cell 2
  have y3d : w1.drew.cell? ⟨w.heap.size, 3, none⟩ = some (.slice ka kn kc) := bD'.cell 3
  have hgl : w.heap.size < w1.drew.heap.size := bD'.lt
  have HW1 : Hid (w.alloc (.cells #[.int .i64 0, .slice a n c, .int .i64 N, .slice ka kn kc] 69) = w1) := hw1
  have P1d : Pr B w1.drew q d s r D x y W := P1.below (Below.refl _ _).drew
  obtain ⟨⟨q1, q3⟩, q0, q2⟩ := P1.cells
  obtain ⟨hS0, d0, d2⟩ := P1d.cells
  have hvb := inb_take (k := 400) (hv.below hB1)
  obtain ⟨bs, hbs⟩ : ∃ bs, l.take 400 = bs := ⟨_, rfl⟩
  obtain ⟨m, hm⟩ : ∃ m, min n 400 = m := ⟨_, rfl⟩
  have hbl : bs.length = m := by rw [← hbs, List.length_take, ← hm, hn, Nat.min_comm]
  rw [hbs, hm] at hvb
  simp only [hm] at k40
  have hlb := lv_of_in hvb
  have hag : 0 < m → ∀ g o, a = some ⟨g, o, none⟩ → g < B := fun h0 g o e => by
    obtain ⟨a', c', hv', _, _, h3⟩ := hvb
    simp only [Value.slice.injEq] at hv'
    obtain ⟨rfl, -, rfl⟩ := hv'
    obtain ⟨b2, o2, e2, hb2, _⟩ := h3 (by omega)
    rw [e] at e2
    cases e2
    exact hb2
  have hbl400 : bs.length ≤ 400 := by omega
  obtain ⟨m2, f2, D', W', hd⟩ := append_both (B := B) (d := d) (s := s) (x := x) (r := r) (y := y) hb hk hlb hbl400 hag hBr hBy (Nat.le_trans hsz k1.size)
  have k42 := hd.fst P1
  clear P1 P1d P hv hkv hvb hlb hag hbl hbl400 hin hbs hm hn hkn bD bD' hw1 hcm hkc hlc hgl k37
  go_enter Try.func65, Try.ntmps65
  go_wp2_with (first
    | (go_at_call 40; (rw [HW1.out]; refine (k40 _).mono ?_; rintro e w9 ⟨rfl, h9⟩; replace h9 := h9.symm; subst h9))
    | (go_at_call 42; (refine k42.mono ?_; rintro e w2 ⟨rfl, p2, b2⟩; have q3 := p2.cells.1.2; have k89 := hd.snd p2 b2; clear p2))
    | (go_at_call 89; (refine k89.mono ?_; rintro e w3 ⟨rfl, p3, b3⟩)))
  go_ret
  exact ⟨rfl, ⟨_, _, _, _, p3, hd.bd⟩, hB1.trans (b2.trans b3)⟩
set_option maxHeartbeats 4000000 in
theorem do65_flush (P : Pr B w q d s r D x y W) (hb : Bd k D W) (hk : k ≤ 30) (hv : InB B w vb l) (hkv : InK B w vk kl) :
    Calls Try.prog 65 #[.pointer (some ⟨q, 0, none⟩), .agg #[.int .i64 1, vb, .int .i64 N, vk]] w (DoPost B q d s r (k + 1) w) := by
  obtain ⟨hsz, hBr, hBy⟩ := P.bounds
  obtain ⟨a, c, rfl, hlc, hcm, hin⟩ := id hv
  obtain ⟨ka, kc, rfl, hkc, _, _⟩ := id hkv
  generalize hn : l.length = n at *
  generalize hkn : kl.length = kn at *
  have bD := blk_new w [.int .i64 1, .slice a n c, .int .i64 N, .slice ka kn kc] 69
  have k1 := al w (.cells #[.int .i64 1, .slice a n c, .int .i64 N, .slice ka kn kc] 69)
  obtain ⟨w1, hw1⟩ : ∃ w1, w.alloc (.cells #[.int .i64 1, .slice a n c, .int .i64 N, .slice ka kn kc] 69) = w1 := ⟨_, rfl⟩
  have bD' : Blk w1 w.heap.size [.int .i64 1, .slice a n c, .int .i64 N, .slice ka kn kc] 69 := by rw [← hw1]; exact bD
  rw [hw1] at k1
  have k40 := short40 a n c hlc
  have k37 := bits37 ka kn kc hkc
  have P1 := P.below k1
  have hB1 : Below B w w1 := k1.mono hsz
  have hB1d : Below w.heap.size w w1.drew := bmore k1 (Below.refl _ _).drew
  have y0 : w1.cell? ⟨w.heap.size, 0, none⟩ = some (.int .i64 1) := bD'.cell 0
  have y1 : w1.cell? ⟨w.heap.size, 1, none⟩ = some (.slice a n c) := bD'.cell 1
  have y2 : w1.cell? ⟨w.heap.size, 2, none⟩ = some (.int .i64 N) := bD'.cell 2
  have y3 : w1.cell? ⟨w.heap.size, 3, none⟩ = some (.slice ka kn kc) := bD'.cell 3
  have y2d : w1.drew.cell? ⟨w.heap.size, 2, none⟩ = some (.int .i64 N) := bD'.cell 2
  have y3d : w1.drew.cell? ⟨w.heap.size, 3, none⟩ = some (.slice ka kn kc) := bD'.cell 3
  have hgl : w.heap.size < w1.drew.heap.size := bD'.lt
  have HW1 : Hid (w.alloc (.cells #[.int .i64 1, .slice a n c, .int .i64 N, .slice ka kn kc] 69) = w1) := hw1
  have P1d : Pr B w1.drew q d s r D x y W := P1.below (Below.refl _ _).drew
  obtain ⟨⟨q1, q3⟩, q0, q2⟩ := P1.cells
  obtain ⟨hS0, d0, d2⟩ := P1d.cells
  obtain ⟨m2, D', W', hd⟩ := flush_both (w := w1.drew) (B := B) (d := d) (s := s) (x := x) (r := r) (y := y) hb hk
  have k39 := hd.fst P1d
  clear P1 P1d P hv hkv hin hn hkn bD bD' hw1 hcm hkc hlc hgl k37
  go_enter Try.func65, Try.ntmps65
  go_wp2_with (first
    | (go_at_call 40; (rw [HW1.out]; refine (k40 _).mono ?_; rintro e w9 ⟨rfl, h9⟩; replace h9 := h9.symm; subst h9)))
  go_region_held3 (fun W => W.cell? ⟨q, 1, none⟩ = some (.pointer (some ⟨x, 0, none⟩)) ∧ W.cell? ⟨q, 3, none⟩ = some (.pointer (some ⟨y, 0, none⟩))) (first | exact hS0 | exact hS2 | exact hS3) (first
    | (go_at_call 39; (refine k39.mono ?_); rintro e w2 ⟨rfl, p2, b2⟩; have hS2 := p2.cells.1; have k90 := hd.snd p2 b2; clear p2)
    | (go_at_call 90; (refine k90.mono ?_); rintro e w3 ⟨rfl, p3, b3⟩; have hS3 := p3.cells.1))
  all_goals go_wp2
  all_goals go_ret
  all_goals exact ⟨by simp, ⟨_, _, _, _, p3, hd.bd⟩, hB1.trans ((Below.refl B w1).drew.trans (b2.trans b3))⟩
set_option maxHeartbeats 4000000 in
theorem do65_switch (P : Pr B w q d s r D x y W) (hb : Bd k D W) (hk : k ≤ 30) (hv : InB B w vb l) (hkv : InK B w vk kl) :
    Calls Try.prog 65 #[.pointer (some ⟨q, 0, none⟩), .agg #[.int .i64 2, vb, .int .i64 N, vk]] w (DoPost B q d s r (k + 1) w) := by
  obtain ⟨hsz, hBr, hBy⟩ := P.bounds
  obtain ⟨a, c, rfl, hlc, hcm, hin⟩ := id hv
  obtain ⟨ka, kc, rfl, hkc, _, _⟩ := id hkv
  generalize hn : l.length = n at *
  generalize hkn : kl.length = kn at *
  have bD := blk_new w [.int .i64 2, .slice a n c, .int .i64 N, .slice ka kn kc] 69
  have k1 := al w (.cells #[.int .i64 2, .slice a n c, .int .i64 N, .slice ka kn kc] 69)
  obtain ⟨w1, hw1⟩ : ∃ w1, w.alloc (.cells #[.int .i64 2, .slice a n c, .int .i64 N, .slice ka kn kc] 69) = w1 := ⟨_, rfl⟩
  have bD' : Blk w1 w.heap.size [.int .i64 2, .slice a n c, .int .i64 N, .slice ka kn kc] 69 := by rw [← hw1]; exact bD
  rw [hw1] at k1
  have k40 := short40 a n c hlc
  have k37 := bits37 ka kn kc hkc
  have P1 := P.below k1
  have hB1 : Below B w w1 := k1.mono hsz
  have hB1d : Below w.heap.size w w1.drew := bmore k1 (Below.refl _ _).drew
  have y0 : w1.cell? ⟨w.heap.size, 0, none⟩ = some (.int .i64 2) := bD'.cell 0
  have y1 : w1.cell? ⟨w.heap.size, 1, none⟩ = some (.slice a n c) := bD'.cell 1
  have y2 : w1.cell? ⟨w.heap.size, 2, none⟩ = some (.int .i64 N) := bD'.cell 2
  have y3 : w1.cell? ⟨w.heap.size, 3, none⟩ = some (.slice ka kn kc) := bD'.cell 3
  have y2d : w1.drew.cell? ⟨w.heap.size, 2, none⟩ = some (.int .i64 N) := bD'.cell 2
  have y3d : w1.drew.cell? ⟨w.heap.size, 3, none⟩ = some (.slice ka kn kc) := bD'.cell 3
  have hgl : w.heap.size < w1.drew.heap.size := bD'.lt
  have HW1 : Hid (w.alloc (.cells #[.int .i64 2, .slice a n c, .int .i64 N, .slice ka kn kc] 69) = w1) := hw1
  have P1d : Pr B w1.drew q d s r D x y W := P1.below (Below.refl _ _).drew
  obtain ⟨⟨q1, q3⟩, q0, q2⟩ := P1.cells
  obtain ⟨hS0, d0, d2⟩ := P1d.cells
  have hvb := inb_take (k := 400) (hv.below hB1)
  obtain ⟨bs, hbs⟩ : ∃ bs, l.take 400 = bs := ⟨_, rfl⟩
  obtain ⟨m, hm⟩ : ∃ m, min n 400 = m := ⟨_, rfl⟩
  have hbl : bs.length = m := by rw [← hbs, List.length_take, ← hm, hn, Nat.min_comm]
  rw [hbs, hm] at hvb
  simp only [hm] at k40
  have hlb := lv_of_in hvb
  have hag : 0 < m → ∀ g o, a = some ⟨g, o, none⟩ → g < B := fun h0 g o e => by
    obtain ⟨a', c', hv', _, _, h3⟩ := hvb
    simp only [Value.slice.injEq] at hv'
    obtain ⟨rfl, -, rfl⟩ := hv'
    obtain ⟨b2, o2, e2, hb2, _⟩ := h3 (by omega)
    rw [e] at e2
    cases e2
    exact hb2
  have hbl400 : bs.length ≤ 400 := by omega
  have hlbd : LV EB w1.drew (.slice a m c) bs := hlb.below (Below.refl _ _).drew
  obtain ⟨m2, D', W', hd⟩ := switch_both (w := w1.drew) (B := B) (d := d) (s := s) (x := x) (r := r) (y := y) hb hk hlbd hbl400 hag hBr hBy (Nat.le_trans hsz k1.size)
  have k41 := hd.fst P1d
  clear P1 P1d P hv hkv hvb hlb hlbd hag hbl hbl400 hin hbs hm hn hkn bD bD' hw1 hcm hkc hlc hgl k37
  go_enter Try.func65, Try.ntmps65
  go_wp2_with (first
    | (go_at_call 40; (rw [HW1.out]; refine (k40 _).mono ?_; rintro e w9 ⟨rfl, h9⟩; replace h9 := h9.symm; subst h9)))
  go_region_held3 (fun W => W.cell? ⟨q, 1, none⟩ = some (.pointer (some ⟨x, 0, none⟩)) ∧ W.cell? ⟨q, 3, none⟩ = some (.pointer (some ⟨y, 0, none⟩))) (first | exact hS0 | exact hS2 | exact hS3) (first
    | (go_at_call 41; (refine k41.mono ?_); rintro e w2 ⟨rfl, p2, b2⟩; have hS2 := p2.cells.1; have k91 := hd.snd p2 b2; clear p2)
    | (go_at_call 91; (refine k91.mono ?_); rintro e w3 ⟨rfl, p3, b3⟩; have hS3 := p3.cells.1))
  all_goals go_wp2
  all_goals go_ret
  all_goals exact ⟨by simp, ⟨_, _, _, _, p3, hd.bd⟩, hB1.trans ((Below.refl B w1).drew.trans (b2.trans b3))⟩
set_option maxHeartbeats 4000000 in
theorem do65_cut (P : Pr B w q d s r D x y W) (hb : Bd k D W) (hv : InB B w vb l) (hkv : InK B w vk kl) (hN : -9223372036854775808 ≤ N ∧ N ≤ 9223372036854775807) :
    Calls Try.prog 65 #[.pointer (some ⟨q, 0, none⟩), .agg #[.int .i64 3, vb, .int .i64 N, vk]] w (DoPost B q d s r (k + 1) w) := by
  obtain ⟨hsz, hBr, hBy⟩ := P.bounds
  obtain ⟨a, c, rfl, hlc, hcm, hin⟩ := id hv
  obtain ⟨ka, kc, rfl, hkc, _, _⟩ := id hkv
  generalize hn : l.length = n at *
  generalize hkn : kl.length = kn at *
  have bD := blk_new w [.int .i64 3, .slice a n c, .int .i64 N, .slice ka kn kc] 69
  have k1 := al w (.cells #[.int .i64 3, .slice a n c, .int .i64 N, .slice ka kn kc] 69)
  obtain ⟨w1, hw1⟩ : ∃ w1, w.alloc (.cells #[.int .i64 3, .slice a n c, .int .i64 N, .slice ka kn kc] 69) = w1 := ⟨_, rfl⟩
  have bD' : Blk w1 w.heap.size [.int .i64 3, .slice a n c, .int .i64 N, .slice ka kn kc] 69 := by rw [← hw1]; exact bD
  rw [hw1] at k1
  have k40 := short40 a n c hlc
  have k37 := bits37 ka kn kc hkc
  have P1 := P.below k1
  have hB1 : Below B w w1 := k1.mono hsz
  have hB1d : Below w.heap.size w w1.drew := bmore k1 (Below.refl _ _).drew
  have y0 : w1.cell? ⟨w.heap.size, 0, none⟩ = some (.int .i64 3) := bD'.cell 0
  have y1 : w1.cell? ⟨w.heap.size, 1, none⟩ = some (.slice a n c) := bD'.cell 1
  have y2 : w1.cell? ⟨w.heap.size, 2, none⟩ = some (.int .i64 N) := bD'.cell 2
  have y3 : w1.cell? ⟨w.heap.size, 3, none⟩ = some (.slice ka kn kc) := bD'.cell 3
  have y2d : w1.drew.cell? ⟨w.heap.size, 2, none⟩ = some (.int .i64 N) := bD'.cell 2
  have y3d : w1.drew.cell? ⟨w.heap.size, 3, none⟩ = some (.slice ka kn kc) := bD'.cell 3
  have hgl : w.heap.size < w1.drew.heap.size := bD'.lt
  have HW1 : Hid (w.alloc (.cells #[.int .i64 3, .slice a n c, .int .i64 N, .slice ka kn kc] 69) = w1) := hw1
  have P1d : Pr B w1.drew q d s r D x y W := P1.below (Below.refl _ _).drew
  obtain ⟨⟨q1, q3⟩, q0, q2⟩ := P1.cells
  obtain ⟨hS0, d0, d2⟩ := P1d.cells
  have k23 := P.cut1 hB1d (Nat.le_refl _) hgl hN
  have hgr : w.heap.size ≠ r := fun e => by obtain ⟨lv, xv, h1, _⟩ := P.ex; have := h1.rlt; omega
  have HD : Hid (Blk w1.drew w.heap.size [.int .i64 3, .slice a n c, .int .i64 N, .slice ka kn kc] 69) := bD'
  have hcut : Bd (k + 1) (D.doCut N) W := ⟨(hb.dz.doCut N).more (by omega) (Nat.le_refl _), fun h => by have := hb.off h; unfold Dk.doCut; split <;> exact this, hb.half, hb.en, by have := hb.e; omega, hb.cnt⟩
  clear P1 P1d P hv hkv hin hn hkn bD bD' hw1 hcm hkc hlc k37 hgl
  have hS : w1.drew.cell? ⟨q, 0, none⟩ = some (.pointer (some ⟨d, 0, none⟩)) ∧ w1.drew.cell? ⟨w.heap.size, 2, none⟩ = some (.int .i64 N) := ⟨d0, y2d⟩
  go_enter Try.func65, Try.ntmps65
  go_wp2_with (first
    | (go_at_call 40; (rw [HW1.out]; refine (k40 _).mono ?_; rintro e w9 ⟨rfl, h9⟩; replace h9 := h9.symm; subst h9)))
  go_region_held3 (fun W => W.cell? ⟨q, 0, none⟩ = some (.pointer (some ⟨d, 0, none⟩)) ∧ W.cell? ⟨w.heap.size, 2, none⟩ = some (.int .i64 N)) (first | exact hS | exact hS2) (first
    | (go_at_call 23; (refine k23.mono ?_); rintro e w2 ⟨rfl, p2, g2, b2⟩; have hD2 := HD.out.block g2; have hD2d := hD2.below (Below.refl _ w2).drew; have HD2 : Hid (Blk w2.drew w.heap.size [.int .i64 3, .slice a n c, .int .i64 N, .slice ka kn kc] 69) := hD2d; have hS2 : w2.cell? ⟨q, 0, none⟩ = some (.pointer (some ⟨d, 0, none⟩)) ∧ w2.cell? ⟨w.heap.size, 2, none⟩ = some (.int .i64 N) := ⟨p2.cells.2.1, hD2.cell 2⟩; have p2d := p2.below (Below.refl _ w2).drew; have hS3 : w2.drew.cell? ⟨q, 2, none⟩ = some (.pointer (some ⟨r, 0, none⟩)) ∧ w2.drew.cell? ⟨w.heap.size, 2, none⟩ = some (.int .i64 N) := ⟨p2d.cells.2.2, hD2.cell 2⟩; have k62 := p2d.cut2 (g := w.heap.size) hgr hD2d.lt hN; have b2d := b2.trans (Below.refl B w2).drew; clear p2 hD2 hD2d p2d g2 b2))
  all_goals go_wp2
  go_region_held3 (fun W => W.cell? ⟨q, 2, none⟩ = some (.pointer (some ⟨r, 0, none⟩)) ∧ W.cell? ⟨w.heap.size, 2, none⟩ = some (.int .i64 N)) (first | exact hS3 | exact hS4) (first
    | (go_at_call 62; (refine k62.mono ?_); rintro e w3 ⟨rfl, p3, b3, g3⟩; have hD3 := HD2.out.block g3; have hS4 : w3.cell? ⟨q, 2, none⟩ = some (.pointer (some ⟨r, 0, none⟩)) ∧ w3.cell? ⟨w.heap.size, 2, none⟩ = some (.int .i64 N) := ⟨p3.cells.2.2, hD3.cell 2⟩; clear hD3 g3))
  all_goals go_wp2
  all_goals go_ret
  all_goals exact ⟨rfl, ⟨_, _, _, _, p3, hcut⟩, hB1.trans ((Below.refl B w1).drew.trans (b2d.trans b3))⟩
set_option maxHeartbeats 4000000 in
theorem do65_crash (P : Pr B w q d s r D x y W) (hb : Bd k D W) (hk : k ≤ 30) (hv : InB B w vb l) (hkv : InK B w vk kl) :
    Calls Try.prog 65 #[.pointer (some ⟨q, 0, none⟩), .agg #[.int .i64 4, vb, .int .i64 N, vk]] w (DoPost B q d s r (k + 1) w) := by
  obtain ⟨hsz, hBr, hBy⟩ := P.bounds
  obtain ⟨a, c, rfl, hlc, hcm, hin⟩ := id hv
  obtain ⟨ka, kc, rfl, hkc, _, _⟩ := id hkv
  generalize hn : l.length = n at *
  generalize hkn : kl.length = kn at *
  have bD := blk_new w [.int .i64 4, .slice a n c, .int .i64 N, .slice ka kn kc] 69
  have k1 := al w (.cells #[.int .i64 4, .slice a n c, .int .i64 N, .slice ka kn kc] 69)
  obtain ⟨w1, hw1⟩ : ∃ w1, w.alloc (.cells #[.int .i64 4, .slice a n c, .int .i64 N, .slice ka kn kc] 69) = w1 := ⟨_, rfl⟩
  have bD' : Blk w1 w.heap.size [.int .i64 4, .slice a n c, .int .i64 N, .slice ka kn kc] 69 := by rw [← hw1]; exact bD
  rw [hw1] at k1
  have k40 := short40 a n c hlc
  have k37 := bits37 ka kn kc hkc
  have P1 := P.below k1
  have hB1 : Below B w w1 := k1.mono hsz
  have hB1d : Below w.heap.size w w1.drew := bmore k1 (Below.refl _ _).drew
  have y0 : w1.cell? ⟨w.heap.size, 0, none⟩ = some (.int .i64 4) := bD'.cell 0
  have y1 : w1.cell? ⟨w.heap.size, 1, none⟩ = some (.slice a n c) := bD'.cell 1
  have y2 : w1.cell? ⟨w.heap.size, 2, none⟩ = some (.int .i64 N) := bD'.cell 2
  have y3 : w1.cell? ⟨w.heap.size, 3, none⟩ = some (.slice ka kn kc) := bD'.cell 3
  have y2d : w1.drew.cell? ⟨w.heap.size, 2, none⟩ = some (.int .i64 N) := bD'.cell 2
  have y3d : w1.drew.cell? ⟨w.heap.size, 3, none⟩ = some (.slice ka kn kc) := bD'.cell 3
  have hgl : w.heap.size < w1.drew.heap.size := bD'.lt
  have HW1 : Hid (w.alloc (.cells #[.int .i64 4, .slice a n c, .int .i64 N, .slice ka kn kc] 69) = w1) := hw1
  have P1d : Pr B w1.drew q d s r D x y W := P1.below (Below.refl _ _).drew
  obtain ⟨⟨q1, q3⟩, q0, q2⟩ := P1.cells
  obtain ⟨hS0, d0, d2⟩ := P1d.cells
  have hkb := ink_take (k := 40) hkv
  have hkB := ink_lowZ hkb
  have hkK : ∀ W2, Below B w W2 → KB W2 (.slice ka (min kn 40) kc) (kl.take 40) := fun W2 b => kb_of_inkZ hkb b
  have hwt := hb.dz.wait
  have hS12 := hb.dz.len
  have hgr : w.heap.size ≠ r := fun e => by obtain ⟨lv, xv, h1, _⟩ := P.ex; have := h1.rlt; omega
  have k18 := P.crash1 hB1d (Nat.le_refl _) hgl (by omega) (hkK _ (hB1.trans (Below.refl B w1).drew)) hkB
  have HD : Hid (Blk w1.drew w.heap.size [.int .i64 4, .slice a n c, .int .i64 N, .slice ka kn kc] 69) := bD'
  have HK : Hid (∀ W2, Below B w1 W2 → KB W2 (.slice ka (min kn 40) kc) (kl.take 40)) := fun W2 b => hkK W2 (hB1.trans b)
  have HKB : Hid (∀ a n c, Value.slice ka (min kn 40) kc = .slice (some a) n c → 0 < (kl.take 40).length → a.block < B) := hkB
  have HOPEN : Hid (∀ W2, Po B W2 q d s r (D.crash (kl.take 40)) → Calls Try.prog 64 #[.pointer (some ⟨q, 0, none⟩)] W2 (DoPost B q d s r (k + 1) W2)) := fun W2 p => (p.opens (k := k + 1) rfl (hb.dz.crash _) hb.e (by omega)).mono (fun e w' h => ⟨h.1, ⟨_, h.2.1⟩, h.2.2⟩)
  have HW5 : Hid (D.wait.length ≤ 1000 ∧ D.secs.length = 2 * 6) := ⟨by omega, hS12⟩
  obtain ⟨K, hK⟩ : ∃ K, kl.take 40 = K := ⟨_, rfl⟩
  obtain ⟨km, hkm⟩ : ∃ km, min kn 40 = km := ⟨_, rfl⟩
  simp only [hK, hkm] at *
  clear P1 P1d P hv hkv hin hn hkn bD bD' hw1 hcm hkc hlc hgl hK hkm hkK hkB hkb hwt hS12
  have hS : w1.drew.cell? ⟨q, 0, none⟩ = some (.pointer (some ⟨d, 0, none⟩)) ∧ w1.drew.cell? ⟨w.heap.size, 3, none⟩ = some (.slice ka kn kc) := ⟨d0, y3d⟩
  go_enter Try.func65, Try.ntmps65
  go_wp2_with (first
    | (go_at_call 40; (rw [HW1.out]; refine (k40 _).mono ?_; rintro e w9 ⟨rfl, h9⟩; replace h9 := h9.symm; subst h9)))
  go_region_held3 (fun W => W.cell? ⟨q, 0, none⟩ = some (.pointer (some ⟨d, 0, none⟩)) ∧ W.cell? ⟨w.heap.size, 3, none⟩ = some (.slice ka kn kc)) (first | exact hS | exact hS2) (first
    | (go_at_call 37; (refine (k37 _).mono ?_); rintro e w9 ⟨rfl, h9⟩; replace h9 := h9.symm; subst h9)
    | (go_at_call 18; (refine k18.mono ?_); rintro e w2 ⟨rfl, p2, g2, b2⟩; have hD2 := HD.out.block g2; have hD2d := hD2.below (Below.refl _ w2).drew; have HD2 : Hid (Blk w2.drew w.heap.size [.int .i64 4, .slice a n c, .int .i64 N, .slice ka kn kc] 69) := hD2d; have hS2 : w2.cell? ⟨q, 0, none⟩ = some (.pointer (some ⟨d, 0, none⟩)) ∧ w2.cell? ⟨w.heap.size, 3, none⟩ = some (.slice ka kn kc) := ⟨p2.cells.1, hD2.cell 3⟩; have p2d := p2.below (Below.refl _ w2).drew; have hS3 : w2.drew.cell? ⟨q, 2, none⟩ = some (.pointer (some ⟨r, 0, none⟩)) ∧ w2.drew.cell? ⟨w.heap.size, 3, none⟩ = some (.slice ka kn kc) := ⟨p2d.cells.2, hD2.cell 3⟩; have b2d := (Below.refl B w1).drew.trans (b2.trans (Below.refl B w2).drew); have k63 := p2d.crash2 (g := w.heap.size) hgr hD2d.lt HW5.out.2 HW5.out.1 (HK.out _ b2d) HKB.out; clear p2 hD2 hD2d p2d g2 b2))
  all_goals go_wp2
  go_region_held3 (fun W => W.cell? ⟨q, 2, none⟩ = some (.pointer (some ⟨r, 0, none⟩)) ∧ W.cell? ⟨w.heap.size, 3, none⟩ = some (.slice ka kn kc)) (first | exact hS3 | exact hS4) (first
    | (go_at_call 37; (refine (k37 _).mono ?_); rintro e w9 ⟨rfl, h9⟩; replace h9 := h9.symm; subst h9)
    | (go_at_call 63; (refine k63.mono ?_); rintro e w3 ⟨rfl, p3, b3, g3⟩; have hD3 := HD2.out.block g3; have hS4 : w3.cell? ⟨q, 2, none⟩ = some (.pointer (some ⟨r, 0, none⟩)) ∧ w3.cell? ⟨w.heap.size, 3, none⟩ = some (.slice ka kn kc) := ⟨by obtain ⟨c1, c3, hbb⟩ := p3.blk; exact hbb.cell 2, hD3.cell 3⟩; have k64 := HOPEN.out _ p3; clear hD3 g3 p3))
  all_goals go_wp2_with (go_at_call 64; (refine Calls.mono k64 ?_; rintro e w4 ⟨rfl, p4, b4⟩))
  all_goals go_ret
  all_goals exact ⟨rfl, p4, hB1.trans (b2d.trans (b3.trans b4))⟩
set_option maxHeartbeats 4000000 in
theorem do65_none (P : Pr B w q d s r D x y W) (hb : Bd k D W) (hv : InB B w vb l) (hkv : InK B w vk kl) (hk0 : ¬ kd = 0) (hk1 : ¬ kd = 1) (hk2 : ¬ kd = 2) (hk3 : ¬ kd = 3) (hk4 : ¬ kd = 4) :
    Calls Try.prog 65 #[.pointer (some ⟨q, 0, none⟩), .agg #[.int .i64 kd, vb, .int .i64 N, vk]] w (DoPost B q d s r (k + 1) w) := by
  obtain ⟨hsz, hBr, hBy⟩ := P.bounds
  obtain ⟨a, c, rfl, hlc, hcm, hin⟩ := id hv
  obtain ⟨ka, kc, rfl, hkc, _, _⟩ := id hkv
  generalize hn : l.length = n at *
  generalize hkn : kl.length = kn at *
  have bD := blk_new w [.int .i64 kd, .slice a n c, .int .i64 N, .slice ka kn kc] 69
  have k1 := al w (.cells #[.int .i64 kd, .slice a n c, .int .i64 N, .slice ka kn kc] 69)
  obtain ⟨w1, hw1⟩ : ∃ w1, w.alloc (.cells #[.int .i64 kd, .slice a n c, .int .i64 N, .slice ka kn kc] 69) = w1 := ⟨_, rfl⟩
  have bD' : Blk w1 w.heap.size [.int .i64 kd, .slice a n c, .int .i64 N, .slice ka kn kc] 69 := by rw [← hw1]; exact bD
  rw [hw1] at k1
  have k40 := short40 a n c hlc
  have k37 := bits37 ka kn kc hkc
  have P1 := P.below k1
  have hB1 : Below B w w1 := k1.mono hsz
  have hB1d : Below w.heap.size w w1.drew := bmore k1 (Below.refl _ _).drew
  have y0 : w1.cell? ⟨w.heap.size, 0, none⟩ = some (.int .i64 kd) := bD'.cell 0
  have y1 : w1.cell? ⟨w.heap.size, 1, none⟩ = some (.slice a n c) := bD'.cell 1
  have y2 : w1.cell? ⟨w.heap.size, 2, none⟩ = some (.int .i64 N) := bD'.cell 2
  have y3 : w1.cell? ⟨w.heap.size, 3, none⟩ = some (.slice ka kn kc) := bD'.cell 3
  have y2d : w1.drew.cell? ⟨w.heap.size, 2, none⟩ = some (.int .i64 N) := bD'.cell 2
  have y3d : w1.drew.cell? ⟨w.heap.size, 3, none⟩ = some (.slice ka kn kc) := bD'.cell 3
  have hgl : w.heap.size < w1.drew.heap.size := bD'.lt
  have HW1 : Hid (w.alloc (.cells #[.int .i64 kd, .slice a n c, .int .i64 N, .slice ka kn kc] 69) = w1) := hw1
  have P1d : Pr B w1.drew q d s r D x y W := P1.below (Below.refl _ _).drew
  obtain ⟨⟨q1, q3⟩, q0, q2⟩ := P1.cells
  obtain ⟨hS0, d0, d2⟩ := P1d.cells
  have n0 : (kd == 0) = false := by simpa using hk0
  have n1 : (kd == 1) = false := by simpa using hk1
  have n2 : (kd == 2) = false := by simpa using hk2
  have n3 : (kd == 3) = false := by simpa using hk3
  have n4 : (kd == 4) = false := by simpa using hk4
  have hbn := hb.next
  have HP1 : Hid (Pr B w1 q d s r D x y W) := P1
  clear P1 P1d P hv hkv hin hn hkn bD bD' hw1 hcm hkc hlc hgl k37
  go_enter Try.func65, Try.ntmps65
  go_wp2_with (first
    | (go_at_call 40; (rw [HW1.out]; refine (k40 _).mono ?_; rintro e w9 ⟨rfl, h9⟩; replace h9 := h9.symm; subst h9)))
  go_ret
  exact ⟨rfl, ⟨_, _, _, _, HP1.out, hbn⟩, hB1⟩
theorem do65 (P : Pr B w q d s r D x y W) (hb : Bd k D W) (hk : k ≤ 30) (hv : InB B w vb l) (hkv : InK B w vk kl) (hN : -9223372036854775808 ≤ N ∧ N ≤ 9223372036854775807) :
    Calls Try.prog 65 #[.pointer (some ⟨q, 0, none⟩), .agg #[.int .i64 kd, vb, .int .i64 N, vk]] w (DoPost B q d s r (k + 1) w) := by
  by_cases h0 : kd = 0
  · subst h0; exact do65_append P hb hk hv hkv
  by_cases h1 : kd = 1
  · subst h1; exact do65_flush P hb hk hv hkv
  by_cases h2 : kd = 2
  · subst h2; exact do65_switch P hb hk hv hkv
  by_cases h3 : kd = 3
  · subst h3; exact do65_cut P hb hv hkv hN
  by_cases h4 : kd = 4
  · subst h4; exact do65_crash P hb hk hv hkv
  exact do65_none P hb hv hkv h0 h1 h2 h3 h4
end Go.Proofs.Ytnganmekiloigaa
