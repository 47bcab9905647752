/- The law WalSure. -/
import Derived.Test.YtnganmekiloigaaHt
import Derived.Deep.CutRange
namespace Go.Proofs.Ytnganmekiloigaa
open Go.RowKit
set_option maxRecDepth 100000
variable {w w' : World} {B d s x q E : Nat} {D : Dk} {W : Wl} {G : List Nat}
theorem Alone.adds {N : List Nat} (h : Alone B w d s D G) (k : Below w.heap.size w w') (hN : ∀ g ∈ N, w.heap.size ≤ g ∧ g < w'.heap.size) : Alone B w' d s D (N ++ G) := by
  obtain ⟨wv, p1, p2, p3, p4⟩ := h
  refine ⟨wv, p1.below k, fun g hg => ?_, p3, Nat.le_trans p4 k.size⟩
  rcases List.mem_append.1 hg with hg | hg
  · exact ⟨fun hf => by have := p1.foot_lt _ hf; have := (hN g hg).1; omega, (hN g hg).2⟩
  · exact ⟨(p2 g hg).1, Nat.lt_of_lt_of_le (p2 g hg).2 k.size⟩
/-- Open, and the blocks that its records lie in. -/
theorem open_own {R h E cnt en u e1 : Nat} {sure : List Bs} (hA : Alone B w d s D []) (i : Inv R D h E cnt en u e1 sure []) (hR : 2 ≤ R) (hR2 : R ≤ 64) :
    Calls Try.prog 35 #[.pointer (some ⟨d, 0, none⟩)] w fun e w' => ∃ x ua uc H, e = .returned (.tuple #[.pointer (some ⟨x, 0, none⟩), .slice ua sure.length uc, .int .i64 0]) ∧ Blk w' x (wlC d ⟨h, great (pcs D.secs) + 1, sure.length, u, false⟩) 111 ∧ RLG H w' (.slice ua sure.length uc) sure ∧ (∀ g ∈ H, w.heap.size ≤ g ∧ g < w'.heap.size ∧ g ≠ x) ∧ Below w.heap.size w w' ∧ w.heap.size ≤ x := by
  have hw : D.wait = [] := by rw [i.wait]; rfl
  have hgr : great (pcs D.secs) ≤ E := great_bound _ 0 E (Nat.zero_le _) i.all
  obtain ⟨o1, o2, o3, o4⟩ := i.opens
  refine (open35 hA i.off (by rw [hw]; simp) i.len hR hR2 (by rw [rdS_nil hw]; have := i.ep.2; omega)).mono ?_
  rintro e w1 ⟨x, v, vs, rfl, hb, hu, hvs, hB, hx⟩
  rw [rdS_nil hw] at hb hvs
  rw [o1, o3, o4] at hb
  have hl := hvs.len
  rw [o4] at hl
  obtain ⟨ua, uc, rfl, _⟩ := hu.form
  rw [hl] at hu ⊢
  have hat : ∀ (i : Nat) (y : Sl), vs[i]? = some y → ∃ b, sure[i]? = some b ∧ RW EB w.heap.size w1 (slV y) b := fun i y hy => by
    have hi := (List.getElem?_eq_some_iff.1 hy).1
    have hi2 : i < (toldP D.secs).length := by omega
    refine ⟨(toldP D.secs)[i].b, ?_, hvs.at' i y _ hy (List.getElem?_eq_getElem hi2)⟩
    rw [← o2, List.getElem?_map, List.getElem?_eq_getElem hi2]; rfl
  refine ⟨x, ua, uc, ((Value.slice ua sure.length uc).ownBlock).toList ++ vs.filterMap (fun y => (slV y).ownBlock), rfl, hb, ⟨vs, ⟨hu.read, fun a n c e _ => by cases e; simp [Value.ownBlock]⟩, hl, fun i y b hy hb' => ?_⟩, fun g hg => ?_, hB, hx⟩
  · obtain ⟨b', h1, h2⟩ := hat i y hy
    rw [hb'] at h1
    cases h1
    refine ⟨h2.read, fun a n c e _ => List.mem_append.2 (.inr (List.mem_filterMap.2 ⟨y, List.mem_of_getElem? hy, ?_⟩))⟩
    rw [e]; rfl
  · rcases List.mem_append.1 hg with hg | hg
    · have hg' := Option.mem_toList.1 hg
      have h3 := hu.at hg'
      exact ⟨h3.1, h3.2, fun e => RW.ne hb (by decide) hu (by rw [← e]; exact hg')⟩
    · obtain ⟨y, hy, hyg⟩ := List.mem_filterMap.1 hg
      obtain ⟨i, hi⟩ := List.getElem?_of_mem hy
      obtain ⟨b', h1, h2⟩ := hat i y hi
      have h3 := h2.at hyg
      exact ⟨h3.1, h3.2, fun e => RW.ne hb (by decide) h2 (by rw [← e]; exact hyg)⟩
/-- Behind a crash: the disk, and the story as it was. -/
structure Kc (B : Nat) (w : World) (d s q E : Nat) : Prop where
  ex : ∃ D H h cnt en u e1 S M sv mv j, Alone B w d s D (q :: H) ∧ q ∉ H ∧ B ≤ q ∧ Inv 6 D h (great (pcs D.secs) + 1) cnt en u e1 (S ++ M.take j) [] ∧ j ≤ M.length ∧ S.length + M.length ≤ 6 ∧ great (pcs D.secs) + 1 ≤ E + 1 ∧ Blk w q [sv, mv] 67 ∧ RLG H w sv S ∧ RLG H w mv M
theorem Sy.crash {l : List Bool} {v : Value} (h : Sy B w d s x q E) (hE : E ≤ 60000) (hv : KB w v l) (hvB : ∀ a n c, v = .slice (some a) n c → 0 < l.length → a.block < B) :
    Calls Try.prog 18 #[.pointer (some ⟨d, 0, none⟩), v] w fun e w' => e = .returned (.tuple #[]) ∧ Kc B w' d s q E ∧ Below B w w' := by
  obtain ⟨D, W, H, u, e1, S, M, sv, mv, A, hq, hB, I, hbr, he, hb, hS, hM⟩ := h.ex
  have hwl : D.wait.length ≤ 100000 := by rw [I.wait, waitOf_length]; have := I.en'; have := I.room; omega
  have hfew := I.few
  refine (lg_crash A.alone hv hvB hwl).mono ?_
  rintro e w1 ⟨rfl, A1, K1, B1⟩
  obtain ⟨j, u', e', hj, hc, hE', hf, hg, I2, hw⟩ := I.crash (by omega) (by omega) l
  have KH : Kept H w w1 := fun g hg => K1 g (by simp [hg])
  exact ⟨rfl, ⟨_, H, _, _, _, _, _, S, M, sv, mv, j, A1, hq, hB, I2, hj, hfew, by omega, hb.block (K1 q (by simp)), hS.kept KH, hM.kept KH⟩, B1⟩
/-- Behind the Open: what it answered, and what begins says of it; and the story turned. -/
def OcPost (B d s q E : Nat) (w0 : World) (e : Ending) (w' : World) : Prop := ∃ x2 ua n uc, e = .returned (.tuple #[.pointer (some ⟨x2, 0, none⟩), .slice ua n uc, .int .i64 0]) ∧ Below w0.heap.size w0 w' ∧
  (Calls Try.prog 38 #[.pointer (some ⟨q, 0, none⟩), .slice ua n uc] w' fun e w2 => e = .returned (.bool true) ∧ Below w'.heap.size w' w2) ∧
  ∀ w2, Below w'.heap.size w' w2 → (∃ l, Blk w2 q l 67 ∧ l.length = 2) ∧ Sy B ((w2.setCell ⟨q, 0, none⟩ (.slice ua n uc)).setCell ⟨q, 1, none⟩ (.slice none 0 0)) d s x2 q (E + 1) ∧ Below B w2 ((w2.setCell ⟨q, 0, none⟩ (.slice ua n uc)).setCell ⟨q, 1, none⟩ (.slice none 0 0))
theorem Kc.opens (h : Kc B w d s q E) : Calls Try.prog 35 #[.pointer (some ⟨d, 0, none⟩)] w (OcPost B d s q E w) := by
  obtain ⟨D, H, h, cnt, en, u, e1, S, M, sv, mv, j, A, hq, hqB, I, hj, hfew, hg, hb, hS, hM⟩ := h.ex
  have hsz : B ≤ w.heap.size := by obtain ⟨_, _, _, _, h⟩ := A; exact h
  have hcn : cnt = (S ++ M.take j).length := by rw [I.cnt']; simp
  have hen : en = u := by rw [I.en']; simp [layAll]
  have hql : q < w.heap.size := hb.lt
  refine (open_own (A.less (by simp)) I (by omega) (by omega)).mono ?_
  rintro e w1 ⟨x2, ua, uc, N, rfl, hb1, hr, hN, B1, hx⟩
  refine ⟨x2, ua, _, uc, rfl, B1, begins38 (hb.below B1) (hS.below B1).rl (hM.below B1).rl hj hfew hr.rl, fun w2 k2 => ?_⟩
  have B2 := bmore B1 k2
  have hb2 := hb.below B2
  have hqN : q ∉ N := fun hm => by have := (hN q hm).1; omega
  have hx2 := hb1.lt
  have A2 : LG B w2 d s D x2 ⟨h, great (pcs D.secs) + 1, cnt, en, false⟩ (q :: N) := by
    have A3 := A.adds (N := x2 :: N) B2 (fun g hg => by
      rcases List.mem_cons.1 hg with rfl | hg
      · exact ⟨hx, Nat.lt_of_lt_of_le hx2 k2.size⟩
      · exact ⟨(hN g hg).1, Nat.lt_of_lt_of_le (hN g hg).2.1 k2.size⟩)
    refine ⟨A3.less (fun g hg => ?_), by rw [hcn, hen]; exact hb1.below k2, fun hm => ?_, by omega⟩
    · simp only [List.mem_cons, List.mem_append] at hg ⊢
      rcases hg with h | h | h
      · exact .inl (.inl h)
      · exact .inr (.inl h)
      · exact .inl (.inr h)
    · rcases List.mem_cons.1 hm with e | hm
      · omega
      · exact (hN x2 hm).2.2 rfl
  have kk : Keep (fun b => b = q) w2 ((w2.setCell ⟨q, 0, none⟩ (.slice ua (S ++ M.take j).length uc)).setCell ⟨q, 1, none⟩ (.slice none 0 0)) := ((Keep.refl (fun b => b = q) _).set (.inr rfl) _).set (.inr rfl) _
  refine ⟨⟨_, hb2, rfl⟩, Sy.put A2 hqN hqB I rfl hg ((hb2.set (o := 0) (.slice ua (S ++ M.take j).length uc)).set (o := 1) (.slice none 0 0)) (hr.below k2) (RLG.nil _ _) kk, kk.below (Nat.le_trans hsz B2.size) (fun i e => by omega)⟩
end Go.Proofs.Ytnganmekiloigaa
