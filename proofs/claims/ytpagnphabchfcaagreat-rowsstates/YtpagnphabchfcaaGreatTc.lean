/- The document's Put. -/
import Derived.Test.YtpagnphabchfcaaGreatTb
namespace Go.Proofs.YtpagnphabchfcaaGreat
open Go.RowKit Go.Shelf
set_option maxRecDepth 100000
def RPuPost (w : World) (r : Nat) (σ : List Tab) (e : Ending) (w' : World) : Prop := e = .returned (.int .i64 0) ∧ RSt w' r σ ∧ Keep (fun b => b = r) w w'
/-- Rows that a call made. -/
def NPost2 (w : World) (l : List Rw) (e : Ending) (w' : World) : Prop := ∃ a n c, e = .returned (.slice a n c) ∧ Hid (RRow w' (fun b => b < w.heap.size) (.slice a n c) l) ∧ Below w.heap.size w w'
theorem FPost.n {w w' : World} {l : List Rw} {e : Ending} (h : FPost w l e w') (hl : l.length ≤ 1000) (hv : ∀ r ∈ l, r.1.length ≤ 1000) : NPost2 w l e w' := by
  obtain ⟨v, x, rfl, h1, h2, h3, h4⟩ := h
  obtain ⟨p, c, hf⟩ := (OwnR.rl h1).form
  subst hf
  refine ⟨p, x.length, c, rfl, ⟨x, ⟨?_, h4⟩, h2, by have := congrArg List.length h2; simp [rws] at this; omega, rws_vals h2 hv⟩, h3⟩
  obtain ⟨a', c', hv', hh⟩ := (OwnR.rl h1).at'
  refine ⟨a', c', hv', fun h0 => ?_⟩
  obtain ⟨g, o, rfl, k1, k2, k3⟩ := hh h0
  refine ⟨g, o, rfl, k1, fun q => ?_, k3⟩
  cases hv'
  have := (h1.row.lt g rfl).1
  omega
theorem RRow.not {w : World} {X : Nat → Prop} {v : Value} {l : List Rw} {tb : Nat} {u : Value} {t : TypeId} (h : RRow w X v l) (hb : Blk w tb [u] t) : RRow w (fun b => b = tb ∨ X b) v l := by
  obtain ⟨es, h1, h2⟩ := h
  exact ⟨es, h1.not hb, h2⟩
theorem rst_store {w : World} {B r : Nat} {v u : Value} {ns : List NEl} (hb : Blk w r [u] 93) (h : ON w B v ns) : RSt (w.setCell ⟨r, 0, none⟩ v) r (tabs ns) := by
  have hn : NL w (fun b => b = r) v ns := by
    refine ⟨?_, fun e he => ((h.rows e he).not hb).mono (fun b _ q => .inl q), h.small⟩
    obtain ⟨a', c', hv', hh⟩ := (ON.nl h).at'
    refine ⟨a', c', hv', fun h0 => ?_⟩
    obtain ⟨g, o, rfl, k1, k2, k3⟩ := hh h0
    refine ⟨g, o, rfl, k1, fun q => ?_, k3⟩
    subst hv'
    obtain ⟨_, ⟨h1, _⟩ | ⟨g', cap, cur, h1, _, hg, _⟩⟩ := h.row
    · cases h1
    · cases h1
      have hb' : w.heap[r]? = some (.cells #[u] 93 (0, 0)) := hb
      rw [q] at hg
      rw [hg] at hb'
      simp at hb'
  exact ⟨v, ns, hb.set v, hn.keep (Keep.set (F := fun b => b = r) (Keep.refl _ _) (.inr rfl) _) (fun _ _ h => h), rfl⟩
set_option maxHeartbeats 2000000 in
theorem rput40 {w : World} {X : Nat → Prop} {r : Nat} {σ : List Tab} {n : ByteArray} {v : Value} {es : List El} (h : RSt w r σ) (hσ : σ.length ≤ 100) (hs : SortedS σ) (hn : n.size ≤ maxLen) (hn0 : (n.toList == []) = false) (hr : RL w X v es) (hl : es.length ≤ 1000) (hv : ∀ e ∈ es, e.2.1.length ≤ 1000) :
    Calls Tryz.prog 40 #[.pointer (some ⟨r, 0, none⟩), .string n, v] w (RPuPost w r (putS n (sortR (rws es)) σ)) := by
  obtain ⟨pv, cv, rfl⟩ := hr.form
  obtain ⟨v0, ns, hb, hN, hT⟩ := h.ex
  have H11 : Hid (∀ W, Below w.heap.size w W → Calls Tryz.prog 11 #[.slice pv es.length cv] W (NPost2 W (sortR (rws es)))) := fun W k => (rsortedF11 (hr.below k) hl hv).mono (fun _ _ q => FPost.n q (by rw [sortR_len]; simpa [rws] using hl) (sortR_vals (fun r hr => by obtain ⟨e, he, rfl⟩ := List.mem_map.1 hr; exact hv e he)))
  have HP : Hid (putG n (sortR (rws es)) σ false = putS n (sortR (rws es)) σ) := putG_eq hs
  obtain ⟨a0, c0, rfl⟩ := hN.form
  obtain ⟨M, hM⟩ : ∃ M, ns.length = M := ⟨_, rfl⟩
  have HM : Hid (ns.length = M) := hM
  have HTM : Hid (σ.length = M) := by show _ = _; rw [← hT, ← hM]; simp [tabs]
  have hM1 : M ≤ 100 := by have := HTM.out; omega
  have HN : Hid (NL w (fun b => b = r) (.slice a0 ns.length c0) ns) := hN
  have HT : Hid (tabs ns = σ) := hT
  have HRb : Hid (∀ W, Below w.heap.size w W → Blk W r [.slice a0 ns.length c0] 93) := fun W k => hb.below k
  have hrl := hb.lt
  rw [hM] at HN HRb
  generalize sortR (rws es) = L at *
  generalize es.length = Ln at *
  clear h hσ hs hr hl hv hb hN hT hM
  go_enter Tryz.func40, Tryz.ntmps40
  go_wp2_with fail
  go_loopw [7, 8, 9] (fun fo fb fi wr => ∃ (i : Nat) (b : Bool) (os : List NEl) (R : List Tab), fi = .int .i64 (i : Int) ∧ fb = .bool b ∧ Hid (i ≤ M ∧ R.length ≤ 2 * i) ∧ Hid (NI w wr fo os R) ∧ Hid (R ++ putG n L (σ.drop i) b = putS n L σ)) (fun _ _ fi _ => ((M : Int) - intOf fi).toNat)
  case atStart => exact ⟨0, false, [], [], rfl, rfl, ⟨Nat.zero_le _, by simp⟩, NI.nil _, by show _ = _; rw [← HP.out]; rfl⟩
  case round =>
    obtain ⟨i, b, os, R, rfl, rfl, hi, hI, hE⟩ := hrel
    have y0 := (HRb.out _ hI.out.b).cell 0
    simp only [List.getElem?_cons_zero] at y0
    by_cases hiM : i < M
    · have hii : (i : Int) < (M : Int) := by omega
      have hi0 : (0 : Int) ≤ (i : Int) := by omega
      obtain ⟨e, he⟩ : ∃ e, ns[i]? = some e := ⟨_, List.getElem?_eq_getElem (by rw [HM.out]; exact hiM)⟩
      obtain ⟨g, o, rfl, _, _, _⟩ := (NL.below HN.out hI.out.b).get he
      have HC : Hid (∀ W, Below w.heap.size w W → W.cell? ⟨r, 0, none⟩ = some (.slice (some ⟨g, o, none⟩) M c0) ∧ W.cell? ⟨g, o + i * 2, none⟩ = some (.string e.1) ∧ W.cell? ⟨g, o + i * 2 + 1, none⟩ = some e.2.1) := fun W kk => ⟨(HRb.out W kk).cell 0, NL.at2 (NL.below HN.out kk) he⟩
      have HRR : Hid (RRow w (fun b => b = r) e.2.1 e.2.2) := HN.out.rows e (List.mem_of_getElem? he)
      have hsm : e.1.size ≤ maxLen := HN.out.small e (List.mem_of_getElem? he)
      have HD : Hid (σ.drop i = (e.1, e.2.2) :: σ.drop (i + 1)) := by
        show _ = _
        rw [← HT.out]
        obtain ⟨h1, h2⟩ := List.getElem?_eq_some_iff.1 he
        rw [List.drop_eq_getElem_cons (by simpa [tabs] using h1)]
        congr 1
        simp [tabs, h2]
      have HE : Hid (R ++ ((if cmpS n e.1 ≤ 0 ∧ b = false then [(n, L)] else []) ++ (if cmpS n e.1 ≠ 0 then [(e.1, e.2.2)] else []) ++ putG n L (σ.drop (i + 1)) (b || decide (cmpS n e.1 ≤ 0))) = putS n L σ) := by
        have h1 := hE.out
        rw [HD.out] at h1
        exact h1
      have hRl : R.length ≤ 900 := by have := hi.out; omega
      obtain ⟨ne, sv, le⟩ := e
      simp only at HC HRR hsm HE
      obtain ⟨pe, ln, ce, rfl⟩ := HRR.out.form
      have HOld : Hid (∀ W fo2 os2 R2, NI w W fo2 os2 R2 → RRow W (fun b => fo2.ownBlock = some b) (.slice pe ln ce) le) := fun W fo2 os2 R2 h2 => (RRow.mono (Y := fun b => w.heap.size ≤ b) (RRow.keep (Y := fun b => b = r ∨ w.heap.size ≤ b) (HRR.out.mono (Y := fun b => b = r ∨ w.heap.size ≤ b) (fun b hb q => q.elim id (fun q => by omega))) (Keep.of h2.b) (fun _ _ q => q)) (fun b _ q => .inr q)).mono (fun b _ q => (h2.own.row.lt b q).1)
      have k74 := cmp63 n ne wr
      have t3 := ordS.three n ne
      generalize cmpS n ne = c at *
      obtain ⟨_, z1, z2⟩ := HC.out _ hI.out.b
      clear he HD hE
      cases b
      · rcases t3 with hc | hc | hc
        · subst hc
          have k11 := H11.out _ hI.out.b
          have HE' : Hid (R ++ [(n, L)] ++ [(ne, le)] ++ putG n L (σ.drop (i + 1)) true = putS n L σ) := by show _ = _; rw [← HE.out]; simp
          clear HE
          go_wp2_with (first
            | (go_at_call 74; (with_reducible refine k74.mono ?_); rintro e w1 ⟨rfl, rfl⟩)
            | (go_at_call 11; (with_reducible refine k11.mono ?_); rintro e w5 ⟨a5, n5, c5, rfl, hr5, B5⟩; have HAppN := NI.app (NI.below hI.out B5) (by omega) hn (RRow.mono hr5.out (fun b _ q => (hI.out.own.row.lt b q).2)) w5.heap.size rfl; clear B5 hr5)
            | (at_builtin; refine wpList_append_ex (by rfl) (.tmp 40) (.tmp 45) 91 (by rfl) _ _ (by rfl) (by rfl) HAppN ?_; rintro v7 w7 hI7; obtain ⟨os1, hI8⟩ := hI7.out; have HI8 : Hid _ := hI8; have q0 := (HC.out _ hI8.b).1; have q1 := (HC.out _ hI8.b).2.1; have q2 := (HC.out _ hI8.b).2.2; have HAppO := NI.app hI8 (by rw [List.length_append]; simp; omega) hsm (HOld.out _ _ _ _ hI8) w7.heap.size rfl; clear hI7 hI8)
            | (at_builtin; refine wpList_append_ex (by rfl) (.tmp 49) (.tmp 57) 91 (by rfl) _ _ (by rfl) (by rfl) HAppO ?_; rintro v9 w9 hI9))
          go_roundw
          case rel =>
            obtain ⟨os9, hI10⟩ := hI9.out
            exact ⟨i + 1, true, os9, _, by simp, rfl, ⟨by omega, by have := hi.out; simp; omega⟩, hI10, HE'.out⟩
          case measure => simp only [intOf]; omega
        · subst hc
          have k11 := H11.out _ hI.out.b
          have HE' : Hid (R ++ [(n, L)] ++ putG n L (σ.drop (i + 1)) true = putS n L σ) := by show _ = _; rw [← HE.out]; simp
          clear HE
          go_wp2_with (first
            | (go_at_call 74; (with_reducible refine k74.mono ?_); rintro e w1 ⟨rfl, rfl⟩)
            | (go_at_call 11; (with_reducible refine k11.mono ?_); rintro e w5 ⟨a5, n5, c5, rfl, hr5, B5⟩; have HAppN := NI.app (NI.below hI.out B5) (by omega) hn (RRow.mono hr5.out (fun b _ q => (hI.out.own.row.lt b q).2)) w5.heap.size rfl; clear B5 hr5)
            | (at_builtin; refine wpList_append_ex (by rfl) (.tmp 40) (.tmp 45) 91 (by rfl) _ _ (by rfl) (by rfl) HAppN ?_; rintro v7 w7 hI7; obtain ⟨os1, hI8⟩ := hI7.out; have HI8 : Hid _ := hI8; clear hI7 hI8))
          go_roundw
          case rel =>
            exact ⟨i + 1, true, os1, _, by simp, rfl, ⟨by omega, by have := hi.out; simp; omega⟩, HI8.out, HE'.out⟩
          case measure => simp only [intOf]; omega
        · subst hc
          have HE' : Hid (R ++ [(ne, le)] ++ putG n L (σ.drop (i + 1)) false = putS n L σ) := by show _ = _; rw [← HE.out]; simp
          clear HE
          have HAppO := NI.app hI.out (by omega) hsm (HOld.out _ _ _ _ hI.out) wr.heap.size rfl
          go_wp2_with (first
            | (go_at_call 74; (with_reducible refine k74.mono ?_); rintro e w1 ⟨rfl, rfl⟩)
            | (at_builtin; refine wpList_append_ex (by rfl) (.tmp 49) (.tmp 57) 91 (by rfl) _ _ (by rfl) (by rfl) HAppO ?_; rintro v9 w9 hI9))
          go_roundw
          case rel =>
            obtain ⟨os9, hI10⟩ := hI9.out
            exact ⟨i + 1, false, os9, _, by simp, rfl, ⟨by omega, by have := hi.out; simp; omega⟩, hI10, HE'.out⟩
          case measure => simp only [intOf]; omega
      · rcases t3 with hc | hc | hc
        · subst hc
          have HE' : Hid (R ++ [(ne, le)] ++ putG n L (σ.drop (i + 1)) true = putS n L σ) := by show _ = _; rw [← HE.out]; simp
          clear HE
          have HAppO := NI.app hI.out (by omega) hsm (HOld.out _ _ _ _ hI.out) wr.heap.size rfl
          go_wp2_with (first
            | (go_at_call 74; (with_reducible refine k74.mono ?_); rintro e w1 ⟨rfl, rfl⟩)
            | (at_builtin; refine wpList_append_ex (by rfl) (.tmp 49) (.tmp 57) 91 (by rfl) _ _ (by rfl) (by rfl) HAppO ?_; rintro v9 w9 hI9))
          go_roundw
          case rel =>
            obtain ⟨os9, hI10⟩ := hI9.out
            exact ⟨i + 1, true, os9, _, by simp, rfl, ⟨by omega, by have := hi.out; simp; omega⟩, hI10, HE'.out⟩
          case measure => simp only [intOf]; omega
        · subst hc
          have HE' : Hid (R ++ putG n L (σ.drop (i + 1)) true = putS n L σ) := by show _ = _; rw [← HE.out]; simp
          clear HE
          go_wp2_with (first
            | (go_at_call 74; (with_reducible refine k74.mono ?_); rintro e w1 ⟨rfl, rfl⟩))
          go_roundw
          case rel =>
            exact ⟨i + 1, true, os, R, by simp, rfl, ⟨by omega, by have := hi.out; omega⟩, hI.out, HE'.out⟩
          case measure => simp only [intOf]; omega
        · subst hc
          have HE' : Hid (R ++ [(ne, le)] ++ putG n L (σ.drop (i + 1)) true = putS n L σ) := by show _ = _; rw [← HE.out]; simp
          clear HE
          have HAppO := NI.app hI.out (by omega) hsm (HOld.out _ _ _ _ hI.out) wr.heap.size rfl
          go_wp2_with (first
            | (go_at_call 74; (with_reducible refine k74.mono ?_); rintro e w1 ⟨rfl, rfl⟩)
            | (at_builtin; refine wpList_append_ex (by rfl) (.tmp 49) (.tmp 57) 91 (by rfl) _ _ (by rfl) (by rfl) HAppO ?_; rintro v9 w9 hI9))
          go_roundw
          case rel =>
            obtain ⟨os9, hI10⟩ := hI9.out
            exact ⟨i + 1, true, os9, _, by simp, rfl, ⟨by omega, by have := hi.out; simp; omega⟩, hI10, HE'.out⟩
          case measure => simp only [intOf]; omega
    · have hki : ¬ (i : Int) < (M : Int) := by omega
      have HE' : Hid (R ++ (if b = true then [] else [(n, L)]) = putS n L σ) := by
        have h1 := hE.out
        rw [List.drop_of_length_le (by rw [HTM.out]; omega)] at h1
        exact h1
      have hRl : R.length ≤ 900 := by have := hi.out; omega
      have z0 := (HRb.out _ hI.out.b).frozen 0
      cases b
      · have k11 := H11.out _ hI.out.b
        go_wp2_with (first
          | (go_at_call 11; (with_reducible refine k11.mono ?_); rintro e w5 ⟨a5, n5, c5, rfl, hr5, B5⟩; have HAppN := NI.app (NI.below hI.out B5) (by omega) hn (RRow.mono hr5.out (fun b _ q => (hI.out.own.row.lt b q).2)) w5.heap.size rfl; clear B5 hr5)
          | (at_builtin; refine wpList_append_ex (by rfl) (.tmp 61) (.tmp 66) 91 (by rfl) _ _ (by rfl) (by rfl) HAppN ?_; rintro v7 w7 hI7; obtain ⟨os1, hI8⟩ := hI7.out; have HI8 : Hid _ := hI8; have q0 := (HRb.out _ hI8.b).cell 0; have q1 := (HRb.out _ hI8.b).frozen 0; simp only [List.getElem?_cons_zero] at q0; obtain ⟨p7, c7, hf7⟩ := (ON.nl hI8.own).form; subst hf7; clear hI7 hI8))
        go_ret
        refine ⟨rfl, ?_, Keep.set (F := fun b => b = r) (Keep.of HI8.out.b) (.inr rfl) _⟩
        have := rst_store (HRb.out _ HI8.out.b) HI8.out.own
        rw [HI8.out.tabs] at this
        have e1 := HE'.out
        simp at e1
        rw [← e1]
        exact this
      · obtain ⟨p7, c7, hf7⟩ := (ON.nl hI.out.own).form
        subst hf7
        go_wp2
        go_ret
        refine ⟨rfl, ?_, Keep.set (F := fun b => b = r) (Keep.of hI.out.b) (.inr rfl) _⟩
        have := rst_store (HRb.out _ hI.out.b) hI.out.own
        rw [hI.out.tabs] at this
        have e1 := HE'.out
        simp at e1
        rw [← e1]
        exact this
end Go.Proofs.YtpagnphabchfcaaGreat
