/- The law TopWords. -/
import Derived.Test.YthebpkcnhghofaaDoorLz
import Derived.Test.YthebpkcnhghofaaDoorLc
import Derived.BigQuiet
namespace Go.Proofs.YthebpkcnhghofaaDoor
open Go.RowKit Go.Lib Go.Joins
set_option maxRecDepth 100000

def strsC (ws : List Bs) : List Value := ws.map fun x => .string (str x)
theorem strsC_app (a b : List Bs) : strsC (a ++ b) = strsC a ++ strsC b := by simp [strsC]
/-- Texts in a row of the call's own. -/
def SRow (B : Nat) (v : Value) (ws : List Bs) (w : World) : Prop := w.ownsRow B 9 1 v ws.length (strsC ws)
theorem info9z : (Tryd.prog.info? 9).map (fun i => (i.zero, i.size, i.bytes)) = some (some (.string ⟨#[]⟩), 1, 16) := by kernel_rfl
abbrev PL : Array Value := #[.string ⟨#[97]⟩, .string ⟨#[98, 49]⟩, .string ⟨#[99, 95, 100]⟩, .string ⟨#[55]⟩, .string ⟨#[45, 53]⟩, .string ⟨#[49, 50, 48]⟩]
abbrev GL : Array Value := #[.string ⟨#[60, 61]⟩, .string ⟨#[60, 62]⟩, .string ⟨#[40]⟩, .string ⟨#[44]⟩, .string ⟨#[61]⟩, .string ⟨#[42]⟩]
theorem part_cell (w : World) (o : Obj) (q : Nat) (hq : q < 6) : ((w.alloc (.cells PL 9)).alloc o).cell? ⟨w.heap.size, q, none⟩ = some (.string (str (partL.getD q []))) := by
  rw [World.cell?_alloc_old _ _ _ (by simp), World.cell?_alloc_at _ _ _ _ rfl]
  have : q = 0 ∨ q = 1 ∨ q = 2 ∨ q = 3 ∨ q = 4 ∨ q = 5 := by omega
  rcases this with rfl | rfl | rfl | rfl | rfl | rfl <;> rfl
theorem sign_cell (w : World) (q : Nat) (hq : q < 6) : (w.alloc (.cells GL 9)).cell? ⟨w.heap.size, q, none⟩ = some (.string (str (signL.getD q []))) := by
  rw [World.cell?_alloc_at _ _ _ _ rfl]
  have : q = 0 ∨ q = 1 ∨ q = 2 ∨ q = 3 ∨ q = 4 ∨ q = 5 := by omega
  rcases this with rfl | rfl | rfl | rfl | rfl | rfl <;> rfl
theorem str_app (a b : Bs) : str a ++ str b = str (a ++ b) := by
  apply ByteArray.ext
  simp [str]

theorem wantL_len (us : List UInt8) : (wantL us).length = 2 * us.length := by
  induction us with
  | nil => rfl
  | cons u r ih => simp [wantL] at ih ⊢; omega
theorem news2s (w : World) (a b : Value) (t : TypeId) : ∀ j u, [a, b][j]? = some u → (w.alloc (.cells #[a, b] t)).cell? ((⟨w.heap.size, 0, none⟩ : Addr).add j) = some u := by
  intro j u hj
  rw [show (⟨w.heap.size, 0, none⟩ : Addr).add j = ⟨w.heap.size, j, none⟩ by unfold Addr.add; split <;> simp_all]
  rw [World.cell?_alloc_at _ _ _ _ rfl]
  simpa using hj
set_option maxHeartbeats 8000000 in
theorem words7 (v : Value) (us : Bs) (w : World) (hv : SB w v us) (hul : (us.length : Int) ≤ 9223372036854775807) (hg : Good w) :
    Calls Tryd.prog 7 #[v] w fun e w' => e = .returned (.bool true) ∧ Below w.heap.size w w' := by
  obtain ⟨a, c, rfl⟩ : ∃ a c, v = .slice a us.length c := by
    rcases hv with ⟨a, c, h, h'⟩ | ⟨b, o, c, h, _⟩
    · subst h'; exact ⟨a, c, h⟩
    · exact ⟨_, c, h⟩
  obtain ⟨N, hN⟩ : ∃ N, us.length = N := ⟨_, rfl⟩
  have HNN : Hid (us.length = N) := hN
  have HU : Hid (∀ i, i < N → ∃ b o u, a = some ⟨b, o, none⟩ ∧ b < w.heap.size ∧ us[i]? = some u ∧ w.cell? ⟨b, o + i, none⟩ = some (.int .u8 (u.toNat : Int))) := fun i hi => by
    rcases hv with ⟨a', c', h, h'⟩ | ⟨b, o, c', h, _, _, _, hat⟩
    · rw [h'] at hN; simp at hN; omega
    · cases h
      have hc := hat i (by omega)
      exact ⟨b, o, us.getD i 0, rfl, World.block_lt_of_cell? _ _ hc, by rw [List.getD_eq_getElem?_getD, List.getElem?_eq_getElem (by omega)]; rfl, hc⟩
  rw [hN] at hul ⊢
  clear hv hN
  obtain ⟨i0, hi0, hz3, hz4, hz5⟩ := info_parts info9z
  obtain ⟨w2, hw2⟩ : ∃ w2, (w.alloc (.cells PL 9)).alloc (.cells GL 9) = w2 := ⟨_, rfl⟩
  have HPC : Hid (∀ q, q < 6 → w2.cell? ⟨w.heap.size, q, none⟩ = some (.string (str (partL.getD q [])))) := fun q hq => by rw [← hw2]; exact part_cell w _ q hq
  have HGC : Hid (∀ q, q < 6 → w2.cell? ⟨w.heap.size + 1, q, none⟩ = some (.string (str (signL.getD q [])))) := fun q hq => by
    have := sign_cell (w.alloc (.cells PL 9)) q hq
    rw [← hw2]
    simpa using this
  have hb2 : Below w.heap.size w w2 := by rw [← hw2]; exact bmore (al _ _) (al _ _)
  have hz2 : w2.heap.size = w.heap.size + 2 := by rw [← hw2]; simp
  have HW2 : Hid ((w.alloc (.cells PL 9)).alloc (.cells GL 9) = w2) := hw2
  clear hw2
  have HB0 : Hid (Below w2.heap.size w2 ((w.alloc (.cells PL 9)).alloc (.cells GL 9))) := by rw [HW2.out]; exact Below.refl _ _
  go_enter Tryd.func7, Tryd.ntmps7
  go_wp2
  go_loopw [5, 6, 7] (fun p5 p6 p7 wr => ∃ m : Nat, m ≤ N ∧ m ≤ 20 ∧ p7 = .int .i64 (m : Int) ∧ (∃ t, p5 = .string t ∧ Hid (t = str (textL (us.take m)))) ∧ (∃ a n c, p6 = .slice a n c) ∧ Hid (SRow w2.heap.size p6 (wantL (us.take m)) wr) ∧ Below w2.heap.size w2 wr) (fun _ _ p7 _ => N - (RowKit.intOf p7).toNat)
  case atStart => exact ⟨0, by omega, by omega, rfl, ⟨_, rfl, rfl⟩, ⟨_, _, _, rfl⟩, World.ownsRow_nil _ _ _ _, HB0.out⟩
  case round =>
    obtain ⟨m, hm, hm20, rfl, ⟨t, rfl, HT⟩, ⟨va, vn, vc, hv6⟩, HS, hB⟩ := hrel
    subst hv6
    have hvn : vn = (wantL (us.take m)).length := by
      obtain ⟨h1, ⟨h2, h3⟩ | ⟨g, cap, cur, h2, _⟩⟩ := HS.out
      · cases h2; exact h3.symm
      · cases h2; rfl
    have HV : Hid ((wantL (us.take m)).length = vn) := hvn.symm
    have hv40 : vn ≤ 40 := by
      rw [hvn, wantL_len, List.length_take]; omega
    clear hvn
    by_cases hlt : m < N
    · have hlt1 : (m : Int) < (N : Int) := by omega
      by_cases h20 : m < 20
      · have h201 : (m : Int) < 20 := by omega
        obtain ⟨b, o, u, rfl, hbl, hu, hcu⟩ := HU.out m hlt
        have hm0 : (0 : Int) ≤ (m : Int) := by omega
        have cu := (hB.cell (p := ⟨b, o + m, none⟩) (show b < w2.heap.size by omega)).trans ((hb2.cell (p := ⟨b, o + m, none⟩) hbl).trans hcu)
        have q1 : u.toNat % 6 < 6 := Nat.mod_lt _ (by decide)
        have q2 : u.toNat / 6 % 6 < 6 := Nat.mod_lt _ (by decide)
        have cP := (hB.cell (p := ⟨w.heap.size, u.toNat % 6, none⟩) (show w.heap.size < w2.heap.size by omega)).trans (HPC.out _ q1)
        have cS := (hB.cell (p := ⟨w.heap.size + 1, u.toNat / 6 % 6, none⟩) (show w.heap.size + 1 < w2.heap.size by omega)).trans (HGC.out _ q2)
        have hu256 := u.toNat_lt
        obtain ⟨U, hU⟩ : ∃ U, u.toNat = U := ⟨_, rfl⟩
        rw [hU] at cu cP cS q1 q2 hu256
        have q1i : ((U % 6 : Nat) : Int) < 6 := by omega
        have q2i : ((U / 6 % 6 : Nat) : Int) < 6 := by omega
        obtain ⟨ps, hps⟩ : ∃ ps, str (partL.getD (U % 6) []) = ps := ⟨_, rfl⟩
        obtain ⟨ss, hss⟩ : ∃ ss, str (signL.getD (U / 6 % 6) []) = ss := ⟨_, rfl⟩
        rw [hps] at cP
        rw [hss] at cS
        have HTK : Hid (us.take (m + 1) = us.take m ++ [u]) := by
          have hm' := List.getElem?_eq_some_iff.1 hu
          show _ = _
          rw [List.take_succ_eq_append_getElem hm'.1, hm'.2]
        have HPS : Hid (str (partU u) = ps) := by show _ = _; unfold partU; rw [hU]; exact hps
        have HSS : Hid (str (signU u) = ss) := by show _ = _; unfold signU; rw [hU]; exact hss
        have HWN : Hid (strsC (wantL (us.take (m + 1))) = strsC (wantL (us.take m)) ++ [.string ps, .string ss]) := by
          show _ = _
          rw [HTK.out, show wantL (us.take m ++ [u]) = wantL (us.take m) ++ [partU u, signU u] by simp [wantL], strsC_app, ← HPS.out, ← HSS.out]
          rfl
        have HWL : Hid ((wantL (us.take (m + 1))).length = vn + 2) := by
          show _ = _
          rw [HTK.out, show wantL (us.take m ++ [u]) = wantL (us.take m) ++ [partU u, signU u] by simp [wantL], List.length_append, HV.out]
          rfl
        have HTN : Hid (t ++ (ps ++ ss) = str (textL (us.take (m + 1)))) := by
          show _ = _
          rw [HT.out, ← HPS.out, ← HSS.out, str_app, str_app, HTK.out, show textL (us.take m ++ [u]) = textL (us.take m) ++ (partU u ++ signU u) by simp [textL]]
        have l1 : ps.size ≤ 3 := by rw [← HPS.out, str_size]; exact short_words _ (List.mem_append_left _ (partU_mem u))
        have l2 : ss.size ≤ 3 := by rw [← HSS.out, str_size]; exact short_words _ (List.mem_append_right _ (signU_mem u))
        have l3 : t.size ≤ 120 := by
          rw [HT.out, str_size]
          have h1 := text_len (us.take m)
          have h2 : (us.take m).length ≤ m := by rw [List.length_take]; omega
          omega
        have l4 : ¬ 9223372036854775807 < ps.size + ss.size := by omega
        have l5 : ¬ 9223372036854775807 < t.size + (ps.size + ss.size) := by omega
        have hm1 : vn + 2 ≤ maxLen := by unfold maxLen; omega
        have hm2 : (vn + 2) * 16 ≤ 140737488355328 := by omega
        clear hps hss hU hu hcu
        go_wp2_with fail
        go_big_quiet (fail)
        have HB4 : Below w2.heap.size w2 (wr.drewN nq) := hB.trans ⟨rfl, rfl, rfl, Nat.le_refl _, fun _ _ => rfl⟩
        have HS4 : SRow w2.heap.size (.slice va vn vc) (wantL (us.take m)) (wr.drewN nq) := own_below HS.out ⟨rfl, rfl, rfl, Nat.le_refl _, fun _ _ => rfl⟩
        generalize wr.drewN nq = w4 at *
        have hown5 : (w4.alloc (.cells #[.string ps, .string ss] 9)).ownsRow w2.heap.size 9 1 (.slice va vn vc) vn (strsC (wantL (us.take m))) := by
          have := own_below HS4 (al w4 (.cells #[.string ps, .string ss] 9))
          rw [HV.out] at this
          exact this
        have hnews := news2s w4 (.string ps) (.string ss) 9
        have F5 : Below w2.heap.size w2 (w4.alloc (.cells #[.string ps, .string ss] 9)) := HB4.alloc HB4.size _
        have hbase : w2.heap.size ≤ (w4.alloc (.cells #[.string ps, .string ss] 9)).heap.size := F5.size
        clear HS4 cu cP cS
        go_wp2_with (skip; (refine wpList_append_own (w4.alloc (.cells #[.string ps, .string ss] 9)) (by rfl) (.tmp 46) (.tmp 49) 36 (by rfl) w2.heap.size 9 i0 (.string ⟨#[]⟩) 1 16 Tryd.underlying36 hi0 hz3 hz4 hz5 (by rfl) (by decide) _ vn (strsC (wantL (us.take m))) (by rfl) hown5 ⟨w4.heap.size, 0, none⟩ 2 2 [.string ps, .string ss] (by rfl) (by rfl) hnews (by simp [Value.oneCell']) hm1 hm2 hbase ?_; intro v6 w6 hown6 hgr6 _; have F6 : Below w2.heap.size w2 w6 := F5.grown hgr6 hbase (fun k e => (World.ownsRow.lt hown5 k e).1); clear hown5 hnews hgr6))
        have HT6 : Hid (SRow w2.heap.size v6 (wantL (us.take (m + 1))) w6) := by
          show w6.ownsRow _ _ _ _ _ _
          rw [HWN.out, HWL.out]
          exact hown6
        have hv6 : ∃ a n c, v6 = .slice a n c := by
          rcases hown6.2 with ⟨_, h⟩ | ⟨g, cap, cur, h, _⟩
          · omega
          · exact ⟨_, _, _, h⟩
        exact ⟨⟨m + 1, by omega, by omega, by simp, ⟨_, rfl, HTN.out⟩, hv6, HT6, F6⟩, by simp [RowKit.intOf]; omega⟩
      · have h201 : ¬ (m : Int) < 20 := by omega
        have HVS : Hid ((us.take m).length ≤ 20) := by show _ ≤ _; rw [List.length_take]; omega
        have hgr : Good wr := hg.below (hb2.trans (hB.mono hb2.size))
        have FW : Below w.heap.size w wr := hb2.trans (hB.mono hb2.size)
        have hts : t.size ≤ 120 := by
          rw [HT.out, str_size]
          have h1 := text_len (us.take m)
          have h2 := HVS.out
          omega
        have c8 : Calls Tryd.prog 8 #[.string t] wr fun e w' => ∃ a c, e = .returned (.tuple #[.slice a vn c, .int .i64 0, .int .i64 0]) ∧ (∀ (i : Nat) (x : Tk), (toksW 0 (wantL (us.take m)))[i]? = some x → ∃ g, a = some ⟨g, 0, none⟩ ∧ g < w'.heap.size ∧ TkAt w' g i x) ∧ Below wr.heap.size wr w' := by
          refine (tokens8 t wr (by omega) hgr).mono ?_
          rintro e w' ⟨v, h1, h2, h3⟩
          rw [HT.out, bs_str, toks_words _ HVS.out] at h1 h2
          obtain ⟨a', c', rfl, h4⟩ := trow_at h2
          refine ⟨a', c', ?_, h4, h3⟩
          rw [h1, toksW_length, HV.out]
          rfl
        have HWC : Hid (∀ i, i < vn → ∃ g x, va = some ⟨g, 0, none⟩ ∧ g < wr.heap.size ∧ (wantL (us.take m))[i]? = some x ∧ wr.cell? ⟨g, i, none⟩ = some (.string (str x))) := fun i hi => by
          have hS := HS.out
          have hlen : i < (wantL (us.take m)).length := by rw [HV.out]; exact hi
          rcases hS.2 with ⟨_, h2⟩ | ⟨g, cap, cur, h2, _⟩
          · rw [HV.out] at h2; omega
          · cases h2
            refine ⟨g, (wantL (us.take m))[i], rfl, (World.ownsRow.lt hS g rfl).2, List.getElem?_eq_getElem hlen, ?_⟩
            rw [World.ownsRow.cellAt hS i (by omega)]
            simp [strsC, hlen]
        have HSG : Hid (∀ w1, Below w.heap.size w w1 → Calls Tryd.prog 13 #[.string ⟨#[60, 61]⟩] w1 fun e w' => e = .returned (.string ⟨#[60, 61]⟩) ∧ w' = w1) := fun w1 h => signed13 ⟨#[60, 61]⟩ w1 (hg.below h)
        clear hgr HPC HGC HU HW2 HB0 hi0 hz3 hz4 hz5
        go_wp2_with (go_at_call 8; refine c8.mono ?_; rintro e w3 ⟨a3, c3, rfl, htk, hb3⟩; have HTK3 : Hid (∀ (i : Nat) (x : Tk), (toksW 0 (wantL (us.take m)))[i]? = some x → ∃ g, a3 = some ⟨g, 0, none⟩ ∧ g < w3.heap.size ∧ TkAt w3 g i x) := htk; clear htk)
        go_loopw [13, 14] (fun p13 p14 w' => ∃ i : Nat, i ≤ vn ∧ p14 = .int .i64 (i : Int) ∧ (∃ n : Nat, n ≤ 100000 ∧ p13 = .int .i64 (n : Int) ∧ Hid (n = ((wantL (us.take m)).take i).flatten.length)) ∧ Below w3.heap.size w3 w') (fun _ p14 _ => vn - (RowKit.intOf p14).toNat)
        case atStart => exact ⟨0, by omega, rfl, ⟨0, by omega, rfl, by show _ = _; simp⟩, Below.refl _ _⟩
        case round =>
          obtain ⟨i, hi, rfl, ⟨n, hn, rfl, HNL⟩, hB3⟩ := hrel
          by_cases hil : i < vn
          · have hil1 : (i : Int) < (vn : Int) := by omega
            have hi0' : (0 : Int) ≤ (i : Int) := by omega
            obtain ⟨gw, x, rfl, hgw, hx, hcx⟩ := HWC.out i hil
            obtain ⟨g3, rfl, hg3, htk⟩ := HTK3.out i _ (toksW_at _ 0 i x hx)
            obtain ⟨d0, d1, d2, d3⟩ := htk.below hB3 hg3
            have cw := (hB3.cell (p := ⟨gw, i, none⟩) (show gw < w3.heap.size from Nat.lt_of_lt_of_le hgw hb3.size)).trans ((hb3.cell (p := ⟨gw, i, none⟩) hgw).trans hcx)
            simp only [tkW] at d0 d1 d2 d3
            rw [Nat.zero_add, ← HNL.out] at d3
            have HNX : Hid (n + (str x).size = ((wantL (us.take m)).take (i + 1)).flatten.length) := by
              have hm' := List.getElem?_eq_some_iff.1 hx
              show _ = _
              rw [List.take_succ_eq_append_getElem hm'.1, hm'.2, List.flatten_append, List.length_append, ← HNL.out, str_size]
              simp
            have hxs : (str x).size ≤ 3 := by
              rw [str_size]
              refine short_words x ?_
              have hmem := List.mem_of_getElem? hx
              simp only [wantL, List.mem_flatMap, List.mem_cons, List.not_mem_nil, or_false] at hmem
              obtain ⟨u, _, h | h⟩ := hmem
              · rw [h]; exact List.mem_append_left _ (partU_mem u)
              · rw [h]; exact List.mem_append_right _ (signU_mem u)
            have hn2 : n + (str x).size ≤ 6 * 20 := by
              rw [HNX.out]
              have h1 := text_len (us.take m)
              rw [text_want] at h1
              have h2 := HVS.out
              have h3 : ((wantL (us.take m)).take (i + 1)).flatten.length ≤ (wantL (us.take m)).flatten.length := by
                conv => rhs; rw [← List.take_append_drop (i + 1) (wantL (us.take m)), List.flatten_append, List.length_append]
                omega
              omega
            clear htk hx hcx hxs
            generalize str x = xs at *
            go_wp2_with fail
            go_big_quiet (fail)
            go_wp2_with fail
            exact ⟨⟨i + 1, by omega, by simp, ⟨n + xs.size, by omega, by simp, HNX.out⟩, hB3.trans ⟨rfl, rfl, rfl, Nat.le_refl _, fun _ _ => rfl⟩⟩, by simp [RowKit.intOf]; omega⟩
          · have hil1 : ¬ (i : Int) < (vn : Int) := by omega
            have c13 := HSG.out _ ((FW.trans (hb3.mono FW.size)).trans (hB3.mono (Nat.le_trans FW.size hb3.size)))
            go_wp2_with (go_at_call 13; refine c13.mono ?_; rintro e w9 ⟨rfl, rfl⟩)
            go_ret
            exact ⟨rfl, (FW.trans (hb3.mono FW.size)).trans (hB3.mono (Nat.le_trans FW.size hb3.size))⟩
    · have hlt1 : ¬ (m : Int) < (N : Int) := by omega
      have HVS : Hid ((us.take m).length ≤ 20) := by show _ ≤ _; rw [List.length_take]; omega
      have hgr : Good wr := hg.below (hb2.trans (hB.mono hb2.size))
      have FW : Below w.heap.size w wr := hb2.trans (hB.mono hb2.size)
      have hts : t.size ≤ 120 := by
        rw [HT.out, str_size]
        have h1 := text_len (us.take m)
        have h2 := HVS.out
        omega
      have c8 : Calls Tryd.prog 8 #[.string t] wr fun e w' => ∃ a c, e = .returned (.tuple #[.slice a vn c, .int .i64 0, .int .i64 0]) ∧ (∀ (i : Nat) (x : Tk), (toksW 0 (wantL (us.take m)))[i]? = some x → ∃ g, a = some ⟨g, 0, none⟩ ∧ g < w'.heap.size ∧ TkAt w' g i x) ∧ Below wr.heap.size wr w' := by
        refine (tokens8 t wr (by omega) hgr).mono ?_
        rintro e w' ⟨v, h1, h2, h3⟩
        rw [HT.out, bs_str, toks_words _ HVS.out] at h1 h2
        obtain ⟨a', c', rfl, h4⟩ := trow_at h2
        refine ⟨a', c', ?_, h4, h3⟩
        rw [h1, toksW_length, HV.out]
        rfl
      have HWC : Hid (∀ i, i < vn → ∃ g x, va = some ⟨g, 0, none⟩ ∧ g < wr.heap.size ∧ (wantL (us.take m))[i]? = some x ∧ wr.cell? ⟨g, i, none⟩ = some (.string (str x))) := fun i hi => by
        have hS := HS.out
        have hlen : i < (wantL (us.take m)).length := by rw [HV.out]; exact hi
        rcases hS.2 with ⟨_, h2⟩ | ⟨g, cap, cur, h2, _⟩
        · rw [HV.out] at h2; omega
        · cases h2
          refine ⟨g, (wantL (us.take m))[i], rfl, (World.ownsRow.lt hS g rfl).2, List.getElem?_eq_getElem hlen, ?_⟩
          rw [World.ownsRow.cellAt hS i (by omega)]
          simp [strsC, hlen]
      have HSG : Hid (∀ w1, Below w.heap.size w w1 → Calls Tryd.prog 13 #[.string ⟨#[60, 61]⟩] w1 fun e w' => e = .returned (.string ⟨#[60, 61]⟩) ∧ w' = w1) := fun w1 h => signed13 ⟨#[60, 61]⟩ w1 (hg.below h)
      clear hgr HPC HGC HU HW2 HB0 hi0 hz3 hz4 hz5
      go_wp2_with (go_at_call 8; refine c8.mono ?_; rintro e w3 ⟨a3, c3, rfl, htk, hb3⟩; have HTK3 : Hid (∀ (i : Nat) (x : Tk), (toksW 0 (wantL (us.take m)))[i]? = some x → ∃ g, a3 = some ⟨g, 0, none⟩ ∧ g < w3.heap.size ∧ TkAt w3 g i x) := htk; clear htk)
      go_loopw [13, 14] (fun p13 p14 w' => ∃ i : Nat, i ≤ vn ∧ p14 = .int .i64 (i : Int) ∧ (∃ n : Nat, n ≤ 100000 ∧ p13 = .int .i64 (n : Int) ∧ Hid (n = ((wantL (us.take m)).take i).flatten.length)) ∧ Below w3.heap.size w3 w') (fun _ p14 _ => vn - (RowKit.intOf p14).toNat)
      case atStart => exact ⟨0, by omega, rfl, ⟨0, by omega, rfl, by show _ = _; simp⟩, Below.refl _ _⟩
      case round =>
        obtain ⟨i, hi, rfl, ⟨n, hn, rfl, HNL⟩, hB3⟩ := hrel
        by_cases hil : i < vn
        · have hil1 : (i : Int) < (vn : Int) := by omega
          have hi0' : (0 : Int) ≤ (i : Int) := by omega
          obtain ⟨gw, x, rfl, hgw, hx, hcx⟩ := HWC.out i hil
          obtain ⟨g3, rfl, hg3, htk⟩ := HTK3.out i _ (toksW_at _ 0 i x hx)
          obtain ⟨d0, d1, d2, d3⟩ := htk.below hB3 hg3
          have cw := (hB3.cell (p := ⟨gw, i, none⟩) (show gw < w3.heap.size from Nat.lt_of_lt_of_le hgw hb3.size)).trans ((hb3.cell (p := ⟨gw, i, none⟩) hgw).trans hcx)
          simp only [tkW] at d0 d1 d2 d3
          rw [Nat.zero_add, ← HNL.out] at d3
          have HNX : Hid (n + (str x).size = ((wantL (us.take m)).take (i + 1)).flatten.length) := by
            have hm' := List.getElem?_eq_some_iff.1 hx
            show _ = _
            rw [List.take_succ_eq_append_getElem hm'.1, hm'.2, List.flatten_append, List.length_append, ← HNL.out, str_size]
            simp
          have hxs : (str x).size ≤ 3 := by
            rw [str_size]
            refine short_words x ?_
            have hmem := List.mem_of_getElem? hx
            simp only [wantL, List.mem_flatMap, List.mem_cons, List.not_mem_nil, or_false] at hmem
            obtain ⟨u, _, h | h⟩ := hmem
            · rw [h]; exact List.mem_append_left _ (partU_mem u)
            · rw [h]; exact List.mem_append_right _ (signU_mem u)
          have hn2 : n + (str x).size ≤ 6 * 20 := by
            rw [HNX.out]
            have h1 := text_len (us.take m)
            rw [text_want] at h1
            have h2 := HVS.out
            have h3 : ((wantL (us.take m)).take (i + 1)).flatten.length ≤ (wantL (us.take m)).flatten.length := by
              conv => rhs; rw [← List.take_append_drop (i + 1) (wantL (us.take m)), List.flatten_append, List.length_append]
              omega
            omega
          clear htk hx hcx hxs
          generalize str x = xs at *
          go_wp2_with fail
          go_big_quiet (fail)
          go_wp2_with fail
          exact ⟨⟨i + 1, by omega, by simp, ⟨n + xs.size, by omega, by simp, HNX.out⟩, hB3.trans ⟨rfl, rfl, rfl, Nat.le_refl _, fun _ _ => rfl⟩⟩, by simp [RowKit.intOf]; omega⟩
        · have hil1 : ¬ (i : Int) < (vn : Int) := by omega
          have c13 := HSG.out _ ((FW.trans (hb3.mono FW.size)).trans (hB3.mono (Nat.le_trans FW.size hb3.size)))
          go_wp2_with (go_at_call 13; refine c13.mono ?_; rintro e w9 ⟨rfl, rfl⟩)
          go_ret
          exact ⟨rfl, (FW.trans (hb3.mono FW.size)).trans (hB3.mono (Nat.le_trans FW.size hb3.size))⟩
end Go.Proofs.YthebpkcnhghofaaDoor
