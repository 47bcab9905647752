/- The law SchemaAhead. -/
import Derived.Test.YtkoagjfbhkhfkaaDoorLi
import Derived.Test.YtkoagjfbhkhfkaaDoorPy
import Derived.BigQuiet
namespace Go.Proofs.YtkoagjfbhkhfkaaDoor
open Go.RowKit Go.Lib
set_option maxRecDepth 100000
/-- Is one of these tables the parent of x, and does it fit? -/
def fitsB (x : Tb) (y : Tb) : Bool := (y.n == x.p) && (kindAt x.cols x.r.toNat == kindAt y.cols 0)
def thereB (x : Tb) (U : List Tb) : Bool := decide (x.p = []) || U.any (fitsB x)
theorem Ahead.there {U : List Tb} (h : Ahead U) {i : Nat} {x : Tb} (hx : U[i]? = some x) : thereB x (U.take i) = true := by
  rcases h i x hx with h1 | ⟨k, y, h1, h2, h3, _, _, h4⟩
  · simp [thereB, h1]
  · have : (U.take i).any (fitsB x) = true := by
      rw [List.any_eq_true]
      refine ⟨y, ?_, by simp [fitsB, h3, h4]⟩
      apply List.mem_of_getElem? (i := k)
      rw [List.getElem?_take, if_pos h1]
      exact h2
    simp [thereB, this]
/-- The cells of the tables that came out. -/
structure AW (W : World) (g : Nat) (T : List En) : Prop where
  cells : ∀ (i : Nat) (x : En), T[i]? = some x → W.cell? ⟨g, i * 4, none⟩ = some (.string (str x.1.n)) ∧ W.cell? ⟨g, i * 4 + 1, none⟩ = some (.slice (some ⟨x.2, 0, none⟩) x.1.cols.length x.1.cols.length) ∧ W.cell? ⟨g, i * 4 + 2, none⟩ = some (.string (str x.1.p)) ∧ W.cell? ⟨g, i * 4 + 3, none⟩ = some (.int .i64 x.1.r)
  kinds : ∀ x ∈ T, ∀ q, q < x.1.cols.length → W.cell? ⟨x.2, q * 2 + 1, none⟩ = some (.int .u8 (kindAt x.1.cols q : Int))
theorem AW.same {W W' : World} {g : Nat} {T : List En} (h : AW W g T) (he : W'.heap = W.heap) : AW W' g T := by
  refine ⟨fun i x hx => ?_, fun x hx q hq => ?_⟩
  · have := h.cells i x hx
    simpa only [World.cell?, he] using this
  · have := h.kinds x hx q hq
    simpa only [World.cell?, he] using this
theorem TS.aw {w W : World} {va : Option Addr} {vc : Nat} {T : List En} (h : TS w W (.slice va T.length vc) T) (hpos : 0 < T.length) : ∃ g, va = some ⟨g, 0, none⟩ ∧ AW W g T := by
  rcases h.own.2 with ⟨h1, h0⟩ | ⟨g, cap, cur, hv, _, h4, h5, h6, h7, h8⟩
  · omega
  · simp only [Value.slice.injEq] at hv
    obtain ⟨rfl, _, rfl⟩ := hv
    refine ⟨g, rfl, fun i x hx => ?_, fun x hx q hq => ?_⟩
    · have hx2 : (T.map toV)[i]? = some (toV x) := by rw [List.getElem?_map, hx]; rfl
      obtain ⟨e1, e2, e3, e4⟩ := cellsT_get (T.map toV) i (toV x) hx2
      have hil := (List.getElem?_eq_some_iff.1 hx).1
      rw [← h8, List.getElem?_take] at e1 e2 e3 e4
      rw [if_pos (by omega)] at e1 e2 e3 e4
      refine ⟨?_, ?_, ?_, ?_⟩
      · simpa [World.cell?, h4, toV] using e1
      · simpa [World.cell?, h4, toV] using e2
      · simpa [World.cell?, h4, toV] using e3
      · simpa [World.cell?, h4, toV] using e4
    · exact ((h.cols x hx).1.cell _).trans (cellsC_kind hq)
set_option maxHeartbeats 4000000 in
theorem ahead5 (v : Value) (T0 : List Tv) (w : World) (hg : Good w) (hv : IT w v T0) :
    Calls Tryd.prog 5 #[v] w fun e w' => e = .returned (.bool true) ∧ Below w.heap.size w w' := by
  have H7 := play7 v T0 w hg hv
  obtain ⟨⟨⟨a, cp, rfl, _, _⟩, _⟩, _⟩ := hv
  generalize T0.length = N0 at *
  have HQ : Hid (∀ e w1, PPost w e w1 → ∃ c m nv E r lv L, e = .returned (.tuple #[.pointer (some ⟨c, 0, none⟩), .pointer (some ⟨r, 0, none⟩), .bool true]) ∧ PS w w1 c m nv E r lv L) := fun e w1 h => h
  have HTP : Hid (∀ w2 U e w3, TPost w2 U e w3 → ∃ va vc T, e = .returned (.slice va T.length vc) ∧ TS w2 w3 (.slice va T.length vc) T ∧ T.map (·.1) = U) := fun _ _ _ _ h => h
  go_enter Tryd.func5, Tryd.ntmps5
  go_wp2_with (first
    | (go_at_call 7; refine H7.mono ?_; intro e w1 hpost; obtain ⟨c, m, nv, E, r, lv, L, rfl, hps⟩ := HQ.out _ _ hpost; have HP : Hid _ := hps; clear hps hpost)
    | (go_at_call 8; refine (live8 w1).mono ?_; rintro e w2 ⟨rfl, hb2⟩)
    | (go_at_call 18; refine (tables18 (HP.out.two.cat.below hb2) HP.out.two.nd).mono ?_; intro e w3 hpost3; obtain ⟨va, vc, T, rfl, hts, hmap⟩ := HTP.out _ _ _ _ hpost3; clear hpost3))
  have F3 : Below w.heap.size w w3 := (bmore HP.out.bel hb2).trans (hts.bel.mono (bmore HP.out.bel hb2).size)
  have HAH : Hid (Ahead (T.map (·.1))) := by
    show Ahead _
    rw [hmap, ← HP.out.two.eq]
    exact HP.out.ahead
  have HOK : Hid (∀ x ∈ T, rtB x.1.n x.1.cols x.1.p x.1.r = true) := fun x hx => by
    have h1 : x.1 ∈ (E.map (·.1)).reverse := by rw [← hmap]; exact List.mem_map.2 ⟨x, hx, rfl⟩
    obtain ⟨y, hy, hxy⟩ := List.mem_map.1 (List.mem_reverse.1 h1)
    rw [← hxy]
    exact HP.out.two.cat.ok y hy
  have hlen : T.length ≤ 3 := by
    have := congrArg List.length hmap
    simp at this
    have := HP.out.two.cat.few
    omega
  obtain ⟨N, hN⟩ : ∃ N, T.length = N := ⟨_, rfl⟩
  have HNN : Hid (T.length = N) := hN
  have HTS : Hid (0 < N → ∃ g, va = some ⟨g, 0, none⟩ ∧ AW w3 g T) := fun h0 => hts.aw (by omega)
  rw [hN] at hlen ⊢
  clear hN hts hmap HP hb2
  go_loopw [7] (fun q wr => ∃ i : Nat, i ≤ N ∧ q = .int .i64 (i : Int) ∧ Hid (wr.heap = w3.heap ∧ Below w.heap.size w wr)) (fun q _ => N - (RowKit.intOf q).toNat)
  case atStart => exact ⟨0, by omega, rfl, rfl, F3⟩
  case round =>
    obtain ⟨i, hi, rfl, HW⟩ := hrel
    by_cases hlt : i < N
    · have hi1 : (i : Int) < (N : Int) := by omega
      have hi0 : (0 : Int) ≤ (i : Int) := by omega
      obtain ⟨g, rfl, haw⟩ := HTS.out (by omega)
      obtain ⟨x, hx⟩ : ∃ x, T[i]? = some x := ⟨_, List.getElem?_eq_getElem (by rw [HNN.out]; exact hlt)⟩
      have HAW : Hid (∀ W, W.heap = w3.heap → AW W g T) := fun W he => haw.same he
      obtain ⟨c0, c1, c2, c3⟩ := (HAW.out wr HW.out.1).cells i x hx
      have hxm := List.mem_of_getElem? hx
      have HTH := HAH.out.there (i := i) (x := x.1) (by rw [List.getElem?_map, hx]; rfl)
      have hrt := HOK.out x hxm
      have HKX := fun W he => (HAW.out W he).kinds x hxm
      obtain ⟨y, yb⟩ := x
      simp only at c0 c1 c2 c3 HTH hrt HKX
      have HTHh : Hid (thereB y ((T.map (·.1)).take i) = true) := HTH
      clear HTH
      obtain ⟨sp, hsp⟩ : ∃ sp, str y.p = sp := ⟨_, rfl⟩
      have HSP : Hid (str y.p = sp) := hsp
      have HB0 : Hid (sp.toList.isEmpty = decide (y.p = [])) := by
        show _ = _
        rw [← hsp, toList_data]
        cases y.p with
        | nil => simp
        | cons a t => simp
      obtain ⟨b0, hb0⟩ : ∃ b0, sp.toList.isEmpty = b0 := ⟨_, rfl⟩
      rw [hb0] at HB0
      rw [hsp] at c2
      have hwl : wr.heap = w3.heap := HW.out.1
      clear hsp
      have HWL : Hid (wr.heap = w3.heap) := hwl
      clear hwl
      go_wp2_with fail
      go_loopw [8, 9] (fun b q wr => ∃ (k : Nat) (tb : Bool), k ≤ i ∧ q = .int .i64 (k : Int) ∧ b = .bool tb ∧ Hid (tb = thereB y ((T.map (·.1)).take k)) ∧ Hid (wr.heap = w3.heap ∧ Below w.heap.size w wr)) (fun _ q _ => i - (RowKit.intOf q).toNat)
      case atStart => exact ⟨0, b0, by omega, rfl, rfl, by show _ = _; rw [HB0.out]; simp [thereB], HW⟩
      case round =>
        obtain ⟨k, tb, hk, rfl, rfl, HTB, HW2⟩ := hrel
        by_cases hki : k < i
        · have hk1 : (k : Int) < (i : Int) := by omega
          have hk0 : (0 : Int) ≤ (k : Int) := by omega
          have hkN : (k : Int) < (N : Int) := by omega
          obtain ⟨z, hz⟩ : ∃ z, T[k]? = some z := ⟨_, List.getElem?_eq_getElem (by rw [HNN.out]; omega)⟩
          have hzm := List.mem_of_getElem? hz
          have HST : Hid (thereB y ((T.map (·.1)).take (k + 1)) = (thereB y ((T.map (·.1)).take k) || fitsB y z.1)) := by
            show _ = _
            have hk' : (T.map (·.1))[k]? = some z.1 := by rw [List.getElem?_map, hz]; rfl
            have hk2 := List.getElem?_eq_some_iff.1 hk'
            rw [List.take_succ_eq_append_getElem hk2.1, hk2.2]
            simp [thereB, List.any_append, Bool.or_assoc]
          cases tb
          · have hp0 : y.p ≠ [] := fun e => by
              have := HTB.out
              simp [thereB, e] at this
            have hrp := hrt
            simp only [rtB, rpB, if_neg hp0, Bool.and_eq_true, decide_eq_true_eq] at hrp
            obtain ⟨_, ⟨_, hr1⟩, hr2⟩ := hrp
            obtain ⟨qn, hqn⟩ : ∃ qn : Nat, y.r = (qn : Int) := ⟨y.r.toNat, by omega⟩
            have hqt : y.r.toNat = qn := by omega
            have hkx := HKX wr HW2.out.1 qn (by omega)
            have hz1 := rtB_cols (HOK.out z hzm)
            have hkz := (HAW.out wr HW2.out.1).kinds z hzm 0 (by omega)
            obtain ⟨z0, z1, z2, z3⟩ := (HAW.out wr HW2.out.1).cells k z hz
            obtain ⟨d0, d1, d2, d3⟩ := (HAW.out wr HW2.out.1).cells i (y, yb) hx
            simp only [HSP.out, Nat.zero_mul, Nat.zero_add] at d0 d1 d2 d3 hkz
            rw [hqn] at d3
            have HFB : Hid (fitsB y z.1 = ((z.1.n == y.p) && (kindAt y.cols qn == kindAt z.1.cols 0))) := by show _ = _; rw [fitsB, hqt]
            have hq0 : (0 : Int) ≤ (qn : Int) := by omega
            have hq1 : (qn : Int) < (y.cols.length : Int) := by omega
            have hq1d : decide ((qn : Int) < (y.cols.length : Int)) = true := by simpa using hq1
            have hzl : (0 : Int) < (z.1.cols.length : Int) := by omega
            by_cases hzn : z.1.n = y.p
            · have hzs : str z.1.n = sp := by rw [hzn]; exact HSP.out
              rw [hzs] at z0
              generalize z.1.cols.length = zl at *
              generalize y.cols.length = yl at *
              by_cases hkk : kindAt y.cols qn = kindAt z.1.cols 0
              · have HN : Hid (true = thereB y ((T.map (·.1)).take (k + 1))) := by show _ = _; rw [HST.out, HFB.out]; simp [hzn, hkk]
                rw [hkk] at hkx
                clear HST HFB HTB hkk hzn hzs hrt hr1 hr2 hqn hqt hp0 hz
                generalize kindAt z.1.cols 0 = k2 at *
                go_wp2_with fail
                go_quiet (fail)
                go_wp2_with fail
                go_roundw
                case rel => exact ⟨k + 1, true, by omega, by simp, rfl, HN, HW2.out.1, bdrewN HW2.out.2 _⟩
                case measure => simp [RowKit.intOf]; omega
              · have HN : Hid (false = thereB y ((T.map (·.1)).take (k + 1))) := by show _ = _; rw [HST.out, HFB.out, ← HTB.out]; simp [hkk]
                have hkb : ((kindAt z.1.cols 0 : Int) == (kindAt y.cols qn : Int)) = false := by
                  rw [beq_eq_false_iff_ne]; omega
                clear HST HFB HTB hkk hzn hzs hrt hr1 hr2 hqn hqt hp0 hz
                generalize kindAt z.1.cols 0 = k2 at *
                generalize kindAt y.cols qn = k1 at *
                go_wp2_with fail
                go_quiet (fail)
                go_wp2_with fail
                go_roundw
                case rel => exact ⟨k + 1, false, by omega, by simp, rfl, HN, HW2.out.1, bdrewN HW2.out.2 _⟩
                case measure => simp [RowKit.intOf]; omega
            · have hzs : str z.1.n ≠ sp := fun e => hzn (by have := HSP.out; rw [← this] at e; have := congrArg bs e; simpa [bs_str] using this)
              have hnl := ne_list hzs
              have HN : Hid (false = thereB y ((T.map (·.1)).take (k + 1))) := by show _ = _; rw [HST.out, HFB.out, ← HTB.out]; simp [hzn]
              clear HST HFB HTB hzn hzs hrt hr1 hr2 hqn hqt hp0 hz
              generalize str z.1.n = zs at *
              go_wp2_with fail
              go_quiet (fail)
              go_wp2_with fail
              go_roundw
              case rel => exact ⟨k + 1, false, by omega, by simp, rfl, HN, HW2.out.1, bdrewN HW2.out.2 _⟩
              case measure => simp [RowKit.intOf]; omega
          · have HN : Hid (true = thereB y ((T.map (·.1)).take (k + 1))) := by show _ = _; rw [HST.out, ← HTB.out]; rfl
            clear HST HTB
            go_wp2_with fail
            go_quiet (fail)
            go_wp2_with fail
            go_roundw
            case rel => exact ⟨k + 1, true, by omega, by simp, rfl, HN, HW2.out.1, bdrewN HW2.out.2 _⟩
            case measure => simp [RowKit.intOf]; omega
        · have hk1 : ¬ (k : Int) < (i : Int) := by omega
          have hki2 : k = i := by omega
          have htb : tb = true := by rw [HTB.out, hki2]; exact HTHh.out
          subst htb
          go_wp2_with fail
          go_roundw
          case rel => exact ⟨i + 1, by omega, by simp, HW2⟩
          case measure => simp [RowKit.intOf]; omega
    · have hi1 : ¬ (i : Int) < (N : Int) := by omega
      have h3 : (N : Int) ≤ 3 := by omega
      go_wp2
      go_ret
      exact ⟨rfl, HW.out.2⟩
end Go.Proofs.YtkoagjfbhkhfkaaDoor
