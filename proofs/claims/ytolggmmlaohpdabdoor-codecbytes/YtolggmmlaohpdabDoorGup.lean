/- codec's reader where the bytes are no row's: it gives up. -/
import Derived.Test.YtolggmmlaohpdabDoorGpl
import Derived.WalkLawsBesides
namespace Go.Proofs.YtolggmmlaohpdabDoor
open Go.RowKit Go.Lib
set_option maxRecDepth 100000

/-- What a reader panics with. -/
def GU : List PanicEntry := [{ v := .iface 75 (.agg #[.int .i64 3]), recovered := false }]

set_option maxHeartbeats 400000 in
theorem peek67_no (R b : Nat) (w : World) (h : RD R b [] w) :
    Calls Tryd.prog 67 #[.pointer (some ⟨R, 0, none⟩)] w fun e w' => e = .panicked GU ∧ w' = w := by
  obtain ⟨a, c, h0, _, _, _, h5⟩ := h
  clear h5
  simp only [List.length_nil] at h0
  go_enter Tryd.func67, Tryd.ntmps67
  go_wp2
  exact ⟨rfl, rfl, rfl⟩

set_option maxHeartbeats 400000 in
theorem next69_no (R b : Nat) (w : World) (h : RD R b [] w) :
    Calls Tryd.prog 69 #[.pointer (some ⟨R, 0, none⟩)] w fun e w' => e = .panicked GU ∧ w' = w := by
  have c67 := peek67_no R b w h
  clear h
  go_enter Tryd.func69, Tryd.ntmps69
  go_wp2_with (go_at_call 67; (refine c67.mono ?_; rintro e w1 ⟨rfl, rfl⟩))
  exact ⟨rfl, rfl, rfl⟩

set_option maxHeartbeats 400000 in
theorem point62_no (R b : Nat) (l : Bs) (w : World) (hl : l.length < 2) (hR : b ≠ R) (h : RD R b l w) :
    Calls Tryd.prog 62 #[.pointer (some ⟨R, 0, none⟩)] w fun e w' => e = .panicked GU ∧ But R w w' := by
  match l, hl with
  | [], _ =>
    have c1 := next69_no R b w h
    clear h hl
    go_enter Tryd.func62, Tryd.ntmps62
    go_wp2_with (go_at_call 69; (refine c1.mono ?_; rintro e wa ⟨rfl, rfl⟩))
    exact ⟨rfl, rfl, But.refl _ _⟩
  | [x], _ =>
    have c1 := next69 R b x [] w hR h
    have c2 := fun W h => next69_no R b W h
    clear h hl
    have hx := x.toNat_lt
    go_enter Tryd.func62, Tryd.ntmps62
    go_wp2_with (first
      | (go_at_call 69; (refine c1.mono ?_; rintro e wa ⟨rfl, hr1, hb1⟩; clear c1))
      | (go_at_call 69; (refine (c2 _ hr1).mono ?_; rintro e wb ⟨rfl, rfl⟩)))
    exact ⟨rfl, rfl, hb1⟩

set_option maxHeartbeats 400000 in
theorem value68_no (R b : Nat) (l : Bs) (w : World) (hlen : l.length ≤ 140737488355328) (hrd : rdV l = (0, 0, [], 0, 3)) (hg : Good w) (h : RD R b l w) :
    Calls Tryd.prog 68 #[.pointer (some ⟨R, 0, none⟩)] w fun e w' => e = .panicked GU ∧ But R w w' := by
  have hsb := fun v hv => rd_sb h (v := v) hv
  obtain ⟨a, c, h0, hc, hm, hz, h5⟩ := h
  have k25 := fun o' => read23 _ _ (w.alloc o') hlen ((hsb _ h0).below (al _ _)) (hg.below (al _ _))
  rw [hrd] at k25
  have hkeep : ∀ o' w1 o2 x0 x1 x2, Below (w.alloc o').heap.size (w.alloc o') w1 → But R w ((((w1.alloc o2).setCell ⟨w1.heap.size, 0, none⟩ x0).setCell ⟨w1.heap.size, 1, none⟩ x1).setCell ⟨w1.heap.size, 2, none⟩ x2) := fun o' w1 o2 x0 x1 x2 hb1 => by
    have hs := hb1.size
    simp at hs
    exact (((But.of (bmore (bmore (al _ _) hb1) (al _ o2))).put (by omega) _).put (by omega) _).put (by omega) _
  have hkeep2 : ∀ o' w1 o2, Below (w.alloc o').heap.size (w.alloc o') w1 → But R w (w1.alloc o2) := fun o' w1 o2 hb1 => But.of (bmore (bmore (al _ _) hb1) (al _ o2))
  have hRz : R < w.heap.size := World.block_lt_of_cell? _ _ h0
  simp only at k25
  generalize l.length = Q at *
  clear hsb hrd h5
  go_enter Tryd.func68, Tryd.ntmps68
  go_wp2_with (go_at_call 25; (refine (k25 _).mono ?_; rintro e w1 ⟨rfl, hb1⟩))
  exact ⟨rfl, rfl, by first | exact hkeep2 _ _ _ hb1 | exact hkeep _ _ _ _ _ _ hb1⟩

theorem noVals_step {L l : Bs} {pre : List Vt} (h : NoVals L) (hok : ∀ x ∈ pre, okV x = true ∧ inI64 x.2.1) (e : L = flat pre ++ l) : ∀ r, l ≠ 0 :: r := fun r hr => h pre r hok (by rw [e, hr])

theorem flat_ge : ∀ (l : List Vt), (∀ x ∈ l, okV x = true) → 2 * l.length ≤ (flat l).length
  | [], _ => by simp
  | x :: t, h => by
    have h1 := bytesT_len (h x (by simp))
    have h2 := flat_ge t (fun y hy => h y (by simp [hy]))
    rw [flat_cons, List.length_append, List.length_cons]; omega

set_option maxHeartbeats 1000000 in
theorem values61_no (R b : Nat) (L : Bs) (w0 w : World) (hR : b ≠ R) (hb : b < w.heap.size) (hRz : R < w.heap.size) (hno : NoVals L) (hlen : L.length ≤ 1900000) (hg : Good w0) (hw0 : Below w0.heap.size w0 w) (h0R : w0.heap.size ≤ R) (h : RD R b L w) :
    Calls Tryd.prog 61 #[.pointer (some ⟨R, 0, none⟩)] w fun e w' => e = .panicked GU ∧ But R w w' := by
  have hgood : ∀ W, But R w W → Good W := fun W hW => hg.below (hw0.trans (hW.below h0R (by omega)))
  have HN : Hid (NoVals L) := hno
  have HL : Hid (L.length ≤ 1900000) := hlen
  clear hno hlen hg hw0 h0R
  go_enter Tryd.func61, Tryd.ntmps61
  go_wp2_with fail
  go_loopw [3] (fun u wr => ∃ (pre : List Vt) (l : Bs), VRow w.heap.size u pre wr ∧ L = flat pre ++ l ∧ (∀ x ∈ pre, okV x = true ∧ inI64 x.2.1) ∧ RD R b l wr ∧ But R w wr) (fun u _ => L.length - lenOf u)
  case atStart => exact ⟨[], L, VRow.nil _ _, rfl, fun x hx => by simp at hx, h, But.refl _ _⟩
  case round =>
    obtain ⟨pre, l, hu, hLl, hok, hrd, hbut⟩ := hrel
    have hgw := hgood _ hbut
    have hsz := hbut.size
    have hst := noVals_step HN.out hok hLl
    have hpl : 2 * pre.length ≤ (flat pre).length := flat_ge pre fun x hx => (hok x hx).1
    have hll : (flat pre).length + l.length ≤ 1900000 := by have := HL.out; rw [hLl, List.length_append] at this; exact this
    have HE : Hid (L = flat pre ++ l) := hLl
    have HO : Hid (∀ x ∈ pre, okV x = true ∧ inI64 x.2.1) := hok
    clear hLl hok
    cases l with
    | nil =>
      have c67 := peek67_no R b wr hrd
      clear hst HE HO
      go_wp2_with (go_at_call 67; (refine c67.mono ?_; rintro e w1 ⟨rfl, rfl⟩))
      exact ⟨rfl, rfl, hbut⟩
    | cons ch r =>
      have hch : ch ≠ 0 := fun e => hst r (by rw [e])
      have c67 := peek67 R b ch r wr hrd
      have hchz : ((ch.toNat : Int) != 0) = true := by
        have : ch.toNat ≠ 0 := fun e => hch (UInt8.toNat_inj.1 (by rw [e]; rfl))
        simpa using this
      clear hst hch
      rcases rdV_inv (ch :: r) with hrv | ⟨x, hxo, hxi, hrv, hsplit⟩
      · have c68 := value68_no R b (ch :: r) wr (by omega) hrv hgw hrd
        clear hrv hrd HE HO
        go_wp2_with (first
          | (go_at_call 67; (refine c67.mono ?_; rintro e w1 ⟨rfl, rfl⟩; clear c67))
          | (go_at_call 68; (refine c68.mono ?_; rintro e w2 ⟨rfl, hbut2⟩)))
        exact ⟨rfl, rfl, hbut.trans hbut2⟩
      · rw [hsplit] at hrd
        have hbl := bytesT_len hxo
        have hl2 : (bytesT x).length ≤ (ch :: r).length := by have := congrArg List.length hsplit; rw [List.length_append] at this; omega
        have c68 := value68 R b x _ wr hR hxo hxi (by rw [← hsplit]; omega) hgw hrd
        have HR : Hid (L = flat (pre ++ [x]) ++ (ch :: r).drop (bytesT x).length) := by
          show _ = _
          rw [flat_snoc, List.append_assoc, ← hsplit]; exact HE.out
        have HO2 : Hid (∀ y ∈ pre ++ [x], okV y = true ∧ inI64 y.2.1) := fun y hy => by
          rcases List.mem_append.1 hy with hy | hy
          · exact HO.out y hy
          · rw [List.mem_singleton.1 hy]; exact ⟨hxo, hxi⟩
        have hlu := hu.len
        have hpl2 : pre.length < L.length := by have := congrArg List.length HE.out; rw [List.length_append, List.length_cons] at this; omega
        clear hrv hsplit hrd HE HO hxo hxi
        generalize (ch :: r).drop (bytesT x).length = l' at *
        obtain ⟨xk, xn, xs⟩ := x
        simp only at c68
        go_wp2_with (first
          | (go_at_call 67; (refine c67.mono ?_; rintro e w1 ⟨rfl, rfl⟩; clear c67))
          | (go_at_call 68; (refine c68.mono ?_; rintro e w2 ⟨rfl, hrd2, hbut2⟩; have hz2 := Nat.le_trans hsz hbut2.size; have hu2 := (hu.but hbut2 hRz).below (al w2 (.cells #[.int .u8 xk, .int .i64 xn, .string xs] 46))))
          | (at_builtin; (refine push_val rfl (.tmp 7) (.tmp 10) rfl w.heap.size _ _ (xk, xn, xs) rfl hu2 w2.heap.size rfl ⟨by simp, by simp, by simp⟩ (by omega) (by simp; omega) ?_; intro u3 w3 hu3 hgrow; have hrd3 := (hrd2.below (al w2 (.cells #[.int .u8 xk, .int .i64 xn, .string xs] 46))).grown hu2 hgrow hRz hb (by simp; omega); have hbut3 := ((hbut.trans hbut2).trans (But.of (al w2 (.cells #[.int .u8 xk, .int .i64 xn, .string xs] 46)))).grown hu2 hgrow)))
        go_roundw
        case rel => exact ⟨pre ++ [(xk, xn, xs)], l', hu3, HR.out, HO2.out, hrd3, hbut3⟩
        case measure => have := hu3.len; simp at this; omega

end Go.Proofs.YtolggmmlaohpdabDoor
