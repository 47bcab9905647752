/- Keys, the program's and the document's. -/
import Derived.Test.YtpagnphabchfcaaGreatQo
namespace Go.Proofs.YtpagnphabchfcaaGreat
open Go.RowKit Go.Shelf
set_option maxRecDepth 100000
def firsts (l : List Rw) : List Vt := l.filterMap fun r => r.1.head?
theorem firsts_take {l : List Rw} {k : Nat} {r : Rw} (h : l[k]? = some r) : firsts (l.take (k + 1)) = firsts (l.take k) ++ r.1.head?.toList := by
  unfold firsts
  rw [List.take_add_one, h, List.filterMap_append]
  cases hc : r.1.head? <;> simp [hc]
theorem firsts_len (l : List Rw) : (firsts l).length ≤ l.length := List.length_filterMap_le _ _
theorem firsts_perm {l m : List Rw} (h : l.Perm m) (x : Vt) : x ∈ firsts l ↔ x ∈ firsts m := (h.filterMap _).mem_iff
theorem firsts_le {S : List Rw} (h : Rise S) {i : Nat} {r : Rw} {y : Vt} (hr : S[i]? = some r) (hy : r.1.head? = some y) : ∀ x ∈ firsts (S.take i), cmpT y x ≠ -1 := fun x hx e => by
  obtain ⟨q, hq, hqx⟩ := List.mem_filterMap.1 hx
  obtain ⟨j, hj⟩ := List.mem_iff_getElem?.1 hq
  have hji := (List.getElem?_eq_some_iff.1 hj).1
  rw [List.length_take] at hji
  rw [List.getElem?_take_of_lt (by omega)] at hj
  obtain ⟨h1, h2⟩ := List.getElem?_eq_some_iff.1 hr
  obtain ⟨h3, h4⟩ := List.getElem?_eq_some_iff.1 hj
  have hp := List.pairwise_iff_getElem.1 h j i h3 h1 (by omega)
  rw [h2, h4] at hp
  obtain ⟨rv, rs⟩ := r
  obtain ⟨qv, qs⟩ := q
  simp only at hy hqx
  cases rv with
  | nil => simp at hy
  | cons a rv =>
    cases qv with
    | nil => simp at hqx
    | cons b qv =>
      simp only [List.head?_cons, Option.some.injEq] at hy hqx
      subst hy hqx
      have : cmpL (a :: rv) (b :: qv) = -1 := by
        show lexL cmpT (a :: rv) (b :: qv) = -1
        unfold lexL
        rw [if_neg (by omega)]
        exact e
      apply hp
      unfold cmpR lexP
      rw [if_neg (by simp only; omega)]
      exact this
/-- Keys: which values they are. -/
structure KeysOf (F K : List Vt) : Prop where
  strict : StrictT K
  mem : ∀ x, x ∈ K ↔ x ∈ F
theorem KeysOf.unique {F G K L : List Vt} (h : KeysOf F K) (k : KeysOf G L) (e : ∀ x, x ∈ F ↔ x ∈ G) : K = L := strictT_unique h.strict k.strict fun x => by rw [h.mem, k.mem, e]
theorem keys_compact {F vs : List Vt} (hp : vs.Perm F) (hr : RiseT vs) : KeysOf F (Lib.compact vs) := by
  refine ⟨?_, fun x => ?_⟩
  · refine (upTo_strict (fun a b : Vt => cmpT a b = -1) (fun a b c h1 h2 => ordT.trans _ _ _ h1 h2) vs.toArray vs.length (fun m hm => ?_) _ (Nat.le_refl _)).1
    have := List.pairwise_iff_getElem.1 hr m (m + 1) (by omega) hm (by omega)
    rw [get_bang (by omega), get_bang hm]
    have t := ordT.three vs[m] vs[m + 1]
    have n := ordT.neg vs[m] vs[m + 1]
    rcases t with t | t | t
    · exact .inr t
    · exact .inl ((ordT.eq _ _).1 t)
    · omega
  · unfold Lib.compact
    rw [upTo_mem, ← hp.mem_iff]
    constructor
    · rintro ⟨j, h1, h2⟩
      rw [get_bang h1] at h2
      rw [← h2]
      exact List.getElem_mem _
    · intro hx
      obtain ⟨j, hj, e⟩ := List.mem_iff_getElem.1 hx
      exact ⟨j, hj, by rw [get_bang hj]; exact e⟩
theorem KeysOf.snoc {F K : List Vt} {y : Vt} (h : KeysOf F K) (hle : ∀ x ∈ F, cmpT y x ≠ -1) (hn : y ∉ K) : KeysOf (F ++ [y]) (K ++ [y]) := by
  refine ⟨?_, fun x => by rw [List.mem_append, List.mem_append, h.mem]⟩
  unfold StrictT
  rw [List.pairwise_append]
  refine ⟨h.strict, List.pairwise_singleton _ _, fun a ha b hb => ?_⟩
  rw [List.mem_singleton.1 hb]
  have h1 := hle a ((h.mem a).1 ha)
  have h2 : cmpT y a ≠ 0 := fun e => hn (by rw [(ordT.eq _ _).1 e]; exact ha)
  have t := ordT.three y a
  have n := ordT.neg y a
  omega
theorem KeysOf.again {F K : List Vt} {y : Vt} (h : KeysOf F K) (hy : y ∈ K) : KeysOf (F ++ [y]) K := ⟨h.strict, fun x => by
  rw [List.mem_append, h.mem, List.mem_singleton]
  constructor
  · exact .inl
  · rintro (e | e)
    · exact e
    · rw [e]; exact (h.mem y).1 hy⟩
/-- The greatest of keys is the last one. -/
theorem last_new {F K : List Vt} {z y : Vt} (h : KeysOf F (K ++ [z])) (hle : ∀ x ∈ F, cmpT y x ≠ -1) (hn : z ≠ y) : y ∉ K ++ [z] := fun hy => by
  rcases List.mem_append.1 hy with hy | hy
  · have h1 := h.strict
    unfold StrictT at h1
    rw [List.pairwise_append] at h1
    have h2 := h1.2.2 y hy z (by simp)
    exact hle z ((h.mem z).1 (by simp)) h2
  · exact hn (List.mem_singleton.1 hy).symm
def KPost (w : World) (F : List Vt) (e : Ending) (w' : World) : Prop := ∃ p c K, e = .returned (.slice p (List.length K) c) ∧ Hid (SV w' (fun _ => False) (.slice p K.length c) K) ∧ Hid (KeysOf F K) ∧ Hid (K.length ≤ 1000) ∧ Below w.heap.size w w'
theorem ownV_app1 {w w6 : World} {fo : Value} {vs : List Vt} {y : Vt} (h : OwnV w6 w.heap.size fo vs) (hb : Below w.heap.size w w6) (hn : vs.length ≤ 100) (g : Nat) (hg : w6.heap.size = g) :
    ∃ v7 w7, (Builtin.append_ #[35, 35] 35 #[fo, .slice (some ⟨g, 0, none⟩) 1 1]).run Tryz.prog (w6.alloc (.cells #[.int .u8 y.1, .int .i64 y.2.1, .string y.2.2] 25)) = .ok v7 w7 ∧ Hid (OwnV w7 w.heap.size v7 (vs ++ [y])) ∧ Hid (Below w.heap.size w w7) := by
  subst hg
  have hal := box25 w6 y
  have nb : Blk (w6.alloc (.cells #[.int .u8 y.1, .int .i64 y.2.1, .string y.2.2] 25)) w6.heap.size (cellsV [y]) 25 := blk_new w6 [.int .u8 y.1, .int .i64 y.2.1, .string y.2.2] 25
  obtain ⟨v7, w7, r1, r2, r3⟩ := ownV_apps (OwnV.below h hal) (SV.blk (X := fun _ => False) (c := 1) nb id) (by simp; omega) (bmore hb hal).size
  exact ⟨v7, w7, r1, r2, (bmore hb hal).trans ⟨r3.os, r3.tape, r3.output, r3.size, fun k hk => r3.block k (by have := (bmore hb hal).size; omega) (fun e => by have := (World.ownsRow.lt (OwnV.below h hal) k e.symm).1; omega)⟩⟩
set_option maxHeartbeats 1000000 in
theorem keys22 {w : World} {X : Nat → Prop} {v : Value} {es : List El} (h : RL w X v es) (hl : es.length ≤ 100) :
    Calls Tryz.prog 22 #[v] w (KPost w (firsts (rws es))) := by
  have HR : Hid (RL w (fun x => w.heap.size ≤ x) v es) := RL.old (h.mono (Y := fun _ => False) (fun _ _ h => h.elim))
  obtain ⟨pa, c, rfl⟩ := h.form
  obtain ⟨N, hN⟩ : ∃ N, es.length = N := ⟨_, rfl⟩
  have HN : Hid _ := hN
  have HA : Hid ((rws es).length = N) := by show _ = _; simpa [rws] using hN
  rw [hN] at hl ⊢
  rw [hN] at HR
  clear h hN
  go_enter Tryz.func22, Tryz.ntmps22
  go_wp2_with fail
  go_loopw [3, 8] (fun fo fi wr => ∃ (k : Nat), fi = .int .i64 (k : Int) ∧ Hid (k ≤ N) ∧ Hid (OwnV wr w.heap.size fo (firsts ((rws es).take k))) ∧ Hid (Below w.heap.size w wr)) (fun _ fi _ => ((N : Int) - intOf fi).toNat)
  case atStart => exact ⟨0, rfl, Nat.zero_le _, OwnV.nil _ _, Below.refl _ _⟩
  case round =>
    obtain ⟨k, rfl, hk, hO, hB⟩ := hrel
    by_cases hkN : k < N
    · have hki : (k : Int) < (N : Int) := by omega
      have hk0 : (0 : Int) ≤ (k : Int) := by omega
      obtain ⟨e, he⟩ : ∃ e, es[k]? = some e := ⟨_, List.getElem?_eq_getElem (by rw [HN.out]; exact hkN)⟩
      obtain ⟨g, o, rfl, _, _, d0, d1, d2⟩ := (RL.below HR.out hB.out).get he
      have HSV : Hid (SV w (fun x => w.heap.size ≤ x) e.1 e.2.1) := HR.out.vals e (List.mem_of_getElem? he)
      have HTk : Hid (firsts ((rws es).take (k + 1)) = firsts ((rws es).take k) ++ e.2.1.head?.toList) := firsts_take (by rw [rws, List.getElem?_map, he]; rfl)
      have HLn : Hid ((firsts ((rws es).take k)).length ≤ 100) := by
        have h1 := firsts_len ((rws es).take k)
        rw [List.length_take] at h1
        show _ ≤ _
        omega
      obtain ⟨sv, vs, f, t⟩ := e
      simp only at d0 d1 d2 HSV HTk
      obtain ⟨pb, cb, rfl⟩ := SV.form HSV.out
      have hA := al3 wr (.slice pb vs.length cb) f t
      have HB5 : Hid _ := bmore hB.out hA
      have HO5 : Hid _ := OwnV.below hO.out hA
      clear he
      cases vs with
      | nil =>
        have HTk' : Hid (firsts ((rws es).take (k + 1)) = firsts ((rws es).take k)) := by show _ = _; rw [HTk.out]; simp
        simp only [List.length_nil] at *
        go_wp2_with fail
        go_roundw
        case rel => exact ⟨k + 1, by simp, by show _ ≤ _; omega, by show OwnV _ _ _ _; rw [HTk'.out]; exact HO5.out, HB5.out⟩
        case measure => simp only [intOf]; omega
      | cons y ys =>
        have HTk' : Hid (firsts ((rws es).take (k + 1)) = firsts ((rws es).take k) ++ [y]) := by show _ = _; rw [HTk.out]; simp
        obtain ⟨gv, ov, rfl, q0, q1, q2⟩ := SV.first (SV.below HSV.out HB5.out)
        have hpos : (0 : Int) < (((y :: ys).length : Nat) : Int) := by simp only [List.length_cons]; omega
        generalize hLn : (y :: ys).length = Ln at *
        have HApp := ownV_app1 (y := y) HO5.out HB5.out HLn.out (wr.heap.size + 1) (by simp)
        clear hLn
        go_wp2_with (at_builtin; refine wpList_append_ex (by rfl) (.tmp 16) (.tmp 21) 35 (by rfl) _ _ (by rfl) (by rfl) HApp ?_; rintro v7 w7 ⟨hO7, hB7⟩)
        go_roundw
        case rel => exact ⟨k + 1, by simp, by show _ ≤ _; omega, by show OwnV _ _ _ _; rw [HTk'.out]; exact hO7.out, hB7.out⟩
        case measure => simp only [intOf]; omega
    · have hki : ¬ (k : Int) < (N : Int) := by omega
      have HE : Hid (firsts ((rws es).take k) = firsts (rws es)) := by show _ = _; rw [List.take_of_length_le (by rw [HA.out]; omega)]
      have HL : Hid ((firsts (rws es)).length ≤ 100) := by have := firsts_len (rws es); rw [HA.out] at this; show _ ≤ _; omega
      have k57 := sort57 (by have := hO.out; rwa [HE.out] at this) hB.out.size (by have := HL.out; omega)
      have HBr : Hid (Below w.heap.size w wr) := hB.out
      go_wp2_with (first
        | (go_at_call 57; (with_reducible refine k57.mono ?_); rintro e w5 ⟨rfl, vs', hp, hr, o5, B5⟩; have k59 := compact59 o5 (by have := HBr.out.size; have := B5.size; omega) (by rw [hp.length_eq]; have := HL.out; omega); have HK : Hid (KeysOf (firsts (rws es)) (Lib.compact vs')) := keys_compact hp hr; have HKl : Hid ((Lib.compact vs').length ≤ 1000) := Nat.le_trans (Lib.compact_length_le _) (by rw [hp.length_eq]; have := HL.out; omega); have HB5 : Hid (Below w.heap.size w w5) := HBr.out.trans B5; clear hp hr o5 B5)
        | (go_at_call 59; (with_reducible refine k59.mono ?_); rintro e w6 ⟨v6, rfl, s6, B6⟩; obtain ⟨p6, c6, hf6⟩ := SV.form s6; subst hf6; have HS6 : Hid _ := s6; have HB6 : Hid (Below w.heap.size w w6) := HB5.out.trans B6; clear s6 B6))
      go_ret
      exact ⟨p6, c6, _, rfl, SV.mono HS6.out (fun _ _ h => h.elim), HK.out, HKl.out, HB6.out⟩
end Go.Proofs.YtpagnphabchfcaaGreat
