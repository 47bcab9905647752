/- The document's land, Flush, Crash. -/
import Derived.Test.YtnganmekiloigaaRy
namespace Go.Proofs.Ytnganmekiloigaa
open Go.RowKit
set_option maxRecDepth 100000
variable {W : World} {r : Nat} {lv xv : Value} {D : Dk}

/-- The cells of sectors. -/
def cellsS (l : List Bs) : List Value := l.flatMap cellsB
theorem cellsS_one (l : List Bs) : ∀ u ∈ cellsS l, u.oneCell' = true := by
  intro u hu
  simp only [cellsS, List.mem_flatMap] at hu
  obtain ⟨x, _, h⟩ := hu
  exact cellsB_one _ u h
theorem cellsS_length : ∀ (l : List Bs), (∀ x ∈ l, x.length = 64) → (cellsS l).length = l.length * 64
  | [], _ => rfl
  | x :: l, h => by
    rw [show cellsS (x :: l) = cellsB x ++ cellsS l by simp [cellsS], List.length_append, cellsB_length, cellsS_length l (fun y hy => h y (by simp [hy])), h x (by simp), List.length_cons]
    omega
theorem cellsS_get : ∀ (l : List Bs), (∀ x ∈ l, x.length = 64) → ∀ i x, l[i]? = some x → ∀ j, j < 64 → (cellsS l)[i * 64 + j]? = (cellsB x)[j]?
  | [], _, i, x, h, _, _ => by simp at h
  | y :: l, h, i, x, hx, j, hj => by
    have hy : (cellsB y).length = 64 := by rw [cellsB_length]; exact h y (by simp)
    rw [show cellsS (y :: l) = cellsB y ++ cellsS l by simp [cellsS]]
    cases i with
    | zero =>
      simp at hx
      subst hx
      rw [Nat.zero_mul, Nat.zero_add, List.getElem?_append_left (by omega)]
    | succ i =>
      rw [List.getElem?_append_right (by omega), hy, show (i + 1) * 64 + j - 64 = i * 64 + j by omega]
      exact cellsS_get l (fun z hz => h z (by simp [hz])) i x (by simpa using hx) j hj
theorem Secs.flat {g : Nat} {l : List Bs} (h : Secs W g l) (h64 : ∀ x ∈ l, x.length = 64) : W.rangeAt g 0 (cellsS l) := fun j v hv => by
  have hj := (List.getElem?_eq_some_iff.1 hv).1
  rw [cellsS_length l h64] at hj
  obtain ⟨x, hx⟩ : ∃ x, l[j / 64]? = some x := ⟨_, List.getElem?_eq_getElem (by omega)⟩
  have hd : j / 64 * 64 + j % 64 = j := by omega
  have h1 := cellsS_get l h64 (j / 64) x hx (j % 64) (Nat.mod_lt _ (by decide))
  rw [hd, hv] at h1
  have := h.at' (j / 64) x hx (j % 64) v h1.symm
  rw [hd] at this
  rw [Nat.zero_add]
  exact this
theorem secs_own {B g cap : Nat} {l : List Bs} (h64 : ∀ x ∈ l, x.length = 64) (h : W.ownsRow B 90 64 (.slice (some ⟨g, 0, none⟩) l.length cap) l.length (cellsS l)) : Secs W g l := by
  have hc : ∀ j, j < l.length * 64 → W.cell? ⟨g, j, none⟩ = (cellsS l)[j]? := fun j hj => World.ownsRow.cellAt h j hj
  have hz : ∀ j, W.frozen? ⟨g, j, none⟩ = false := fun j => by
    rcases h.2 with ⟨h', _⟩ | ⟨g', cap', cur, h', _, hg, _⟩
    · cases h'
    · cases h'
      simp [World.frozen?, hg]
  refine ⟨fun i x hx j v hv => ?_, fun i hi j hj => ⟨?_, hz _⟩⟩
  · have hi := (List.getElem?_eq_some_iff.1 hx).1
    have hj := (List.getElem?_eq_some_iff.1 hv).1
    rw [cellsB_length, h64 x (List.mem_of_getElem? hx)] at hj
    rw [hc _ (by omega), cellsS_get l h64 i x hx j hj]
    exact hv
  · rw [hc _ (by omega), List.getElem?_eq_getElem (by rw [cellsS_length l h64]; omega)]
    rfl
theorem RD.sets {g n c : Nat} (h : RD W r (.slice (some ⟨g, 0, none⟩) n c) xv D) (hx : xv.ownBlock ≠ some g) {q : Nat} {b : Bs} (hq : q < D.secs.length) (hb : b.length = 64) : RD (W.setCells g (q * 64) (cellsB b)) r (.slice (some ⟨g, 0, none⟩) n c) xv { D with secs := D.secs.set q b } := by
  have hk : ∀ k, k ≠ g → (W.setCells g (q * 64) (cellsB b)).heap[k]? = W.heap[k]? := fun k hk => heap_setCells g _ _ _ k hk
  obtain ⟨L, hdx, hL⟩ := h.dx
  obtain ⟨g', c', e, h1, h2, h3⟩ := h.secs
  cases e
  refine ⟨⟨L, hdx.block (hk r h3.symm), hL⟩, ⟨g, c, by simp, h1.set h.ok.secs hq hb, by rw [size_setCells]; exact h2, h3⟩, h.wait.block (by rw [size_setCells]; exact Nat.le_refl _) (fun k e => hk k (fun e' => hx (by rw [e, e']))), ⟨fun x hx => ?_, fun x hx => ?_, h.ok.left⟩⟩
  · rcases List.mem_or_eq_of_mem_set hx with hx | rfl
    · exact h.ok.secs x hx
    · exact hb
  · simpa using h.ok.wait x hx
theorem RD.clear (h : RD W r lv xv D) : RD (W.setCell ⟨r, 1, none⟩ (.slice none 0 0)) r lv (.slice none 0 0) { D with wait := [] } := by
  have hk : ∀ k v, k ≠ r → (W.setCell ⟨r, 1, none⟩ v).heap[k]? = W.heap[k]? := fun k v hk => Below.heap_setCell _ _ _ _ hk
  obtain ⟨L, hdx, hL⟩ := h.dx
  obtain ⟨g, c, rfl, h1, h2, h3⟩ := h.secs
  exact ⟨⟨L, hdx.set1 _, hL⟩, ⟨g, c, rfl, h1.block (hk g _ h3), by simpa [World.setCell] using h2, h3⟩, .inl ⟨rfl, rfl⟩, ⟨h.ok.secs, fun x hx => by simp at hx, h.ok.left⟩⟩
/-- The sectors are laid anew. -/
theorem RD.anew {w : World} {g cap : Nat} (h : RD W r lv xv D) (hB : Below W.heap.size W w) (hg : W.heap.size ≤ g) (hs : Secs w g D.secs) (hgl : g < w.heap.size) : RD (w.setCell ⟨r, 0, none⟩ (.slice (some ⟨g, 0, none⟩) D.secs.length cap)) r (.slice (some ⟨g, 0, none⟩) D.secs.length cap) xv D := by
  have hk : ∀ k v, k ≠ r → (w.setCell ⟨r, 0, none⟩ v).heap[k]? = w.heap[k]? := fun k v hk => Below.heap_setCell _ _ _ _ hk
  have hr := h.rlt
  have h2 := h.below hB
  obtain ⟨L, hdx, hL⟩ := h2.dx
  refine ⟨⟨L, hdx.set0 _, hL⟩, ⟨g, cap, rfl, hs.block (hk g _ (by omega)), by simpa [World.setCell] using hgl, by omega⟩, h2.wait.block (by simp [World.setCell]) (fun k e => hk k _ (fun e' => ?_)), h2.ok⟩
  rcases h2.wait with ⟨rfl, _⟩ | ⟨g', c', rfl, _, _, _, hn⟩
  · cases e
  · cases e
    exact hn e'
theorem XRow.at' {l : List (Nat × Bs)} (h : XRow W r xv l) (h64 : ∀ x ∈ l, x.2.length = 64) {i : Nat} {x : Nat × Bs} (hx : l[i]? = some x) : ∃ g c, xv = .slice (some ⟨g, 0, none⟩) l.length c ∧ W.rangeAt g (i * 65) (cellW x.1 x.2) := by
  have hil := (List.getElem?_eq_some_iff.1 hx).1
  have hc : ∀ (l : List (Nat × Bs)) (i : Nat) (x : Nat × Bs), (∀ x ∈ l, x.2.length = 64) → l[i]? = some x → ∀ j v, (cellW x.1 x.2)[j]? = some v → (cellsW l)[i * 65 + j]? = some v := by
    intro l
    induction l with
    | nil => intro i x _ hx; simp at hx
    | cons y l ih =>
      intro i x h64 hx j v hv
      have hy : (cellW y.1 y.2).length = 65 := cellW_length (h64 y (by simp))
      rw [show cellsW (y :: l) = cellW y.1 y.2 ++ cellsW l by simp [cellsW, cellW]]
      cases i with
      | zero =>
        simp at hx
        subst hx
        rw [Nat.zero_mul, Nat.zero_add, List.getElem?_append_left (List.getElem?_eq_some_iff.1 hv).1]
        exact hv
      | succ i =>
        rw [List.getElem?_append_right (by rw [hy]; omega), hy, show (i + 1) * 65 + j - 65 = i * 65 + j by omega]
        exact ih i x (fun z hz => h64 z (by simp [hz])) (by simpa using hx) j v hv
  rcases h with ⟨_, rfl⟩ | ⟨g, c, e, _, hr, _, _⟩
  · simp at hx
  · refine ⟨g, c, e, fun j v hv => ?_⟩
    have := hr (i * 65 + j) v (hc l i x h64 hx j v hv)
    rwa [Nat.zero_add] at this
theorem sl5 {w : World} {r g x o o' m : Nat} {v0 v1 v2 : Value} {cs vs : List Value} (h : w.cell? ⟨r, 0, none⟩ = some v0 ∧ w.cell? ⟨r, 1, none⟩ = some v1 ∧ w.cell? ⟨x, m, none⟩ = some v2 ∧ w.rangeAt x (m + 1) cs ∧ w.there g o 64) (hd : r ≠ g) (hb : x ≠ g) :
    (w.setCells g o' vs).cell? ⟨r, 0, none⟩ = some v0 ∧ (w.setCells g o' vs).cell? ⟨r, 1, none⟩ = some v1 ∧ (w.setCells g o' vs).cell? ⟨x, m, none⟩ = some v2 ∧ (w.setCells g o' vs).rangeAt x (m + 1) cs ∧ (w.setCells g o' vs).there g o 64 :=
  ⟨(World.cell?_of_block (a := ⟨r, 0, none⟩) (heap_setCells g _ _ _ r hd)).trans h.1, (World.cell?_of_block (a := ⟨r, 1, none⟩) (heap_setCells g _ _ _ r hd)).trans h.2.1, (World.cell?_of_block (a := ⟨x, m, none⟩) (heap_setCells g _ _ _ x hb)).trans h.2.2.1, World.rangeAt_setCells_apart h.2.2.2.1 _ _ _ (.inl hb), World.there_setCells h.2.2.2.2 _ _ _⟩

set_option maxHeartbeats 4000000 in
theorem land88 (h : RD W r lv xv D) (hpos : 0 < D.secs.length) (hsl : D.secs.length ≤ 128) (hw : D.wait.length ≤ 1000) (v : Value) (kl : List Bool) (hv : KB W v kl) (hvf : ∀ a n c, v = .slice (some a) n c → 0 < kl.length → a.block ≠ r) (all : Bool) :
    Calls Try.prog 88 #[.pointer (some ⟨r, 0, none⟩), v, .bool all] W fun e w' => e = .returned (.tuple #[]) ∧ ∃ lv', RD w' r lv' (.slice none 0 0) { D with secs := land (fun k => all || kl.getD k false) 0 D.wait D.secs, wait := [] } ∧ Keep (fun k => k = r) W w' ∧ ∀ k, lv'.ownBlock = some k → W.heap.size ≤ k := by
  obtain ⟨ka, kc, rfl, hkf⟩ := hv.form
  obtain ⟨L, hx, hL⟩ := h.dx
  obtain ⟨lg, lc, rfl, hlS, hlg, hlr⟩ := h.secs
  obtain ⟨N, hN⟩ : ∃ N, D.wait.length = N := ⟨_, rfl⟩
  obtain ⟨S, hS⟩ : ∃ S, D.secs.length = S := ⟨_, rfl⟩
  obtain ⟨xa, xc, hxe⟩ : ∃ a c, xv = .slice a N c := by
    rcases h.wait with ⟨rfl, e⟩ | ⟨g, c, rfl, _⟩
    · exact ⟨none, 0, by rw [← hN, e]; rfl⟩
    · exact ⟨_, c, by rw [hN]⟩
  obtain ⟨kf, hkf'⟩ : ∃ kf : Nat → Bool, (fun k => all || kl.getD k false) = kf := ⟨_, rfl⟩
  have HN : Hid (D.wait.length = N) := hN
  have HS : Hid (D.secs.length = S) := hS
  have HK2 : Hid (∀ i, i < kl.length → ∃ b o, ka = some ⟨b, o, none⟩ ∧ W.cell? ⟨b, o + i, none⟩ = some (.bool (kl.getD i false)) ∧ b ≠ r) := fun i hi => by
    obtain ⟨b, o, e, h1⟩ := hkf i hi
    exact ⟨b, o, e, h1, hvf ⟨b, o, none⟩ kl.length kc (by rw [e]) (by omega)⟩
  have HK3 : Hid (∀ i, kl.length ≤ i → kf i = all) := fun i hi => by rw [← hkf']; simp [List.getElem?_eq_none hi]
  have HK4 : Hid (all = true → ∀ i, kf i = true) := fun e i => by rw [← hkf', e]; rfl
  have HK5 : Hid (all = false → ∀ i, kf i = kl.getD i false) := fun e i => by rw [← hkf', e]; rfl
  have HCr : Hid (∀ m, D.wait.length ≤ m → ({ D.landed kf m with wait := [] } : Dk) = { D with secs := land (fun k => all || kl.getD k false) 0 D.wait D.secs, wait := [] }) := fun m hm => by rw [landed_all _ _ hm, ← hkf']
  generalize ({ D with secs := land (fun k => all || kl.getD k false) 0 D.wait D.secs, wait := [] } : Dk) = Dc at *
  have H0 : Hid (RD W r (.slice (some ⟨lg, 0, none⟩) D.secs.length lc) xv D) := h
  have hflat := hlS.flat h.ok.secs
  have hfl := cellsS_length D.secs h.ok.secs
  have hfo := cellsS_one D.secs
  have HO : Hid (∀ (w : World) B g cap, w.ownsRow B 90 64 (.slice (some ⟨g, 0, none⟩) S cap) S (cellsS D.secs) → Secs w g D.secs) := fun w B g cap ho => by subst hS; exact secs_own h.ok.secs ho
  obtain ⟨i0, hi0, hz3, hz4, hz5⟩ := info_parts info90z
  have x0 := hx.c0
  have z0 := hx.z0
  have x1 := hx.c1
  have hrl := h.rlt
  have HX : Hid (∀ k, xv.ownBlock = some k → k < W.heap.size) := fun k hk => h.foot_lt k (.inr (.inr hk))
  rw [hS] at x0 hfl hpos hsl
  rw [hN] at hw
  generalize cellsS D.secs = cS at *
  generalize hKN : kl.length = KN at *
  subst hxe
  clear hv hkf hvf hL hx hlS h hkf' hN hKN
  have hnews : ∀ j u, cS[j]? = some u → (W.alloc (.cells #[] 90)).cell? ((⟨lg, 0, none⟩ : Addr).add j) = some u := fun j u hu => by
    rw [Addr.add_mid]
    exact ((al W _).cell (p := ⟨lg, 0 + j, none⟩) hlg).trans (hflat j u hu)
  have hown0 : (W.alloc (.cells #[] 90)).ownsRow W.heap.size 90 64 (.slice (some ⟨W.heap.size, 0, none⟩) 0 0) 0 [] := World.ownsRow_lit W #[] 0 (Nat.le_refl _) (by simp [maxLen]) (by simp)
  have hm1 : 0 + S ≤ maxLen := by unfold maxLen; omega
  have hm2 : (0 + S) * 64 ≤ 140737488355328 := by omega
  have hm3 : W.heap.size ≤ (W.alloc (.cells #[] 90)).heap.size := by simp
  have hz6 : (Value.agg (cellsB Z64).toArray).cells.size = 64 := by kernel_rfl
  generalize (Value.agg (cellsB Z64).toArray) = zz at *
  go_enter Try.func88, Try.ntmps88
  go_wp2_with (skip; (refine wpList_append_lies (W.alloc (.cells #[] 90)) (by rfl) (.tmp 8) (.tmp 12) 98 (by rfl) W.heap.size 90 i0 zz 64 64 Try.underlying98 hi0 hz3 hz4 hz5 hz6 (by decide) (.slice (some ⟨W.heap.size, 0, none⟩) 0 0) 0 [] (by rfl) hown0 ⟨lg, 0, none⟩ S lc cS (by rfl) hfl hnews hfo hpos hm1 hm2 hm3 _ rfl ?_; intro g cap w3 hown hgr _ hlt3; simp only [Nat.zero_add, List.nil_append] at hown; have hB3 : Below W.heap.size W w3 := below_grown (al W _) hgr (Nat.le_refl _); have c0 := (hB3.cell (p := ⟨r, 0, none⟩) hrl).trans x0; have f0 := (World.frozen?_of_block (a := ⟨r, 0, none⟩) (hB3.block r hrl)).trans z0; clear hgr))
  have hP3 := H0.out.anew (cap := cap) hB3 (World.ownsRow.lt hown g rfl).1 (HO.out _ _ _ _ hown) hlt3
  rw [HS.out] at hP3
  have HP3 : Hid (RD (w3.setCell ⟨r, 0, none⟩ (.slice (some ⟨g, 0, none⟩) S cap)) r (.slice (some ⟨g, 0, none⟩) S cap) (.slice xa N xc) D) := hP3
  have hgW : W.heap.size ≤ g := (World.ownsRow.lt hown g rfl).1
  have hK3 : Keep (fun k => k = r) W (w3.setCell ⟨r, 0, none⟩ (.slice (some ⟨g, 0, none⟩) S cap)) := (Keep.of (F := fun k => k = r) hB3).kr 0 _
  clear hP3 hown c0 f0 hnews hown0 hm1 hm2 hm3 hfl hfo hflat HO hi0 hz3 hz4 hz5 hz6
  go_loopw [6] (fun p wr => ∃ m : Nat, m ≤ N ∧ p = .int .i64 (m : Int) ∧ Hid (RD wr r (.slice (some ⟨g, 0, none⟩) S cap) (.slice xa N xc) (D.landed kf m)) ∧ Keep (fun k => k = r) W wr) (fun p _ => N - (intOf p).toNat)
  case atStart => exact ⟨0, by omega, rfl, by rw [landed_zero]; exact HP3, hK3⟩
  case round =>
    obtain ⟨m, hm, rfl, hP, hK⟩ := hrel
    obtain ⟨Lr, hdr, _⟩ := hP.out.dx
    have c1 := hdr.c1
    by_cases hlt : m < N
    · have hlt1 : (m : Int) < (N : Int) := by omega
      obtain ⟨⟨q, b⟩, hx⟩ : ∃ x, D.wait[m]? = some x := ⟨_, List.getElem?_eq_getElem (by rw [HN.out]; exact hlt)⟩
      obtain ⟨hb64, hqm⟩ : b.length = 64 ∧ q < (D.landed kf m).secs.length := hP.out.ok.wait (q, b) (List.mem_of_getElem? hx)
      have hqS : q < S := by rw [landed_length, HS.out] at hqm; exact hqm
      have HL : Hid (D.landed kf (m + 1) = if kf m then { D.landed kf m with secs := (D.landed kf m).secs.set q b } else D.landed kf m) := landed_succ hx
      obtain ⟨x, xc', he, hrg⟩ := hP.out.wait.at' (fun x hx => (hP.out.ok.wait x hx).1) hx
      have hxa : xa = some ⟨x, 0, none⟩ := by
        simp only [Value.slice.injEq] at he
        exact he.1
      subst hxa
      have hxl := HX.out x rfl
      have hxg : x ≠ g := by omega
      have hrg' : r ≠ g := by omega
      have HQ : Hid (wr.drew.cell? ⟨x, m * 65, none⟩ = some (.int .i64 (q : Int)) ∧ wr.drew.rangeAt x (m * 65 + 1) (cellsB b)) := by
        have hB := (Below.refl wr.heap.size wr).drew
        refine ⟨?_, fun j v hv => ?_⟩
        · have := hrg 0 _ rfl
          simpa using this
        · have := hrg (j + 1) v (by simpa [cellW] using hv)
          rw [show m * 65 + 1 + j = m * 65 + (j + 1) by omega]
          simpa using this
      generalize D.landed kf m = Dm at *
      clear he hx hrg
      have hrg := hrg'
      cases hall : all
      · have hk5 := HK5.out hall m
        by_cases hmk : m < KN
        · have hmk1 : (m : Int) < (KN : Int) := by omega
          obtain ⟨kb, ko, hka, hkc, hkF⟩ := HK2.out m hmk
          subst hka
          have hkl := World.block_lt_of_cell? _ _ hkc
          have hkc' : wr.cell? ⟨kb, ko + m, none⟩ = some (.bool (kl.getD m false)) := (World.cell?_of_block (a := ⟨kb, ko + m, none⟩) (hK.block kb hkl hkF)).trans hkc
          rw [hk5] at HL
          cases hkp : kl.getD m false
          · rw [hkp] at hkc' HL
            clear hkp hkc hk5
            go_wp2
            go_roundw
            case rel => exact ⟨m + 1, by omega, by simp, by rw [HL.out]; exact hP.out, hK⟩
            case measure => simp only [intOf]; omega
          · rw [hkp] at hkc' HL
            clear hkp hkc hk5
            go_wp2
            have hP5 : RD wr.drew r (.slice (some ⟨g, 0, none⟩) S cap) (.slice (some ⟨x, 0, none⟩) N xc) Dm := hP.out.below (Below.refl _ _).drew
            have hq1 : (0 : Int) ≤ (q : Int) := by omega
            have hq2 : (q : Int) < (S : Int) := by omega
            have hbl : (cellsB b).length = 64 := by rw [cellsB_length, hb64]
            have hbi : (Try.prog.info? 90).map (·.size) = some (cellsB b).length := by rw [hbl]; exact info90s
            have hbo := cellsB_one b
            have hu90 := Try.underlying90
            have hS0 : wr.drew.cell? ⟨r, 0, none⟩ = some (.slice (some ⟨g, 0, none⟩) S cap) ∧ wr.drew.cell? ⟨r, 1, none⟩ = some (.slice (some ⟨x, 0, none⟩) N xc) ∧ wr.drew.cell? ⟨x, m * 65, none⟩ = some (.int .i64 (q : Int)) ∧ wr.drew.rangeAt x (m * 65 + 1) (cellsB b) ∧ wr.drew.there g (q * 64) 64 := by
              obtain ⟨L5, hd5, _⟩ := hP5.dx
              obtain ⟨g', c', e', h5, _, _⟩ := hP5.secs
              cases e'
              exact ⟨hd5.c0, hd5.c1, HQ.out.1, HQ.out.2, h5.free q hqm⟩
            go_region_held3 (fun w' => w'.cell? ⟨r, 0, none⟩ = some (.slice (some ⟨g, 0, none⟩) S cap) ∧ w'.cell? ⟨r, 1, none⟩ = some (.slice (some ⟨x, 0, none⟩) N xc) ∧ w'.cell? ⟨x, m * 65, none⟩ = some (.int .i64 (q : Int)) ∧ w'.rangeAt x (m * 65 + 1) (cellsB b) ∧ w'.there g (q * 64) 64) (first | exact hS0 | exact sl5 (by assumption) hrg hxg) (skip)
            have hP6 := hP5.sets (by simp only [Value.ownBlock]; exact fun e => hxg (by cases e; rfl)) hqm hb64
            go_wp2
            go_roundw
            case rel => exact ⟨m + 1, by omega, by simp, by rw [HL.out]; exact hP6, ((hK.drew).sets (.inl hgW) _ _)⟩
            case measure => simp only [intOf]; omega
        · have hmk1 : ¬ (m : Int) < (KN : Int) := by omega
          rw [HK3.out m (by omega), hall] at HL
          clear hk5
          go_wp2
          go_roundw
          case rel => exact ⟨m + 1, by omega, by simp, by rw [HL.out]; exact hP.out, hK⟩
          case measure => simp only [intOf]; omega
      · rw [HK4.out hall m] at HL
        go_wp2
        have hP5 : RD wr.drew r (.slice (some ⟨g, 0, none⟩) S cap) (.slice (some ⟨x, 0, none⟩) N xc) Dm := hP.out.below (Below.refl _ _).drew
        have hq1 : (0 : Int) ≤ (q : Int) := by omega
        have hq2 : (q : Int) < (S : Int) := by omega
        have hbl : (cellsB b).length = 64 := by rw [cellsB_length, hb64]
        have hbi : (Try.prog.info? 90).map (·.size) = some (cellsB b).length := by rw [hbl]; exact info90s
        have hbo := cellsB_one b
        have hu90 := Try.underlying90
        have hS0 : wr.drew.cell? ⟨r, 0, none⟩ = some (.slice (some ⟨g, 0, none⟩) S cap) ∧ wr.drew.cell? ⟨r, 1, none⟩ = some (.slice (some ⟨x, 0, none⟩) N xc) ∧ wr.drew.cell? ⟨x, m * 65, none⟩ = some (.int .i64 (q : Int)) ∧ wr.drew.rangeAt x (m * 65 + 1) (cellsB b) ∧ wr.drew.there g (q * 64) 64 := by
          obtain ⟨L5, hd5, _⟩ := hP5.dx
          obtain ⟨g', c', e', h5, _, _⟩ := hP5.secs
          cases e'
          exact ⟨hd5.c0, hd5.c1, HQ.out.1, HQ.out.2, h5.free q hqm⟩
        go_region_held3 (fun w' => w'.cell? ⟨r, 0, none⟩ = some (.slice (some ⟨g, 0, none⟩) S cap) ∧ w'.cell? ⟨r, 1, none⟩ = some (.slice (some ⟨x, 0, none⟩) N xc) ∧ w'.cell? ⟨x, m * 65, none⟩ = some (.int .i64 (q : Int)) ∧ w'.rangeAt x (m * 65 + 1) (cellsB b) ∧ w'.there g (q * 64) 64) (first | exact hS0 | exact sl5 (by assumption) hrg hxg) (skip)
        have hP6 := hP5.sets (by simp only [Value.ownBlock]; exact fun e => hxg (by cases e; rfl)) hqm hb64
        go_wp2
        go_roundw
        case rel => exact ⟨m + 1, by omega, by simp, by rw [HL.out]; exact hP6, ((hK.drew).sets (.inl hgW) _ _)⟩
        case measure => simp only [intOf]; omega
    · have hlt1 : ¬ (m : Int) < (N : Int) := by omega
      obtain rfl : m = N := by omega
      have z1 := hdr.z1
      have HP4 := hP.out.clear
      rw [HCr.out m (Nat.le_of_eq HN.out)] at HP4
      go_wp2
      go_end0
      exact ⟨rfl, _, HP4, hK.kr 1 _, fun k hk => by cases hk; exact hgW⟩
end Go.Proofs.Ytnganmekiloigaa
