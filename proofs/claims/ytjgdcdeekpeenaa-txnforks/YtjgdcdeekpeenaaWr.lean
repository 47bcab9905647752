/- Writes: the keys in order, each once. -/
import Derived.Test.YtjgdcdeekpeenaaRa
import Derived.Test.YtjgdcdeekpeenaaShelf
import Derived.Sort.Walk0
namespace Go.Proofs.Ytjgdcdeekpeenaa
open Go.RowKit Go.Maps Go.Sort Go.Shelf
set_option maxRecDepth 100000
/-- slices.Sort at texts. -/
theorem sorts46 (m : Nat) : AnyZ.SortsIn Try.prog Try.sorted46_ren Fence.wide m :=
  ⟨fun blk off cap ss W hH hblk hsz => callsIn_wide.2 (AnyM.slices_Sort_string Try.sort54 blk off cap ss W hH hblk hsz),
   fun p cap W => callsIn_wide.2 (AnyM.slices_Sort_string_none Try.sort54 p cap W)⟩
theorem keys47 (mb : Option Nat) (W : World) : Calls Try.prog 47 #[.map mb] W fun e w' => e = .returned (.func (.func 55) #[] #[.pointer (some ⟨W.heap.size, 0, none⟩)]) ∧ w' = W.alloc (.cells #[.map mb] 62) :=
  (callsIn_wide (n := 5)).1 (AnyZ.keys_in Try.keys47 Fence.wide 5 trivial rfl mb W)
set_option maxHeartbeats 1000000 in
/-- slices.Sorted of a map's keys. -/
theorem sorted46 (b nn : Nat) (D0 : DataW Value) (w : World) (hown : w.ownsMap Try.prog 9 heldR b nn D0) (hmax : Maps.size D0 ≤ maxLen) (hbytes : Maps.size D0 * 16 ≤ 140737488355328) :
    Calls Try.prog 46 #[.func (.func 55) #[] #[.pointer (some ⟨w.heap.size, 0, none⟩)]] (w.alloc (.cells #[.map (some b)] 62)) fun e w' => ∃ (v : Value) (ss : List (List UInt8)), e = .returned v ∧ ss.Perm (strKeys D0) ∧
      w'.ownsRow (w.alloc (.cells #[.map (some b)] 62)).heap.size 9 1 v ss.length ((ss.mergeSort (fun x y => decide (x ≤ y))).map encStr) ∧ (v = .slice none 0 0 ↔ ss = []) ∧ Below (w.alloc (.cells #[.map (some b)] 62)).heap.size (w.alloc (.cells #[.map (some b)] 62)) w' := by
  have hbl := hown.lt
  have hseq : SeqGives Fence.wide 2 Try.prog 55 #[.pointer (some ⟨w.heap.size, 0, none⟩)] encStr (fun ss => ss.Perm (strKeys D0)) (Maps.size D0) (w.alloc (.cells #[.map (some b)] 62)) :=
    AnyZ.keys_gives (ρ := Try.keys47_ren) { Try.keys47 with } Fence.wide _ trivial rfl (by omega) w.heap.size b nn D0 _ (by simp) (by simp) (by
      obtain ⟨es, clock, hb, Ft, hs, hD⟩ := hown
      exact ⟨es, clock, (Below.heap_alloc _ _ b hbl).trans hb, Ft, hs, hD⟩)
  exact (callsIn_wide (n := 5)).1 (AnyZ.sorted_in Try.sorted46 Fence.wide 5 trivial trivial trivial trivial rfl (by omega) (sorts46 _) (enters_of Try.func54 (by kernel_rfl) rfl) 55 #[.pointer (some ⟨w.heap.size, 0, none⟩)] trivial (enters_of Try.func55 (by kernel_rfl) rfl) _ _ hmax hbytes _ hseq)
/-- The keys in order, each once. -/
structure SK (l : List Ky) (ks : List Ky) : Prop where
  up : l.Pairwise (· < ·)
  mem : ∀ x, x ∈ l ↔ x ∈ ks
theorem SK.nodup {l ks : List Ky} (h : SK l ks) : l.Nodup := h.up.imp fun hab e => by subst e; exact absurd hab (List.lt_irrefl _)
theorem SK.sorted {l ks : List Ky} (h : SK l ks) : l.mergeSort leB = l := by
  refine List.mergeSort_of_pairwise (h.up.imp fun {a b} hab => ?_)
  simp only [leB, decide_eq_true_eq]
  exact List.le_of_lt hab
theorem SK.perm {w : World} {k n : Nat} {l ks : List Ky} (h : SK l ks) (hown : w.ownsMap Try.prog 9 heldR k n (DT (kyE ks))) : l.Perm (strKeys (DT (kyE ks))) := by
  have hC : Collected (DT (kyE ks)) (fun _ => false) l := ⟨h.nodup, fun x => by rw [has_DT, fnd_kyE, h.mem x]; simp⟩
  exact hC.perm hown keyed9 Try.underlying9 (fun _ => rfl)
theorem et_cells (l : List ByteArray) : ET.cells l = l.map Value.string := by
  show l.flatMap (fun x => [Value.string x]) = _
  rw [List.map_eq_flatMap]
theorem lv_own {B : Nat} {w : World} {v : Value} {l : List ByteArray} {n : Nat} (h : w.ownsRow B 9 1 v n (l.map Value.string)) : LV ET w v l := by
  obtain ⟨h1, h2⟩ := h
  have hn : l.length = n := by simpa using h1
  have hc := et_cells l
  rcases h2 with ⟨rfl, rfl⟩ | ⟨g, cap, cur, rfl, _, h3, h4, h5, h6, h7⟩
  · exact ⟨none, 0, by rw [hn], by omega, fun h0 => by omega⟩
  · refine ⟨_, cap, by rw [hn], by omega, fun _ => ⟨g, 0, cur.toList, rfl, h3, fun j u hu => ?_⟩⟩
    rw [hc] at hu
    have hj := (List.getElem?_eq_some_iff.1 hu).1
    rw [← h7, List.getElem?_take, if_pos (by simp at hj; omega)] at hu
    rw [Nat.zero_add]
    exact hu
def WPost (w : World) (l : List ByteArray) (e : Ending) (w' : World) : Prop := ∃ v, e = .returned v ∧ LV ET w' v l ∧ Below w.heap.size w w'
theorem writes27_no {w : World} {B : Nat} {a : At} {M : Mg} (h : MM w B a M) (id : Int) (hn : errM M id ≠ 0) : Calls Try.prog 27 #[.pointer (some ⟨a.m, 0, none⟩), .int .i64 id] w (WPost w []) := by
  have k := opened38 h id
  generalize errM M id = n at *
  clear h
  simp only [hn, if_false] at k
  go_enter Try.func27, Try.ntmps27
  go_wp2_with (go_at_call 38; (with_reducible refine k.mono ?_); rintro e w1 ⟨rfl, hB⟩)
  go_ret
  exact ⟨_, rfl, LV.nil ET _ none 0, hB⟩
set_option maxHeartbeats 1000000 in
theorem writes27_yes {w : World} {B : Nat} {a : At} {M : Mg} (h : MM w B a M) {i : Nat} (hi : i < 4) {s : Sn} (hs : M.op i = some s) (hl : s.keys.length ≤ 100000) {l : List Ky} (hk : SK l s.keys) : Calls Try.prog 27 #[.pointer (some ⟨a.m, 0, none⟩), .int .i64 (i : Int)] w (WPost w (l.map ofL)) := by
  have k := opened38_yes h hi hs
  have HC : Hid (∀ W, Below w.heap.size w W → W.cell? ⟨a.s i, 1, none⟩ = some (.map (some (a.k i))) ∧ Calls Try.prog 46 #[.func (.func 55) #[] #[.pointer (some ⟨W.heap.size, 0, none⟩)]] (W.alloc (.cells #[.map (some (a.k i))] 62)) fun e w' => ∃ v, e = .returned v ∧ Hid (LV ET w' v (l.map ofL)) ∧ Hid (Below W.heap.size W w')) := fun W q => by
    have hown := (h.below q).km i hi s hs
    refine ⟨((h.below q).sb i hi s hs).cell 1, ?_⟩
    have hsz := hown.size_le
    refine (sorted46 (a.k i) _ _ W hown (by unfold maxLen; omega) (by omega)).mono ?_
    rintro e w' ⟨v, ss, rfl, hp, hrow, _, hb⟩
    have e1 : ss.mergeSort leB = l := by rw [mergeSort_of_perm (hp.trans (hk.perm hown).symm), hk.sorted]
    have hrow' : w'.ownsRow (W.alloc (.cells #[.map (some (a.k i))] 62)).heap.size 9 1 v ss.length ((l.map ofL).map Value.string) := by
      have e2 : (ss.mergeSort (fun x y => decide (x ≤ y))).map encStr = (l.map ofL).map Value.string := by
        rw [List.map_map]
        exact congrArg (List.map encStr) e1
      rw [← e2]
      exact hrow
    exact ⟨v, rfl, lv_own hrow', bmore (al _ _) hb⟩
  have HK : Hid (∀ W mb, Calls Try.prog 47 #[.map mb] W fun e w' => e = .returned (.func (.func 55) #[] #[.pointer (some ⟨W.heap.size, 0, none⟩)]) ∧ w' = W.alloc (.cells #[.map mb] 62)) := fun W mb => keys47 mb W
  clear h hs
  go_enter Try.func27, Try.ntmps27
  go_wp2_with (first
    | (go_at_call 38; (with_reducible refine k.mono ?_); rintro e w1 ⟨rfl, hB1⟩; obtain ⟨c1, k46⟩ := HC.out _ hB1; have k47 := HK.out w1 (some (a.k i)))
    | (go_at_call 47; (with_reducible refine k47.mono ?_); rintro e w2 ⟨rfl, rfl⟩)
    | (go_at_call 46; (with_reducible refine k46.mono ?_); rintro e w3 ⟨v, rfl, hv, hB3⟩))
  go_ret
  exact ⟨_, rfl, hv.out, bmore hB1 hB3.out⟩
end Go.Proofs.Ytjgdcdeekpeenaa
