/- From what a row says of the world when the call begins (the eight listed variables as they are laid; the variables' types) to what the walks ask; and a world in which it is so. -/
import Derived.Test.YthebpkcnhghofaaDoorVal
import Derived.Test.YthebpkcnhghofaaDoorHlp
import Derived.Test.YthebpkcnhghofaaDoorCards
import Derived.Test.YthebpkcnhghofaaDoorTie
import Derived.Lib.LaidIn
import Derived.Lib.LaidU8T
import Derived.Deep.DeepHandedRow
import Derived.Deep.DeepWitnessRowRef
import Derived.ProofKit
import Derived.SizedLaws
import Derived.PinnedBridge
import Derived.Shelf.Vars
import Derived.LaidMore
import Derived.LaidLaws
import Derived.OpenShut
import Derived.Lib.SmallJoins
namespace Go.Proofs.YthebpkcnhghofaaDoor
open Go.ChangeShapes Go.WideShapes Go.ChangeAt Go.RowKit Go.Lib Go.Joins

theorem own : ownKnob Tryd.prog.godebug = none := by kernel_rfl
theorem laidOut : laidOutB Tryd.prog = true := by kernel_rfl

/-- The listed variables, as the rows list them. -/
def tabs7 : List (String × DataW Unit) := Rows.lexSignsRow.laid
theorem accept_eq : (Rows.laid_unicode_utf8_acceptRanges : DataW Unit) = acceptData := by kernel_rfl
theorem first_eq : Rows.laid_unicode_utf8_first = firstData := Pinned.utf8First_eq

/-- A listed variable of an interface's type that reads as a value in one holds one. -/
theorem iface_cell {w : World} {n nm : String} {d : DataW Unit} {g : Nat} (hg : Tryd.prog.globalNamed n = some g) (ht : (Tryd.prog.globals[g]?).map (·.type) = some 66) (h : VarReads Tryd.prog w n (.iface nm d)) :
    ∃ ev, w.cell? ⟨g, 0, none⟩ = some ev ∧ (ev = .nilIface ∨ ∃ te pe, ev = .iface te pe) := by
  obtain ⟨g', t, cs, fuel, p, h1, h2, h3, h4⟩ := h
  obtain rfl := Option.some.inj (hg.symm.trans h1)
  obtain rfl := Option.some.inj (ht.symm.trans h2)
  obtain ⟨f1, u, v, hcs, _, _⟩ := iface_of_trod Tryd.underlying66 h4
  have := World.var?_cell hg h3 0
  refine ⟨.iface u v, ?_, .inr ⟨u, v, rfl⟩⟩
  obtain ⟨l⟩ := cs
  simp only at hcs
  subst hcs
  simpa using this

theorem sign_one {l : List UInt8} {v : Value} {s' : ByteArray} (hj : some (Value.string ⟨l.toArray⟩) = some v) (hd : some (DataW.lit (H := Unit) (.string l)) = some (.lit (.string s'.data.toList))) : v = .string s' := by
  simp only [Option.some.injEq, DataW.lit.injEq, Lit.string.injEq] at hj hd
  subst hj
  subst hd
  rw [str_of_list]
/-- The signs, as they are laid. -/
theorem signs_cells {w : World} (h : VarReads Tryd.prog w "regesta/lex.signs" Rows.laid_regesta_lex_signs) : ∀ j v, signsC[j]? = some v → w.cell? ⟨0, j, none⟩ = some v := by
  intro j v hj
  obtain ⟨g, t, cs, fuel, p, hg, hty, hvar, hd⟩ := h
  obtain rfl := Option.some.inj ((show Tryd.prog.globalNamed "regesta/lex.signs" = some 0 by kernel_rfl).symm.trans hg)
  obtain rfl := Option.some.inj ((show (Tryd.prog.globals[0]?).map (·.type) = some 41 by kernel_rfl).symm.trans hty)
  have hjl : j < 10 := (List.getElem?_eq_some_iff.1 hj).1
  obtain ⟨fuel', d, q, hdi, he⟩ := array_elem Tryd.underlying41 hd j hjl
  rw [show Tryd.prog.cellsOf 9 = 1 by kernel_rfl] at he
  obtain ⟨s', h1, h2, _⟩ := DataW.trod_string Tryd.underlying9 he
  have hdd : d = .lit (.string s'.data.toList) := congrArg Prod.fst h2
  have e0 := congrArg (·[0]?) h1
  simp only [List.getElem?_take, List.getElem?_drop, Nat.mul_one] at e0
  rw [World.var?_cell hg hvar j, ← Array.getElem?_toList]
  have hv : v = .string s' := by
    subst hdd
    match j, hjl, hj, hdi with
    | 0, _, hj, hdi => exact sign_one hj hdi
    | 1, _, hj, hdi => exact sign_one hj hdi
    | 2, _, hj, hdi => exact sign_one hj hdi
    | 3, _, hj, hdi => exact sign_one hj hdi
    | 4, _, hj, hdi => exact sign_one hj hdi
    | 5, _, hj, hdi => exact sign_one hj hdi
    | 6, _, hj, hdi => exact sign_one hj hdi
    | 7, _, hj, hdi => exact sign_one hj hdi
    | 8, _, hj, hdi => exact sign_one hj hdi
    | 9, _, hj, hdi => exact sign_one hj hdi
  rw [hv]
  simpa using e0

theorem good_of {W : World} (hL : laidMetH Tryd.prog tabs7 W) (hS : W.ShapedOpen Tryd.prog) : Good W := by
  rw [MakeChecks.laidMetH_plain _ _ _ (by kernel_rfl)] at hL
  refine ⟨?_, ?_, ?_, ?_, ?_⟩
  · have h4 := Lib.laidMet.reads hL (n := "unicode/utf8.acceptRanges") (.tail _ (.tail _ (.tail _ (.head _))))
    have h3 := Lib.laidMet.reads hL (n := "unicode/utf8.first") (.tail _ (.tail _ (.tail _ (.tail _ (.tail _ (.tail _ (.tail _ (.head _))))))))
    rw [accept_eq] at h4
    rw [first_eq] at h3
    exact utf8Tabs_of_readsT (U8Types.of196 Tryd.lays196) ⟨by kernel_rfl, by kernel_rfl, by kernel_rfl, by kernel_rfl, by kernel_rfl, by kernel_rfl, by kernel_rfl⟩ h3 h4
  · exact cell_of_shapedOpen_int (g := 5) (t := 3) (zero := #[.int .i64 0]) hS (of_decide_eq_true (by kernel_rfl)) (by kernel_rfl) rfl (by kernel_rfl) (by kernel_rfl) Tryd.underlying3
  · exact iface_cell (g := 3) (by kernel_rfl) (by kernel_rfl) (Lib.laidMet.reads hL (n := "strconv.ErrSyntax") (.tail _ (.tail _ (.tail _ (.tail _ (.tail _ (.head _)))))))
  · exact iface_cell (g := 4) (by kernel_rfl) (by kernel_rfl) (Lib.laidMet.reads hL (n := "strconv.ErrRange") (.tail _ (.tail _ (.tail _ (.tail _ (.head _))))))
  · exact signs_cells (Lib.laidMet.reads hL (n := "regesta/lex.signs") (.tail _ (.tail _ (.tail _ (.tail _ (.tail _ (.tail _ (.head _))))))))

/-- A table's cells. -/
def tabCells : DataW Unit → List Value
  | .agg l => l.flatMap fun
    | .lit (.int k n) => [.int k n]
    | .agg m => m.flatMap fun
      | .lit (.int k n) => [.int k n]
      | _ => []
    | _ => []
  | _ => []

/-- The cells of texts. -/
def strCellsOf : DataW Unit → List Value
  | .agg l => l.flatMap fun
    | .lit (.string b) => [.string ⟨b.toArray⟩]
    | _ => []
  | _ => []
/-- A world with the listed variables laid. -/
def laidIn (w : World) : World :=
  let put := fun (h : Array Obj) (g : Nat) (cs : List Value) => h.modify g fun
    | .cells _ t frozen => .cells cs.toArray t frozen
    | o => o
  { w with heap := put (put (put (put (put (put (put (put w.heap 0 (strCellsOf Rows.laid_regesta_lex_signs)) 1 (Lib.firstTab.map fun z => Value.int .u8 z)) 2 (tabCells Rows.laid_unicode_utf8_acceptRanges))
      3 [.iface 107 (.pointer (some ⟨14, 0, none⟩))]) 4 [.iface 107 (.pointer (some ⟨15, 0, none⟩))]) 6 (tabCells Rows.laid_internal_strconv_uint64pow10)) 7 (tabCells Rows.laid_math_bits_deBruijn32tab)) 8 (tabCells Rows.laid_math_bits_deBruijn64tab) }
theorem laid_met (os : Os) (args : Array Value) : laidMetH Tryd.prog tabs7 ((laidIn (World.holding Tryd.prog os ⟨#[.cells #[.string ⟨#[105, 110, 118, 97, 108, 105, 100, 32, 115, 121, 110, 116, 97, 120]⟩] 109, .cells #[.string ⟨#[118, 97, 108, 117, 101, 32, 111, 117, 116, 32, 111, 102, 32, 114, 97, 110, 103, 101]⟩] 109], #[], []⟩)).forCall (fun _ _ => 0) ⟨#[], args, []⟩).memory := by
  rw [MakeChecks.laidMetH_plain _ _ _ (by kernel_rfl)]
  exact (LaidIn.of_run (l := tabs7) [0, 1, 2, 3, 4, 6, 7, 8, 14, 15] 8 (by kernel_rfl) (by kernel_rfl) (by kernel_rfl) (by kernel_rfl)).met

end Go.Proofs.YthebpkcnhghofaaDoor
