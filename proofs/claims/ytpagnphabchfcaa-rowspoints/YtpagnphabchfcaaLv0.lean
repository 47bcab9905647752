/- live's rows, by plain data. -/
import Derived.Test.YtpagnphabchfcaaRb
import Derived.Test.YtpagnphabchfcaaPo
import Derived.Test.YtpagnphabchfcaaSt
namespace Go.Proofs.Ytpagnphabchfcaa
open Go.RowKit Go.Shelf
set_option maxRecDepth 100000
def one : List Vt := [(1, 1, ⟨#[]⟩)]
theorem cmp_one (f t f' t' : Int) : cmpR (one, f, t) (one, f', t') = lexP Lib.compareInt Lib.compareInt (f, t) (f', t') := by
  unfold cmpR
  have h : cmpL one one = 0 := (ordL.eq _ _).2 rfl
  simp [lexP, h]
theorem sort_live : sortR [(one, 3, 5), (one, 0, 3)] = [(one, 0, 3), (one, 3, 5)] := by
  refine (sortR_of ?_ (List.Perm.swap _ _ _)).symm
  unfold Rise
  refine List.pairwise_cons.2 ⟨fun x hx => ?_, List.pairwise_singleton _ _⟩
  simp only [List.mem_singleton] at hx
  subst hx
  rw [cmp_one]
  decide
theorem sort_one (r : Rw) : sortR [r] = [r] := by simp [sortR]
theorem join_live : joinS [(0, 3), (3, 5)] = [(0, 5)] := by
  refine (joinS_eq ?_ ?_).symm
  · refine ⟨fun x hx => ?_, List.pairwise_singleton _ _⟩
    simp only [List.mem_singleton] at hx
    subst hx
    decide
  · intro p
    unfold Sp.Has Sp.Pt Sp.rights
    rw [show ([(0, 3), (3, 5)] : List (Int × Int)).filter (fun x => Sp.rightB x.1 x.2) = [(0, 3), (3, 5)] by decide]
    constructor
    · rintro ⟨x, hx, h1, h2⟩
      simp only [List.mem_singleton] at hx
      subst hx
      simp only at h1 h2
      by_cases h : p < 3
      · exact ⟨(0, 3), by simp, h1, h⟩
      · exact ⟨(3, 5), by simp, by simp; omega, h2⟩
    · rintro ⟨x, hx, h1, h2⟩
      simp only [List.mem_cons, List.not_mem_nil, or_false] at hx
      refine ⟨(0, 5), by simp, ?_⟩
      rcases hx with rfl | rfl <;> simp only at h1 h2 ⊢ <;> omega
theorem cuts_two : cuts [one, one] = [(0, 2)] := by
  simp [cuts, cutsF, endF]
theorem cuts_one : cuts [one] = [(0, 1)] := by
  simp [cuts, cutsF, endF]
theorem canon_live : canonR [(one, 3, 5), (one, 0, 3)] = [(one, 0, 5)] := by
  unfold canonR
  rw [sort_live]
  simp only [List.map_cons, List.map_nil, cuts_two, canonG, List.flatMap_cons, List.flatMap_nil, List.append_nil, canonX, run, List.drop_zero, List.take, Nat.sub_zero, join_live]
  rfl
theorem at_live : (atR [(one, 0, 5)] 4).length = 1 := by
  unfold atR
  rw [show ([(one, 0, 5)] : List Rw).filter (hasR 4) = [(one, 0, 5)] by simp [hasR, Sp.hasB, Sp.rightB], sort_one]
  simp [cuts_one]
theorem points_live : pointsR [(one, 0, 5)] = [0, 5] := by
  unfold pointsR ptsL
  rw [show ([(one, 0, 5)] : List Rw).flatMap (fun r => if Sp.rightB r.2.1 r.2.2 = true then [r.2.1, r.2.2] else []) = [0, 5] by simp [Sp.rightB], show sortI [0, 5] = [0, 5] by unfold sortI; first | exact List.mergeSort_of_pairwise (by decide) | exact List.mergeSort_of_sorted (by decide) | simp [List.mergeSort, List.merge]]
  decide
end Go.Proofs.Ytpagnphabchfcaa
