/- law08, plain: the values of awake. -/
import Derived.Test.YtalngalikblgkaaKpU
import Derived.Test.YtalngalikblgkaaKpQ

set_option linter.unusedSimpArgs false
set_option linter.unusedVariables false
namespace Go.Proofs.Ytalngalikblgkaa
open Go.RowKit

theorem solved_eq {g : Gm} {k j : Nat} (hk : Solved g k) (hj : Solved g j) : k = j := by
  rcases Nat.lt_trichotomy k j with h | h | h
  · exact absurd hk.1 (hj.2 k h)
  · exact h
  · exact absurd hj.1 (hk.2 j h)
theorem ex_lost : lostL exG (itR exG 0).1 = [] := by decide +kernel
theorem ex_solved : Solved exG 0 := ⟨ex_lost, fun j h => by omega⟩
theorem ex_val : (itR exG 0).1 = [true, true, false] ∧ (itR exG 0).2 = [-1, -1, 0] ∧ ctL exG (itR exG 0).1 = [0, 1, -1] := by decide +kernel
theorem le_lost : lostL (lessG exG 1) (itR (lessG exG 1) 2).1 = [] ∧ lostL (lessG exG 1) (itR (lessG exG 1) 0).1 ≠ [] ∧ lostL (lessG exG 1) (itR (lessG exG 1) 1).1 ≠ [] := by decide +kernel
theorem le_solved : Solved (lessG exG 1) 2 := ⟨le_lost.1, fun j h => by
  match j, h with
  | 0, _ => exact le_lost.2.1
  | 1, _ => exact le_lost.2.2⟩
theorem le_val : (itR (lessG exG 1) 2).2 = [2, 1, 0] := by decide +kernel
theorem pr_lost : lostL (prodG exG exG) (itR (prodG exG exG) 0).1 = [] := by decide +kernel
theorem pr_solved : Solved (prodG exG exG) 0 := ⟨pr_lost, fun j h => by omega⟩
theorem pr_val : (itR (prodG exG exG) 0).1.count true = 4 := by decide +kernel
end Go.Proofs.Ytalngalikblgkaa
