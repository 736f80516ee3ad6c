/- law06: later; how many lists of fails a bank that is made has. -/
import Derived.Test.YtnpkcipeacogcaaBkWb
import Derived.Test.YtnpkcipeacogcaaBkNa

set_option linter.unusedSimpArgs false
set_option linter.unusedVariables false
namespace Go.Proofs.Ytnpkcipeacogcaa
open Go.RowKit

theorem cnt_made : ∀ {gs : List Gen}, (∀ g ∈ gs, MdGen g) → 0 ≤ cntL gs ∧ cntL gs ≤ 5 ^ gs.length := by
  intro gs
  induction gs with
  | nil => intro _; exact ⟨by decide, by decide⟩
  | cons g gs ih =>
    intro h
    obtain ⟨i0, i1⟩ := ih (fun x hx => h x (List.mem_cons_of_mem _ hx))
    have h1 := h g (List.mem_cons_self ..)
    have h2 := h1.2.2
    have h3 := h1.1.t0
    have k1 : 0 ≤ (g.tries + 1) * cntL gs := Int.mul_nonneg (by omega) i0
    have k2 : (g.tries + 1) * cntL gs ≤ 5 * cntL gs := Int.mul_le_mul_of_nonneg_right (by omega) i0
    simp only [cntL, List.length_cons]
    refine ⟨k1, ?_⟩
    rw [Int.pow_succ]
    omega
/-- A search over what is made is never too large. -/
theorem cnt_fits {bs : List Bat} {gs : List Gen} {L : List Spn} (h2 : gs.length ≤ 3) (h4 : ∀ g ∈ gs, MdGen g) (h5 : (secsL L).length ≤ 640) : cntL gs * ((secsL L).length : Nat) ≤ 4194304 := by
  obtain ⟨c0, c1⟩ := cnt_made h4
  have c2 : cntL gs ≤ 125 := by
    have h6 : (5 : Int) ^ gs.length ≤ 125 := by
      rcases (show gs.length = 0 ∨ gs.length = 1 ∨ gs.length = 2 ∨ gs.length = 3 by omega) with h | h | h | h <;> rw [h] <;> decide
    omega
  have k1 : cntL gs * ((secsL L).length : Int) ≤ 125 * ((secsL L).length : Int) := Int.mul_le_mul_of_nonneg_right c2 (by omega)
  omega
/-- later: it becomes dark at a not before b; below 0 is never. -/
def laterP (a b : Int) : Prop := a < 0 ∨ (0 ≤ b ∧ b ≤ a)
instance (a b : Int) : Decidable (laterP a b) := by unfold laterP; infer_instance
theorem later_yes (a b : Int) (w : World) (h : laterP a b) : Calls Try.prog 17 #[.int .i64 a, .int .i64 b] w fun e w' => e = .returned (.bool true) ∧ w' = w := by
  by_cases h1 : a < 0
  · have d1 : decide (a < 0) = true := decide_eq_true h1
    clear h h1
    go_enter Try.func17, Try.ntmps17
    go_wp2
    go_ret
    exact ⟨rfl, rfl⟩
  · have h2 : 0 ≤ b ∧ b ≤ a := h.resolve_left h1
    have d1 : decide (a < 0) = false := decide_eq_false h1
    have d2 : decide (0 ≤ b) = true := decide_eq_true h2.1
    have d3 : decide (b ≤ a) = true := decide_eq_true h2.2
    clear h h1 h2
    go_enter Try.func17, Try.ntmps17
    go_wp2
    go_ret
    exact ⟨rfl, rfl⟩
end Go.Proofs.Ytnpkcipeacogcaa
