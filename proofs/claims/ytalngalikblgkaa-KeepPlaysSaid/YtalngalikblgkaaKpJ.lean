/- keep, plain: the safe set is the greatest that is kept. -/
import Derived.Test.YtalngalikblgkaaKpI

set_option linter.unusedSimpArgs false
set_option linter.unusedVariables false
namespace Go.Proofs.Ytalngalikblgkaa
open Go.RowKit

theorem leastF_ne {p : Nat → Bool} {n u : Nat} (hu : u < n) (hp : p u = true) : leastF p n ≠ -1 := by
  unfold leastF
  cases h : (List.range n).find? p with
  | none => exact absurd hp (List.find?_eq_none.1 h u (List.mem_range.2 hu))
  | some v => simp only []; omega
theorem leastF_ex {p : Nat → Bool} {n : Nat} (h : leastF p n ≠ -1) : ∃ u < n, p u = true ∧ leastF p n = (u : Int) := by
  unfold leastF at h ⊢
  cases e : (List.range n).find? p with
  | none => rw [e] at h; exact absurd rfl h
  | some v =>
    refine ⟨v, List.mem_range.1 (List.mem_of_find?_eq_some e), List.find?_some e, rfl⟩
theorem getD_set (l : List Bool) (k s : Nat) : (l.set k false).getD s false = (l.getD s false && !(decide (k = s))) := by
  rw [List.getD_eq_getElem?_getD, List.getD_eq_getElem?_getD, List.getElem?_set]
  by_cases h : k = s
  · subst h
    rw [if_pos rfl]
    by_cases h2 : k < l.length
    · simp [h2]
    · simp [h2]
  · rw [if_neg h]
    simp [h]
theorem outI_getD (st : List Int) (inn : List Bool) (s : Nat) (hst : ∀ x ∈ st, 0 ≤ x) : (outI inn st).getD s false = (inn.getD s false && !(st.contains (s : Int))) := by
  induction st generalizing inn with
  | nil => simp [outI]
  | cons x st ih =>
    have h0 := hst x (List.mem_cons_self ..)
    have h1 := ih (inn.set x.toNat false) (fun y hy => hst y (List.mem_cons_of_mem _ hy))
    show (outI (inn.set x.toNat false) st).getD s false = _
    rw [h1, getD_set, List.contains_cons, Bool.and_assoc, Bool.not_or]
    congr 2
    have : decide (x.toNat = s) = ((s : Int) == x) := by
      by_cases h : x.toNat = s
      · rw [decide_eq_true h, eq_comm, beq_iff_eq]; omega
      · rw [decide_eq_false h, eq_comm, beq_eq_false_iff_ne]; omega
    rw [this]
/-- A set of states that is kept. -/
def KeptS (g : Gm) (X : Nat → Prop) : Prop := ∀ s < g.S, X s → g.good.getD s false = true ∧ ∃ u < g.C, ∀ x ∈ subL g s u, ∃ t : Nat, x = (t : Int) ∧ X t
theorem isInB_nat (inn : List Bool) (t : Nat) : isInB inn (t : Int) = inn.getD t false := by
  unfold isInB
  rw [beq_eq_false_iff_ne.2 (show (t : Int) ≠ -1 by omega)]
  rfl
/-- Each set that is kept lies in what is left behind any number of rounds. -/
theorem kept_in {g : Gm} (ok : GmOk g) {X : Nat → Prop} (hX : KeptS g X) (k : Nat) : ∀ s < g.S, X s → (itR g k).1.getD s false = true := by
  induction k with
  | zero => exact fun s hs h => (hX s hs h).1
  | succ k ih =>
    intro s hs h
    show (outI (itR g k).1 (lostL g (itR g k).1)).getD s false = true
    rw [outI_getD _ _ _ (fun x hx => (lostL_bd hx).1), ih s hs h, Bool.true_and, Bool.not_eq_true', ← Bool.not_eq_true, List.contains_iff_mem]
    intro hm
    have h2 := ((lostL_mem hs).1 hm).2
    obtain ⟨u, hu, hk⟩ := (hX s hs h).2
    refine leastF_ne (p := keepB g (itR g k).1 s) hu ?_ h2
    unfold keepB
    rw [List.all_eq_true]
    intro x hx
    obtain ⟨t, rfl, ht⟩ := hk x hx
    rw [isInB_nat]
    exact ih t (by have := sub_bd ok hx; omega) ht
/-- What is left is good, and when nothing is lost it is kept. -/
theorem it_good (g : Gm) (k : Nat) : ∀ s, (itR g k).1.getD s false = true → g.good.getD s false = true := by
  induction k with
  | zero => exact fun s h => h
  | succ k ih =>
    intro s h
    have h1 : (outI (itR g k).1 (lostL g (itR g k).1)).getD s false = true := h
    rw [outI_getD _ _ _ (fun x hx => (lostL_bd hx).1), Bool.and_eq_true] at h1
    exact ih s h1.1
theorem safe_kept {g : Gm} (ok : GmOk g) {k : Nat} (h : Solved g k) : KeptS g (fun s => (itR g k).1.getD s false = true) := by
  intro s hs hin
  refine ⟨it_good g k s hin, ?_⟩
  have hl : leastK g (itR g k).1 s ≠ -1 := by
    intro e
    have := (lostL_mem hs).2 ⟨hin, e⟩
    rw [h.1] at this
    cases this
  obtain ⟨u, hu, hk, _⟩ := leastF_ex hl
  refine ⟨u, hu, fun x hx => ?_⟩
  have h1 := (List.all_eq_true.1 (show (subL g s u).all (isInB (itR g k).1) = true from hk)) x hx
  have hb := sub_bd ok hx
  by_cases hx1 : x = -1
  · rw [hx1] at h1
    cases h1
  · obtain ⟨t, rfl⟩ : ∃ t : Nat, x = (t : Int) := ⟨x.toNat, by omega⟩
    rw [isInB_nat] at h1
    exact ⟨t, rfl, h1⟩
/-- The safe set of two numbers of rounds behind which nothing is lost is the same. -/
theorem safe_one {g : Gm} (ok : GmOk g) {k j : Nat} (hk : Solved g k) (hj : Solved g j) : ∀ s < g.S, (itR g k).1.getD s false = (itR g j).1.getD s false := by
  intro s hs
  rw [Bool.eq_iff_iff]
  exact ⟨fun h => kept_in ok (safe_kept ok hk) j s hs h, fun h => kept_in ok (safe_kept ok hj) k s hs h⟩
end Go.Proofs.Ytalngalikblgkaa
