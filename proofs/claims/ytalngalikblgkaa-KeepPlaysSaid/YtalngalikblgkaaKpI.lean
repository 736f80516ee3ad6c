/- keep, plain: the rounds of solve. -/
import Derived.Test.YtalngalikblgkaaKpH

set_option linter.unusedSimpArgs false
set_option linter.unusedVariables false
namespace Go.Proofs.Ytalngalikblgkaa
open Go.RowKit

/-- The states that no control keeps. -/
def lostL (g : Gm) (inn : List Bool) : List Int := lostTo g inn (stTo g.S inn g.S)
theorem lostL_bd {g : Gm} {inn : List Bool} {x : Int} (h : x ∈ lostL g inn) : 0 ≤ x ∧ x < g.S := by
  unfold lostL lostTo at h
  obtain ⟨y, _, rfl⟩ := List.mem_map.1 h
  have := y.isLt
  omega
theorem lostL_len (g : Gm) (inn : List Bool) : (lostL g inn).length ≤ g.S := by
  unfold lostL lostTo
  rw [List.length_map]
  exact Nat.le_trans (List.length_filter_le _ _) (stTo_length _ _ _)
theorem stTo_mem {S : Nat} {inn : List Bool} {k : Nat} (x : Fin S) : x ∈ stTo S inn k ↔ x.val < k ∧ inn.getD x.val false = true := by
  induction k with
  | zero => simp [stTo]
  | succ k ih =>
    unfold stTo stAt
    rw [List.mem_append, ih]
    split
    · rename_i h
      simp only [List.mem_singleton]
      constructor
      · rintro (h1 | rfl)
        · exact ⟨by omega, h1.2⟩
        · exact ⟨by simp, h.2⟩
      · rintro ⟨h1, h2⟩
        by_cases hk : x.val < k
        · exact .inl ⟨hk, h2⟩
        · exact .inr (Fin.ext (by simp; omega))
    · rename_i h
      simp only [List.not_mem_nil, or_false]
      constructor
      · rintro ⟨h1, h2⟩; exact ⟨by omega, h2⟩
      · rintro ⟨h1, h2⟩
        refine ⟨?_, h2⟩
        rcases Nat.lt_succ_iff_lt_or_eq.1 h1 with h3 | h3
        · exact h3
        · exact absurd ⟨by have := x.isLt; omega, by rw [← h3]; exact h2⟩ h
theorem lostL_mem {g : Gm} {inn : List Bool} {s : Nat} (hs : s < g.S) : (s : Int) ∈ lostL g inn ↔ inn.getD s false = true ∧ leastK g inn s = -1 := by
  unfold lostL lostTo
  rw [List.mem_map]
  constructor
  · rintro ⟨y, hy, e⟩
    obtain ⟨h1, h2⟩ := List.mem_filter.1 hy
    have e2 : y.val = s := by omega
    rw [← e2]
    exact ⟨((stTo_mem y).1 h1).2, by simpa using h2⟩
  · rintro ⟨h1, h2⟩
    exact ⟨⟨s, hs⟩, List.mem_filter.2 ⟨(stTo_mem _).2 ⟨hs, h1⟩, by simpa using h2⟩, rfl⟩
theorem cnt_set (l : List Bool) (k : Nat) : (l.set k false).count true ≤ l.count true ∧ (l.getD k false = true → (l.set k false).count true < l.count true) := by
  induction l generalizing k with
  | nil => simp
  | cons b l ih =>
    cases k with
    | zero => cases b <;> simp
    | succ k =>
      have := ih k
      simp only [List.set_cons_succ, List.count_cons, List.getD_cons_succ]
      exact ⟨by omega, fun h => by have := this.2 h; omega⟩
theorem cnt_out (st : List Int) (inn : List Bool) : (outI inn st).count true ≤ inn.count true := by
  induction st generalizing inn with
  | nil => exact Nat.le_refl _
  | cons x st ih => exact Nat.le_trans (ih _) (cnt_set inn x.toNat).1
theorem cnt_lost {g : Gm} {inn : List Bool} (h : lostL g inn ≠ []) : (outI inn (lostL g inn)).count true < inn.count true := by
  cases e : lostL g inn with
  | nil => exact absurd e h
  | cons x st =>
    have hx : x ∈ lostL g inn := by rw [e]; exact List.mem_cons_self ..
    obtain ⟨h0, h1⟩ := lostL_bd hx
    obtain ⟨s, rfl⟩ : ∃ s : Nat, x = (s : Int) := ⟨x.toNat, by omega⟩
    have h2 := ((lostL_mem (by omega)).1 hx).1
    exact Nat.lt_of_le_of_lt (cnt_out st _) ((cnt_set inn s).2 h2)
/-- The flags and the ranks behind k rounds. -/
def itR (g : Gm) : Nat → List Bool × List Int
  | 0 => (g.good, rkTo g.S (stTo g.S g.good g.S))
  | k + 1 => (outI (itR g k).1 (lostL g (itR g k).1), outR (itR g k).2 (lostL g (itR g k).1) ((k : Int) + 1))
theorem itR_len (g : Gm) (ok : GmOk g) (k : Nat) : (itR g k).1.length = g.S ∧ (itR g k).2.length = g.S := by
  induction k with
  | zero => exact ⟨ok.gl, rkTo_len _ _⟩
  | succ k ih => exact ⟨(outI_len _ _).trans ih.1, (outR_len _ _ _).trans ih.2⟩
/-- The controls. -/
def ctTo (g : Gm) (inn : List Bool) (pre : List (Fin g.S)) : List Int := pre.foldl (fun l x => l.set x.val (leastK g inn x.val)) (List.replicate g.S (-1))
theorem ctTo_len (g : Gm) (inn : List Bool) (pre : List (Fin g.S)) : (ctTo g inn pre).length = g.S := by
  unfold ctTo
  have h : ∀ (pre : List (Fin g.S)) (l : List Int), (pre.foldl (fun l x => l.set x.val (leastK g inn x.val)) l).length = l.length := by
    intro pre
    induction pre with
    | nil => intro l; rfl
    | cons x pre ih => intro l; exact (ih _).trans (List.length_set ..)
  rw [h, List.length_replicate]
theorem ctTo_snoc (g : Gm) (inn : List Bool) (pre : List (Fin g.S)) (x : Fin g.S) : ctTo g inn (pre ++ [x]) = (ctTo g inn pre).set x.val (leastK g inn x.val) := by unfold ctTo; simp
def ctL (g : Gm) (inn : List Bool) : List Int := ctTo g inn (stTo g.S inn g.S)
/-- Behind k rounds nothing is lost, and before it was. -/
def Solved (g : Gm) (k : Nat) : Prop := lostL g (itR g k).1 = [] ∧ ∀ j < k, lostL g (itR g j).1 ≠ []
/-- A row of numbers as RowW. -/
theorem blk_rowI {w : World} {b : Nat} {T : TypeId} {l : List Int} (h : Blk w b T (intsA l)) : RowW w b T encI (some ⟨b, 0, none⟩) l := by
  by_cases hl : l = []
  · exact .inl hl
  · exact .inr ⟨rfl, _, h, fun j u hu => by rw [encI_flat] at hu; simpa [intsA] using hu⟩
end Go.Proofs.Ytalngalikblgkaa
