/- meter: what the example asks. -/
import Derived.Test.YtcecbohaajocfaaMtY
import Derived.Test.YtcecbohaajocfaaMtU

set_option linter.unusedSimpArgs false
set_option linter.unusedVariables false
namespace Go.Proofs.Ytcecbohaajocfaa
open Go.RowKit

theorem pw_unique {α : Type} {R : α → α → Prop} (ha : ∀ a b, R a b → ¬ R b a) : ∀ l1 l2 : List α, l1.Pairwise R → l2.Pairwise R → (∀ x, x ∈ l1 ↔ x ∈ l2) → l1 = l2
  | [], [], _, _, _ => rfl
  | [], b :: l2, _, _, h => absurd ((h b).2 (List.mem_cons_self ..)) (by simp)
  | a :: l1, [], _, _, h => absurd ((h a).1 (List.mem_cons_self ..)) (by simp)
  | a :: l1, b :: l2, h1, h2, h => by
    obtain ⟨p1, p2⟩ := List.pairwise_cons.1 h1
    obtain ⟨q1, q2⟩ := List.pairwise_cons.1 h2
    have e : a = b := by
      rcases List.mem_cons.1 ((h a).1 (List.mem_cons_self ..)) with e | e
      · exact e
      · rcases List.mem_cons.1 ((h b).2 (List.mem_cons_self ..)) with e2 | e2
        · exact e2.symm
        · exact absurd (p1 b e2) (ha _ _ (q1 a e))
    subst e
    rw [pw_unique ha l1 l2 p2 q2 fun x => ⟨fun hx => ?_, fun hx => ?_⟩]
    · rcases List.mem_cons.1 ((h x).1 (List.mem_cons_of_mem _ hx)) with e | e
      · subst e; have := p1 x hx; exact absurd this (ha _ _ this)
      · exact e
    · rcases List.mem_cons.1 ((h x).2 (List.mem_cons_of_mem _ hx)) with e | e
      · subst e; have := q1 x hx; exact absurd this (ha _ _ this)
      · exact e
theorem LexLt.asymm {a b : List Nat} (h : LexLt a b) : ¬ LexLt b a := by
  rintro ⟨m, k1, k2, k3⟩
  obtain ⟨j, h1, h2, h3⟩ := h
  rcases Nat.lt_trichotomy j m with e | e | e
  · have := k2 j e; omega
  · subst e; omega
  · have := h2 m e; omega
theorem LeastIs.same {c : Ks} {L L' : List (List Nat)} {k : Nat} (h : LeastIs c L k) (hs : L'.Pairwise LexLt) (hm : ∀ x, x ∈ L' ↔ (Vc c.n x ∧ x.length = k ∧ canB c x = true)) : L = L' :=
  pw_unique (fun _ _ h => h.asymm) L L' h.sorted hs fun x => ⟨fun hx => (hm x).2 (h.ok x hx), fun hx => by obtain ⟨a, b, d⟩ := (hm x).1 hx; exact h.all x a b d⟩
def exK : Ks := ⟨[⟨-1, 0, 5⟩, ⟨0, 0, 0⟩, ⟨0, 0, 0⟩], [100, 60, 50]⟩
theorem exK_ok : KsOk exK := by
  refine ⟨by decide, by decide, by decide, by decide, fun i h0 hi => ?_, fun i hi => ?_, fun i hi => ?_⟩
  · have : i < 3 := hi
    rcases (show i = 1 ∨ i = 2 by omega) with rfl | rfl <;> decide
  · have : i < 3 := hi
    rcases (show i = 0 ∨ i = 1 ∨ i = 2 by omega) with rfl | rfl | rfl <;> decide
  · have : i < 3 := hi
    rcases (show i = 0 ∨ i = 1 ∨ i = 2 by omega) with rfl | rfl | rfl <;> decide
theorem exK_can : canB exK [] = false ∧ canB exK [0] = true ∧ canB exK [1] = true ∧ canB exK [2] = true := by decide +kernel
theorem vc_nil (n : Nat) : Vc n [] := ⟨Nat.zero_le _, fun i j _ h => absurd h (by simp), fun i h => absurd h (by simp)⟩
theorem vc_one {n a : Nat} (h : a < n) : Vc n [a] := ⟨by simp; omega, fun i j h1 h2 => by simp at h2; omega, fun i hi => by simp at hi; subst hi; exact h⟩
theorem vc_ones {n : Nat} {s : List Nat} (h : Vc n s) (h1 : s.length = 1) : ∃ a, a < n ∧ s = [a] := by
  match s, h1 with
  | [a], _ => exact ⟨a, h.lt 0 (by simp), rfl⟩
theorem exK_least {L : List (List Nat)} {k : Nat} (h : LeastIs exK L k) : L = [[0], [1], [2]] ∧ k = 1 := by
  have hk1 : k ≤ 1 := by
    rcases Nat.lt_or_ge 1 k with e | e
    · have := h.less [0] (vc_one (by decide)) (by simpa using e)
      rw [exK_can.2.1] at this
      exact absurd this (by decide)
    · exact e
  have hk0 : k ≠ 0 := by
    rintro rfl
    obtain ⟨s, hs⟩ := List.exists_mem_of_ne_nil _ h.some_
    obtain ⟨_, b, d⟩ := h.ok s hs
    rw [List.length_eq_zero_iff.1 b, exK_can.1] at d
    exact absurd d (by decide)
  obtain rfl : k = 1 := by omega
  refine ⟨h.same ?_ fun x => ⟨fun hx => ?_, fun ⟨a, b, d⟩ => ?_⟩, rfl⟩
  · refine List.Pairwise.cons (fun b hb => ?_) (List.Pairwise.cons (fun b hb => ?_) (List.pairwise_singleton _ _))
    · simp only [List.mem_cons, List.mem_nil_iff, or_false] at hb
      rcases hb with rfl | rfl <;> exact ⟨0, by decide, fun i hi => absurd hi (by omega), by decide⟩
    · simp only [List.mem_cons, List.mem_nil_iff, or_false] at hb
      subst hb
      exact ⟨0, by decide, fun i hi => absurd hi (by omega), by decide⟩
  · simp only [List.mem_cons, List.mem_nil_iff, or_false] at hx
    rcases hx with rfl | rfl | rfl
    · exact ⟨vc_one (by decide), rfl, exK_can.2.1⟩
    · exact ⟨vc_one (by decide), rfl, exK_can.2.2.1⟩
    · exact ⟨vc_one (by decide), rfl, exK_can.2.2.2⟩
  · obtain ⟨y, hy, rfl⟩ := vc_ones a b
    have : y < 3 := hy
    rcases (show y = 0 ∨ y = 1 ∨ y = 2 by omega) with rfl | rfl | rfl <;> simp
theorem exK_rep {L : List Int} (h : RepK exK (narS exK (iniS exK [1])) 3 L) : L = [100, 45, 50] := by
  have h3 : L.length = 3 := h.len
  have e0 : (narS exK (iniS exK [1]) 0).1 = 100 := by decide +kernel
  have e1 : (narS exK (iniS exK [1]) 1).1 ≤ 45 := by decide +kernel
  have e2 : narS exK (iniS exK [1]) 2 = (50, 50) := by decide +kernel
  have es : sonsL exK 0 = [1, 2] := by decide +kernel
  have r0 := h.root
  have r1 := h.son 0 [] [2] 1 (by decide) es
  have r2 := h.son 0 [1] [] 2 (by decide) es
  have eh : (exK.nd 0).hi = 5 := by decide
  rw [e0] at r0
  rw [eh, r0] at r1 r2
  simp only [List.map_cons, List.map_nil, List.sum_cons, List.sum_nil, e2] at r1 r2
  have r1' : L.getD 1 0 = 45 := by omega
  rw [r1'] at r2
  have r2' : L.getD 2 0 = 50 := by omega
  match L, h3 with
  | [a, b, c], _ =>
    simp at r0 r1' r2'
    rw [r0, r1', r2']
end Go.Proofs.Ytcecbohaajocfaa
