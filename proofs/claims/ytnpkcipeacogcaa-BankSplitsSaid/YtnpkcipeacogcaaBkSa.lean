/- A span that is parted, and what follows a dark second. -/
import Derived.Test.YtnpkcipeacogcaaBkE

set_option linter.unusedSimpArgs false
set_option linter.unusedVariables false
namespace Go.Proofs.Ytnpkcipeacogcaa
open Go.RowKit

/-- A span that is parted in two leaves the seconds what they are. -/
theorem secsL_part {L : List Spn} {i n : Nat} {s : Spn} (h : L[i]? = some s) (hn : (n : Int) ≤ s.secs) : secsL (L.take i ++ ⟨n, s.power⟩ :: ⟨s.secs - n, s.power⟩ :: L.drop (i + 1)) = secsL L := by
  have h1 : secsL L = secsL (L.take i) ++ (List.replicate s.secs.toNat s.power ++ secsL (L.drop (i + 1))) := by
    have h2 : secsL L = secsL (L.take (i + 1)) ++ secsL (L.drop (i + 1)) := by
      unfold secsL
      rw [← List.flatMap_append, List.take_append_drop]
    rw [h2, secsL_take h, List.append_assoc]
  rw [h1]
  unfold secsL
  rw [List.flatMap_append, List.flatMap_cons, List.flatMap_cons, ← List.append_assoc (List.replicate _ _), List.replicate_append_replicate]
  congr 2
  congr 1
  simp only
  omega
/-- What follows a dark second does not matter. -/
theorem runL_more {l m : List Int} {t : Int} {p : Ply} (h : ¬ okL t p l) : runL t p (l ++ m) = runL t p l := by
  rcases ok_or l t p with h1 | ⟨l1, x, l2, rfl, h2, h3⟩
  · exact absurd h1 h
  · rw [List.append_assoc, List.cons_append, runL_dark l1 _ x t p h2 h3, runL_dark l1 _ x t p h2 h3]
theorem okL_dark : ∀ {l : List Int} {t : Int} {p : Ply}, okL t p l → (runL t p l).dark = p.dark := by
  intro l
  induction l with
  | nil => intro t p _; rfl
  | cons x l ih => intro t p h; rw [runL, if_pos h.1, ih h.2]; rfl
theorem secsL_append (L M : List Spn) : secsL (L ++ M) = secsL L ++ secsL M := by
  unfold secsL
  rw [List.flatMap_append]
end Go.Proofs.Ytnpkcipeacogcaa
