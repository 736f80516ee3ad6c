/- law08: the example. -/
import Derived.Test.YtalngalikblgkaaKpN

set_option linter.unusedSimpArgs false
set_option linter.unusedVariables false
namespace Go.Proofs.Ytalngalikblgkaa
open Go.RowKit

def exG : Gm := ⟨3, 2, 2, [0, 1, 0, 0, 1, 2, 0, 1, 2, 2, 2, 2], [true, true, false]⟩
theorem exG_ok : GmOk exG := ⟨by decide, by decide, by decide, by decide, by decide, by decide, by decide, by decide, by decide⟩
theorem example_any (w : World) : Calls Try.prog 19 #[] w fun e w' => ∃ b1 b2, e = .returned (.agg #[.int .i64 3, .int .i64 2, .int .i64 2, .slice (some ⟨b1, 0, none⟩) 12 12, .slice (some ⟨b2, 0, none⟩) 3 3]) ∧ Blk w' b1 3 (intsA exG.next) ∧ Blk w' b2 4 #[.bool true, .bool true, .bool false] ∧ w.heap.size ≤ b1 ∧ w.heap.size ≤ b2 ∧ Below w.heap.size w w' := by
  obtain ⟨W', hW'⟩ : ∃ z, z = ((w.alloc (.cells #[.int .i64 3, .int .i64 2, .int .i64 2, .slice (some ⟨w.heap.size + 1, 0, none⟩) 12 12, .slice (some ⟨w.heap.size + 1 + 1, 0, none⟩) 3 3] 25)).alloc (.cells #[.int .i64 0, .int .i64 1, .int .i64 0, .int .i64 0, .int .i64 1, .int .i64 2, .int .i64 0, .int .i64 1, .int .i64 2, .int .i64 2, .int .i64 2, .int .i64 2] 3)).alloc (.cells #[.bool true, .bool true, .bool false] 4) := ⟨_, rfl⟩
  have h0 : Blk W' w.heap.size 25 #[.int .i64 3, .int .i64 2, .int .i64 2, .slice (some ⟨w.heap.size + 1, 0, none⟩) 12 12, .slice (some ⟨w.heap.size + 1 + 1, 0, none⟩) 3 3] := by rw [hW']; exact Blk.alloc (Blk.alloc (heap_alloc_new w _) _) _
  have h1 : Blk W' (w.heap.size + 1) 3 (intsA exG.next) := by
    have e2 := heap_alloc_new (w.alloc (.cells #[.int .i64 3, .int .i64 2, .int .i64 2, .slice (some ⟨w.heap.size + 1, 0, none⟩) 12 12, .slice (some ⟨w.heap.size + 1 + 1, 0, none⟩) 3 3] 25)) (.cells #[.int .i64 0, .int .i64 1, .int .i64 0, .int .i64 0, .int .i64 1, .int .i64 2, .int .i64 0, .int .i64 1, .int .i64 2, .int .i64 2, .int .i64 2, .int .i64 2] 3)
    simp only [World.size_alloc] at e2
    rw [hW']
    exact Blk.alloc e2 _
  have h2 : Blk W' (w.heap.size + 1 + 1) 4 #[.bool true, .bool true, .bool false] := by
    have e2 := heap_alloc_new ((w.alloc (.cells #[.int .i64 3, .int .i64 2, .int .i64 2, .slice (some ⟨w.heap.size + 1, 0, none⟩) 12 12, .slice (some ⟨w.heap.size + 1 + 1, 0, none⟩) 3 3] 25)).alloc (.cells #[.int .i64 0, .int .i64 1, .int .i64 0, .int .i64 0, .int .i64 1, .int .i64 2, .int .i64 0, .int .i64 1, .int .i64 2, .int .i64 2, .int .i64 2, .int .i64 2] 3)) (.cells #[.bool true, .bool true, .bool false] 4)
    simp only [World.size_alloc] at e2
    rw [hW']
    exact e2
  have hB : Below w.heap.size w W' := by rw [hW']; (repeat' (first | (with_reducible exact Below.refl _ _) | (with_reducible assumption) | (with_reducible refine below_drewN ?_ _) | (with_reducible refine below_after (by assumption) ?_ ?_) | (with_reducible refine Below.drew ?_) | (with_reducible refine Below.alloc ?_ ?_ _) | (with_reducible refine Below.setCell ?_ ?_ _) | omega | (simp; omega) | (simp; done)))
  have HF := Lib.hid (And.intro h0 (And.intro h1 (And.intro h2 hB)))
  clear h0 h1 h2 hB
  go_enter Try.func19, Try.ntmps19
  go_wp2
  rw [← hW']
  obtain ⟨h0, h1, h2, hB⟩ := HF.out
  refine bodyPost_ret (results_cell_row rfl _ _ w.heap.size 25 _ _ _ rfl h0 Try.underlying25 rfl (by kernel_rfl)) rfl ?_
  exact ⟨_, _, rfl, h1, h2, by omega, by omega, hB⟩
end Go.Proofs.Ytalngalikblgkaa
