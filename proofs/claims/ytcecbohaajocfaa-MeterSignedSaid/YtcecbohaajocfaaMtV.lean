/- meter: the sum of two bills. -/
import Derived.Test.YtcecbohaajocfaaMtZ

set_option linter.unusedSimpArgs false
set_option linter.unusedVariables false
namespace Go.Proofs.Ytcecbohaajocfaa
open Go.RowKit

def bd15 (x : Int) : Prop := -1000000000000000 ≤ x ∧ x ≤ 1000000000000000
set_option maxRecDepth 100000 in
set_option maxHeartbeats 4000000 in
theorem plusB_any (a1 a2 a3 a4 b1 b2 b3 b4 : Int) (w : World) (h : bd15 a1 ∧ bd15 a2 ∧ bd15 a3 ∧ bd15 a4) (k : bd15 b1 ∧ bd15 b2 ∧ bd15 b3 ∧ bd15 b4) :
    Calls Try.prog 60 #[.agg #[.int .i64 a1, .int .i64 a2, .int .i64 a3, .int .i64 a4], .agg #[.int .i64 b1, .int .i64 b2, .int .i64 b3, .int .i64 b4]] w fun e w' => e = .returned (.agg #[.int .i64 (a1 + b1), .int .i64 (a2 + b2), .int .i64 (a3 + b3), .int .i64 (a4 + b4)]) ∧ Below w.heap.size w w' := by
  unfold bd15 at h k
  obtain ⟨c1, hc1⟩ : ∃ z, z = a1 + b1 := ⟨_, rfl⟩
  obtain ⟨c2, hc2⟩ : ∃ z, z = a2 + b2 := ⟨_, rfl⟩
  obtain ⟨c3, hc3⟩ : ∃ z, z = a3 + b3 := ⟨_, rfl⟩
  obtain ⟨c4, hc4⟩ : ∃ z, z = a4 + b4 := ⟨_, rfl⟩
  have HC := Lib.hid (And.intro hc1 (And.intro hc2 (And.intro hc3 hc4)))
  have v1 : IntKind.i64.wrap (a1 + b1) = c1 := by rw [hc1]; exact IntWalk.i64_in _ (by omega)
  have v2 : IntKind.i64.wrap (a2 + b2) = c2 := by rw [hc2]; exact IntWalk.i64_in _ (by omega)
  have v3 : IntKind.i64.wrap (a3 + b3) = c3 := by rw [hc3]; exact IntWalk.i64_in _ (by omega)
  have v4 : IntKind.i64.wrap (a4 + b4) = c4 := by rw [hc4]; exact IntWalk.i64_in _ (by omega)
  have g1 : w.heap.size < w.heap.size + 1 := by omega
  have g2 : w.heap.size < w.heap.size + 1 + 1 := by omega
  have g3 : w.heap.size < w.heap.size + 1 + 1 + 1 := by omega
  have g4 : w.heap.size + 1 < w.heap.size + 1 + 1 := by omega
  have g5 : w.heap.size + 1 < w.heap.size + 1 + 1 + 1 := by omega
  have g6 : w.heap.size + 1 + 1 < w.heap.size + 1 + 1 + 1 := by omega
  clear h k hc1 hc2 hc3 hc4
  go_enter Try.func60, Try.ntmps60
  go_wp2
  obtain ⟨W3, hW3⟩ : ∃ z, z = ((w.alloc (.cells #[.int .i64 a1, .int .i64 a2, .int .i64 a3, .int .i64 a4] 77)).alloc (.cells #[.int .i64 b1, .int .i64 b2, .int .i64 b3, .int .i64 b4] 77)).alloc (.cells #[.int .i64 c1, .int .i64 c2, .int .i64 c3, .int .i64 c4] 77) := ⟨_, rfl⟩
  have HB : Below w.heap.size w W3 := by rw [hW3]; (repeat' (first | (with_reducible exact Below.refl _ _) | (with_reducible assumption) | (with_reducible refine below_drewN ?_ _) | (with_reducible refine below_after (by assumption) ?_ ?_) | (with_reducible refine Below.drew ?_) | (with_reducible refine Below.alloc ?_ ?_ _) | (with_reducible refine Below.setCell ?_ ?_ _) | omega | (simp; omega) | (simp; done)))
  have hb : Blk W3 (w.heap.size + 1 + 1) 77 #[.int .i64 c1, .int .i64 c2, .int .i64 c3, .int .i64 c4] := by
    have e2 := heap_alloc_new ((w.alloc (.cells #[.int .i64 a1, .int .i64 a2, .int .i64 a3, .int .i64 a4] 77)).alloc (.cells #[.int .i64 b1, .int .i64 b2, .int .i64 b3, .int .i64 b4] 77)) (.cells #[.int .i64 c1, .int .i64 c2, .int .i64 c3, .int .i64 c4] 77)
    simp only [World.size_alloc] at e2
    rw [hW3]
    exact e2
  have x0 := hb.cell 0
  have x1 := hb.cell 1
  have x2 := hb.cell 2
  have x3 := hb.cell 3
  simp only [List.getElem?_toArray, List.getElem?_cons_zero, List.getElem?_cons_succ] at x0 x1 x2 x3
  rw [← hW3]
  refine bodyPost_ret (v := .agg #[.int .i64 c1, .int .i64 c2, .int .i64 c3, .int .i64 c4]) ?_ rfl ?_
  · simp [results, Try.results60, go_sem, x0, x1, x2, x3]
  · obtain ⟨h1, h2, h3, h4⟩ := HC.out
    exact ⟨by rw [h1, h2, h3, h4], HB⟩
end Go.Proofs.Ytcecbohaajocfaa
