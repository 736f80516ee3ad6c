/- law07: the example. -/
import Derived.Test.YtldbciflpnhfpaaHtN
import Derived.Test.YtldbciflpnhfpaaHtM

set_option linter.unusedSimpArgs false
set_option linter.unusedVariables false
namespace Go.Proofs.Ytldbciflpnhfpaa
open Go.RowKit

def exH : Hl := ⟨[⟨1000, 30000⟩], [⟨0, -1, 10⟩], [⟨-1, 100, 0⟩], [⟨0, 0, 50, 4, 18000⟩]⟩
set_option maxRecDepth 100000 in
set_option maxHeartbeats 1000000 in
theorem example_any (pump : Int) (w : World) : Calls Try.prog 32 #[.int .i64 pump] w fun e w' => ∃ (b1 b2 b3 b4 b5 : Nat), e = .returned (.tuple #[.agg #[.slice (some ⟨b1, 0, none⟩) 1 1, .slice (some ⟨b2, 0, none⟩) 1 1, .slice (some ⟨b3, 0, none⟩) 1 1, .slice (some ⟨b4, 0, none⟩) 1 1], .agg #[.slice (some ⟨b5, 0, none⟩) 1 1, .int .i64 20000, .int .i64 pump]]) ∧ HlIn w' w'.heap.size ⟨some ⟨b1, 0, none⟩, some ⟨b2, 0, none⟩, some ⟨b3, 0, none⟩, some ⟨b4, 0, none⟩, 1, 1, 1, 1⟩ exH ∧ Rd w' w'.heap.size 1 encI (some ⟨b5, 0, none⟩) 1 [100000] ∧ Below w.heap.size w w' := by
  have g1 : w.heap.size < w.heap.size + 1 := by omega
  have g2 : w.heap.size < w.heap.size + 1 + 1 := by omega
  have g3 : w.heap.size < w.heap.size + 1 + 1 + 1 := by omega
  have g4 : w.heap.size < w.heap.size + 1 + 1 + 1 + 1 := by omega
  have g5 : w.heap.size < w.heap.size + 1 + 1 + 1 + 1 + 1 := by omega
  have g6 : w.heap.size < w.heap.size + 1 + 1 + 1 + 1 + 1 + 1 := by omega
  have g7 : w.heap.size < w.heap.size + 1 + 1 + 1 + 1 + 1 + 1 + 1 := by omega
  have g1_3 : w.heap.size + 1 < w.heap.size + 1 + 1 + 1 := by omega
  have g1_4 : w.heap.size + 1 < w.heap.size + 1 + 1 + 1 + 1 := by omega
  have g1_5 : w.heap.size + 1 < w.heap.size + 1 + 1 + 1 + 1 + 1 := by omega
  have g1_6 : w.heap.size + 1 < w.heap.size + 1 + 1 + 1 + 1 + 1 + 1 := by omega
  have g1_7 : w.heap.size + 1 < w.heap.size + 1 + 1 + 1 + 1 + 1 + 1 + 1 := by omega
  have g2_4 : w.heap.size + 1 + 1 < w.heap.size + 1 + 1 + 1 + 1 := by omega
  have g2_5 : w.heap.size + 1 + 1 < w.heap.size + 1 + 1 + 1 + 1 + 1 := by omega
  have g2_6 : w.heap.size + 1 + 1 < w.heap.size + 1 + 1 + 1 + 1 + 1 + 1 := by omega
  have g2_7 : w.heap.size + 1 + 1 < w.heap.size + 1 + 1 + 1 + 1 + 1 + 1 + 1 := by omega
  have g3_5 : w.heap.size + 1 + 1 + 1 < w.heap.size + 1 + 1 + 1 + 1 + 1 := by omega
  have g3_6 : w.heap.size + 1 + 1 + 1 < w.heap.size + 1 + 1 + 1 + 1 + 1 + 1 := by omega
  have g3_7 : w.heap.size + 1 + 1 + 1 < w.heap.size + 1 + 1 + 1 + 1 + 1 + 1 + 1 := by omega
  have g4_6 : w.heap.size + 1 + 1 + 1 + 1 < w.heap.size + 1 + 1 + 1 + 1 + 1 + 1 := by omega
  have g4_7 : w.heap.size + 1 + 1 + 1 + 1 < w.heap.size + 1 + 1 + 1 + 1 + 1 + 1 + 1 := by omega
  have g5_7 : w.heap.size + 1 + 1 + 1 + 1 + 1 < w.heap.size + 1 + 1 + 1 + 1 + 1 + 1 + 1 := by omega
  go_enter Try.func32, Try.ntmps32
  go_wp2
  obtain ⟨W0, hW0⟩ : ∃ z, z = w.alloc (.cells #[.slice (some ⟨w.heap.size + 1 + 1, 0, none⟩) 1 1, .slice (some ⟨w.heap.size + 1 + 1 + 1, 0, none⟩) 1 1, .slice (some ⟨w.heap.size + 1 + 1 + 1 + 1, 0, none⟩) 1 1, .slice (some ⟨w.heap.size + 1 + 1 + 1 + 1 + 1, 0, none⟩) 1 1] 28) := ⟨_, rfl⟩
  have s0 : W0.heap.size = w.heap.size + 1 := by rw [hW0, World.size_alloc]
  have b0 : Blk W0 (w.heap.size) 28 #[.slice (some ⟨w.heap.size + 1 + 1, 0, none⟩) 1 1, .slice (some ⟨w.heap.size + 1 + 1 + 1, 0, none⟩) 1 1, .slice (some ⟨w.heap.size + 1 + 1 + 1 + 1, 0, none⟩) 1 1, .slice (some ⟨w.heap.size + 1 + 1 + 1 + 1 + 1, 0, none⟩) 1 1] := by have h := heap_alloc_new w (.cells #[.slice (some ⟨w.heap.size + 1 + 1, 0, none⟩) 1 1, .slice (some ⟨w.heap.size + 1 + 1 + 1, 0, none⟩) 1 1, .slice (some ⟨w.heap.size + 1 + 1 + 1 + 1, 0, none⟩) 1 1, .slice (some ⟨w.heap.size + 1 + 1 + 1 + 1 + 1, 0, none⟩) 1 1] 28); rw [hW0]; exact h
  have hB0 : Below w.heap.size w W0 := by rw [hW0]; exact (Below.refl _ _).alloc (Nat.le_refl _) _
  rw [← hW0]
  clear hW0
  obtain ⟨W1, hW1⟩ : ∃ z, z = W0.alloc (.cells #[.slice (some ⟨w.heap.size + 1 + 1 + 1 + 1 + 1 + 1, 0, none⟩) 1 1, .int .i64 20000, .int .i64 pump] 35) := ⟨_, rfl⟩
  have s1 : W1.heap.size = w.heap.size + 1 + 1 := by rw [hW1, World.size_alloc, s0]
  have b1 : Blk W1 (w.heap.size + 1) 35 #[.slice (some ⟨w.heap.size + 1 + 1 + 1 + 1 + 1 + 1, 0, none⟩) 1 1, .int .i64 20000, .int .i64 pump] := by have h := heap_alloc_new W0 (.cells #[.slice (some ⟨w.heap.size + 1 + 1 + 1 + 1 + 1 + 1, 0, none⟩) 1 1, .int .i64 20000, .int .i64 pump] 35); rw [s0] at h; rw [hW1]; exact h
  have hB1 : Below w.heap.size w W1 := by rw [hW1]; exact hB0.alloc (by omega) _
  replace b0 := b0.alloc (.cells #[.slice (some ⟨w.heap.size + 1 + 1 + 1 + 1 + 1 + 1, 0, none⟩) 1 1, .int .i64 20000, .int .i64 pump] 35)
  rw [← hW1] at b0
  rw [← hW1]
  clear hW1
  obtain ⟨W2, hW2⟩ : ∃ z, z = W1.alloc (.cells #[.int .i64 1000, .int .i64 30000] 61) := ⟨_, rfl⟩
  have s2 : W2.heap.size = w.heap.size + 1 + 1 + 1 := by rw [hW2, World.size_alloc, s1]
  have b2 : Blk W2 (w.heap.size + 1 + 1) 61 #[.int .i64 1000, .int .i64 30000] := by have h := heap_alloc_new W1 (.cells #[.int .i64 1000, .int .i64 30000] 61); rw [s1] at h; rw [hW2]; exact h
  have hB2 : Below w.heap.size w W2 := by rw [hW2]; exact hB1.alloc (by omega) _
  replace b0 := b0.alloc (.cells #[.int .i64 1000, .int .i64 30000] 61)
  rw [← hW2] at b0
  replace b1 := b1.alloc (.cells #[.int .i64 1000, .int .i64 30000] 61)
  rw [← hW2] at b1
  rw [← hW2]
  clear hW2
  obtain ⟨W3, hW3⟩ : ∃ z, z = W2.alloc (.cells #[.int .i64 0, .int .i64 (-1), .int .i64 10] 75) := ⟨_, rfl⟩
  have s3 : W3.heap.size = w.heap.size + 1 + 1 + 1 + 1 := by rw [hW3, World.size_alloc, s2]
  have b3 : Blk W3 (w.heap.size + 1 + 1 + 1) 75 #[.int .i64 0, .int .i64 (-1), .int .i64 10] := by have h := heap_alloc_new W2 (.cells #[.int .i64 0, .int .i64 (-1), .int .i64 10] 75); rw [s2] at h; rw [hW3]; exact h
  have hB3 : Below w.heap.size w W3 := by rw [hW3]; exact hB2.alloc (by omega) _
  replace b0 := b0.alloc (.cells #[.int .i64 0, .int .i64 (-1), .int .i64 10] 75)
  rw [← hW3] at b0
  replace b1 := b1.alloc (.cells #[.int .i64 0, .int .i64 (-1), .int .i64 10] 75)
  rw [← hW3] at b1
  replace b2 := b2.alloc (.cells #[.int .i64 0, .int .i64 (-1), .int .i64 10] 75)
  rw [← hW3] at b2
  rw [← hW3]
  clear hW3
  obtain ⟨W4, hW4⟩ : ∃ z, z = W3.alloc (.cells #[.int .i64 (-1), .int .i64 100, .int .i64 0] 71) := ⟨_, rfl⟩
  have s4 : W4.heap.size = w.heap.size + 1 + 1 + 1 + 1 + 1 := by rw [hW4, World.size_alloc, s3]
  have b4 : Blk W4 (w.heap.size + 1 + 1 + 1 + 1) 71 #[.int .i64 (-1), .int .i64 100, .int .i64 0] := by have h := heap_alloc_new W3 (.cells #[.int .i64 (-1), .int .i64 100, .int .i64 0] 71); rw [s3] at h; rw [hW4]; exact h
  have hB4 : Below w.heap.size w W4 := by rw [hW4]; exact hB3.alloc (by omega) _
  replace b0 := b0.alloc (.cells #[.int .i64 (-1), .int .i64 100, .int .i64 0] 71)
  rw [← hW4] at b0
  replace b1 := b1.alloc (.cells #[.int .i64 (-1), .int .i64 100, .int .i64 0] 71)
  rw [← hW4] at b1
  replace b2 := b2.alloc (.cells #[.int .i64 (-1), .int .i64 100, .int .i64 0] 71)
  rw [← hW4] at b2
  replace b3 := b3.alloc (.cells #[.int .i64 (-1), .int .i64 100, .int .i64 0] 71)
  rw [← hW4] at b3
  rw [← hW4]
  clear hW4
  obtain ⟨W5, hW5⟩ : ∃ z, z = W4.alloc (.cells #[.int .i64 0, .int .i64 0, .int .i64 50, .int .i64 4, .int .i64 18000] 77) := ⟨_, rfl⟩
  have s5 : W5.heap.size = w.heap.size + 1 + 1 + 1 + 1 + 1 + 1 := by rw [hW5, World.size_alloc, s4]
  have b5 : Blk W5 (w.heap.size + 1 + 1 + 1 + 1 + 1) 77 #[.int .i64 0, .int .i64 0, .int .i64 50, .int .i64 4, .int .i64 18000] := by have h := heap_alloc_new W4 (.cells #[.int .i64 0, .int .i64 0, .int .i64 50, .int .i64 4, .int .i64 18000] 77); rw [s4] at h; rw [hW5]; exact h
  have hB5 : Below w.heap.size w W5 := by rw [hW5]; exact hB4.alloc (by omega) _
  replace b0 := b0.alloc (.cells #[.int .i64 0, .int .i64 0, .int .i64 50, .int .i64 4, .int .i64 18000] 77)
  rw [← hW5] at b0
  replace b1 := b1.alloc (.cells #[.int .i64 0, .int .i64 0, .int .i64 50, .int .i64 4, .int .i64 18000] 77)
  rw [← hW5] at b1
  replace b2 := b2.alloc (.cells #[.int .i64 0, .int .i64 0, .int .i64 50, .int .i64 4, .int .i64 18000] 77)
  rw [← hW5] at b2
  replace b3 := b3.alloc (.cells #[.int .i64 0, .int .i64 0, .int .i64 50, .int .i64 4, .int .i64 18000] 77)
  rw [← hW5] at b3
  replace b4 := b4.alloc (.cells #[.int .i64 0, .int .i64 0, .int .i64 50, .int .i64 4, .int .i64 18000] 77)
  rw [← hW5] at b4
  rw [← hW5]
  clear hW5
  obtain ⟨W6, hW6⟩ : ∃ z, z = W5.alloc (.cells #[.int .i64 100000] 3) := ⟨_, rfl⟩
  have s6 : W6.heap.size = w.heap.size + 1 + 1 + 1 + 1 + 1 + 1 + 1 := by rw [hW6, World.size_alloc, s5]
  have b6 : Blk W6 (w.heap.size + 1 + 1 + 1 + 1 + 1 + 1) 3 #[.int .i64 100000] := by have h := heap_alloc_new W5 (.cells #[.int .i64 100000] 3); rw [s5] at h; rw [hW6]; exact h
  have hB6 : Below w.heap.size w W6 := by rw [hW6]; exact hB5.alloc (by omega) _
  replace b0 := b0.alloc (.cells #[.int .i64 100000] 3)
  rw [← hW6] at b0
  replace b1 := b1.alloc (.cells #[.int .i64 100000] 3)
  rw [← hW6] at b1
  replace b2 := b2.alloc (.cells #[.int .i64 100000] 3)
  rw [← hW6] at b2
  replace b3 := b3.alloc (.cells #[.int .i64 100000] 3)
  rw [← hW6] at b3
  replace b4 := b4.alloc (.cells #[.int .i64 100000] 3)
  rw [← hW6] at b4
  replace b5 := b5.alloc (.cells #[.int .i64 100000] 3)
  rw [← hW6] at b5
  rw [← hW6]
  clear hW6
  have q0 := b0.cell 0
  have q1 := b0.cell 1
  have q2 := b0.cell 2
  have q3 := b0.cell 3
  have p0 := b1.cell 0
  have p1 := b1.cell 1
  have p2 := b1.cell 2
  simp at q0 q1 q2 q3 p0 p1 p2
  refine bodyPost_ret (v := .tuple #[.agg #[.slice (some ⟨w.heap.size + 1 + 1, 0, none⟩) 1 1, .slice (some ⟨w.heap.size + 1 + 1 + 1, 0, none⟩) 1 1, .slice (some ⟨w.heap.size + 1 + 1 + 1 + 1, 0, none⟩) 1 1, .slice (some ⟨w.heap.size + 1 + 1 + 1 + 1 + 1, 0, none⟩) 1 1], .agg #[.slice (some ⟨w.heap.size + 1 + 1 + 1 + 1 + 1 + 1, 0, none⟩) 1 1, .int .i64 20000, .int .i64 pump]]) (by simp [results, Try.results32, go_sem, q0, q1, q2, q3, p0, p1, p2]) rfl ⟨_, _, _, _, _, rfl, ⟨?_, ?_, ?_, ?_⟩, ?_, hB6⟩
  · exact rd_one (f := Rom.enc) (⟨1000, 30000⟩) b2 rfl
  · exact rd_one (f := Wal.enc) (⟨0, -1, 10⟩) b3 rfl
  · exact rd_one (f := Brn.enc) (⟨-1, 100, 0⟩) b4 rfl
  · exact rd_one (f := Clr.enc) (⟨0, 0, 50, 4, 18000⟩) b5 rfl
  · exact rd_one (f := encI) (100000) b6 rfl
end Go.Proofs.Ytldbciflpnhfpaa
