/- law07: classed. -/
import Derived.Test.YtndlbjcakfhdiaaHtSo

set_option linter.unusedSimpArgs false
set_option linter.unusedVariables false
namespace Go.Proofs.Ytndlbjcakfhdiaa
open Go.RowKit

set_option maxRecDepth 100000 in
set_option maxHeartbeats 4000000 in
theorem classed_any (A B : Option Addr) (n ac bc : Nat) (a b : List Int) (o1 p1 o2 p2 : Int) (w : World) (hn : 1 ≤ n ∧ n ≤ 8) (ha : Rd w w.heap.size 1 encI A n a) (hb : Rd w w.heap.size 1 encI B n b) :
    Calls Try.prog 11 #[.agg #[.slice A n ac, .int .i64 o1, .int .i64 p1], .agg #[.slice B n bc, .int .i64 o2, .int .i64 p2]] w fun e w' => ∃ lb hb lc hc, e = .returned (.agg #[.slice (some ⟨lb, 0, none⟩) n lc, .int .i64 (min o1 o2), .int .i64 (max p1 p2), .slice (some ⟨hb, 0, none⟩) n hc, .int .i64 (max o1 o2), .int .i64 (min p1 p2)]) ∧ RowW w' lb 3 encI (some ⟨lb, 0, none⟩) (mnL a b) ∧ RowW w' hb 3 encI (some ⟨hb, 0, none⟩) (mxL a b) ∧ Below w.heap.size w w' := by
  have KS := Lib.hid (fun W (hW : Below w.heap.size w W) => sorted_any A B n ac bc a b W hn (ha.next hW) (hb.next hW))
  have g1 : w.heap.size < w.heap.size + 1 := by omega
  have g2 : w.heap.size < w.heap.size + 1 + 1 := by omega
  have g3 : w.heap.size < w.heap.size + 1 + 1 + 1 := by omega
  have g4 : w.heap.size + 1 < w.heap.size + 1 + 1 + 1 := by omega
  clear ha hb hn
  go_enter Try.func11, Try.ntmps11
  go_wp2_with fail
  obtain ⟨x1, hx1⟩ : ∃ z, z = w.heap.size := ⟨_, rfl⟩
  obtain ⟨w1, hw1⟩ : ∃ z, z = w.alloc (.cells #[.slice A n ac, .int .i64 o1, .int .i64 p1] 35) := ⟨_, rfl⟩
  have X1 : Hid (Blk w1 x1 35 #[.slice A n ac, .int .i64 o1, .int .i64 p1]) := Lib.hid (by rw [hw1, hx1]; exact heap_alloc_new w _)
  have Sw1 : Hid (w1.heap.size = x1 + 1) := Lib.hid (by rw [hw1, hx1, World.size_alloc])
  have Zx1 : Hid (w.heap.size ≤ x1) := Lib.hid (by rw [hx1]; exact Nat.le_refl _)
  have hBn : Below w.heap.size w w1 := by rw [hw1]; exact (Below.refl _ _).alloc (Nat.le_refl _) _
  rw [← hw1, ← hx1]
  have B0 : Hid (Below w.heap.size w w1) := Lib.hid hBn
  clear hw1 hx1 hBn
  obtain ⟨x2, hx2⟩ : ∃ z, z = x1 + 1 := ⟨_, rfl⟩
  obtain ⟨w2, hw2⟩ : ∃ z, z = w1.alloc (.cells #[.slice B n bc, .int .i64 o2, .int .i64 p2] 35) := ⟨_, rfl⟩
  have X2 : Hid (Blk w2 x2 35 #[.slice B n bc, .int .i64 o2, .int .i64 p2]) := Lib.hid (by have e2 := heap_alloc_new w1 (.cells #[.slice B n bc, .int .i64 o2, .int .i64 p2] 35); rw [Sw1.out] at e2; rw [hw2, hx2]; exact e2)
  have Sw2 : Hid (w2.heap.size = x2 + 1) := Lib.hid (by rw [hw2, hx2, World.size_alloc, Sw1.out])
  have Zx2 : Hid (w1.heap.size = x2) := Lib.hid (by rw [Sw1.out, hx2])
  have hBn : Below w1.heap.size w1 w2 := by rw [hw2]; exact (Below.refl _ _).alloc (Nat.le_refl _) _
  rw [← hw2, ← hx2]
  have B1 : Hid (Below w1.heap.size w1 w2) := Lib.hid hBn
  clear hw2 hx2 hBn
  obtain ⟨rb, hrb⟩ : ∃ z, z = x2 + 1 := ⟨_, rfl⟩
  obtain ⟨w3, hw3⟩ : ∃ z, z = w2.alloc (.cells #[.slice none 0 0, .int .i64 0, .int .i64 0, .slice none 0 0, .int .i64 0, .int .i64 0] 37) := ⟨_, rfl⟩
  have RB : Hid (Blk w3 rb 37 #[.slice none 0 0, .int .i64 0, .int .i64 0, .slice none 0 0, .int .i64 0, .int .i64 0]) := Lib.hid (by have e2 := heap_alloc_new w2 (.cells #[.slice none 0 0, .int .i64 0, .int .i64 0, .slice none 0 0, .int .i64 0, .int .i64 0] 37); rw [Sw2.out] at e2; rw [hw3, hrb]; exact e2)
  have Sw3 : Hid (w3.heap.size = rb + 1) := Lib.hid (by rw [hw3, hrb, World.size_alloc, Sw2.out])
  have Zrb : Hid (w2.heap.size = rb) := Lib.hid (by rw [Sw2.out, hrb])
  have hBn : Below w2.heap.size w2 w3 := by rw [hw3]; exact (Below.refl _ _).alloc (Nat.le_refl _) _
  rw [← hw3, ← hrb]
  have B2 : Hid (Below w2.heap.size w2 w3) := Lib.hid hBn
  clear hw3 hrb hBn
  clear g1 g2 g3 g4
  refine (KS.out _ (below3 (below3 B0.out B1.out (Nat.le_refl _)) B2.out (Nat.le_refl _))).mono ?_
  rintro e w4 ⟨lb, hb, lc, hc, rfl, h1, h2, hB⟩
  have B3 : Hid (Below w3.heap.size w3 w4) := Lib.hid hB
  clear hB
  have HL := Lib.hid (And.intro h1 h2)
  clear h1 h2
  have hbk := X1.out.below (below3 (below3 B1.out B2.out (Nat.le_refl _)) B3.out (Nat.le_refl _)) X1.out.lt
  have s0 := hbk.cell 0
  have s1 := hbk.cell 1
  have s2 := hbk.cell 2
  simp only [List.getElem?_toArray, List.getElem?_cons_zero, List.getElem?_cons_succ] at s0 s1 s2
  have zs := hbk.lt
  clear hbk
  have hbk := X2.out.below (below3 B2.out B3.out (Nat.le_refl _)) X2.out.lt
  have t0 := hbk.cell 0
  have t1 := hbk.cell 1
  have t2 := hbk.cell 2
  simp only [List.getElem?_toArray, List.getElem?_cons_zero, List.getElem?_cons_succ] at t0 t1 t2
  have zt := hbk.lt
  clear hbk
  have hres := RB.out.below B3.out RB.out.lt
  have d0 := hres.cell 0
  have d1 := hres.cell 1
  have d2 := hres.cell 2
  have d3 := hres.cell 3
  have d4 := hres.cell 4
  have d5 := hres.cell 5
  simp only [List.getElem?_toArray, List.getElem?_cons_zero, List.getElem?_cons_succ] at d0 d1 d2 d3 d4 d5
  have zr := hres.lt
  have fr := hres.frozen
  obtain ⟨W', hW'⟩ : ∃ z, z = ((((((w4.setCell ⟨rb, 0, none⟩ (.slice (some ⟨lb, 0, none⟩) n lc)).setCell ⟨rb, 1, none⟩ (.int .i64 (min o1 o2))).setCell ⟨rb, 2, none⟩ (.int .i64 (max p1 p2))).setCell ⟨rb, 3, none⟩ (.slice (some ⟨hb, 0, none⟩) n hc)).setCell ⟨rb, 4, none⟩ (.int .i64 (max o1 o2))).setCell ⟨rb, 5, none⟩ (.int .i64 (min p1 p2))) := ⟨_, rfl⟩
  have hkk : Keep (fun b => b = rb) w4 W' := by rw [hW']; exact (((((((Keep.refl (fun b => b = rb) w4).setCell rfl _).setCell rfl _).setCell rfl _).setCell rfl _).setCell rfl _).setCell rfl _)
  have hrow : Blk W' rb 37 #[.slice (some ⟨lb, 0, none⟩) n lc, .int .i64 (min o1 o2), .int .i64 (max p1 p2), .slice (some ⟨hb, 0, none⟩) n hc, .int .i64 (max o1 o2), .int .i64 (min p1 p2)] := by
    have h := ((((((hres.set_ 0 (.slice (some ⟨lb, 0, none⟩) n lc)).set_ 1 (.int .i64 (min o1 o2))).set_ 2 (.int .i64 (max p1 p2))).set_ 3 (.slice (some ⟨hb, 0, none⟩) n hc)).set_ 4 (.int .i64 (max o1 o2))).set_ 5 (.int .i64 (min p1 p2)))
    rw [hW']
    simpa using h
  have HROW := Lib.hid hrow
  have HF : Hid (RowW W' lb 3 encI (some ⟨lb, 0, none⟩) (mnL a b) ∧ RowW W' hb 3 encI (some ⟨hb, 0, none⟩) (mxL a b) ∧ Below w.heap.size w W') := Lib.hid ⟨HL.out.1.apart hkk hres (by decide), HL.out.2.apart hkk hres (by decide), (below3 (below3 (below3 B0.out B1.out (Nat.le_refl _)) B2.out (Nat.le_refl _)) B3.out (Nat.le_refl _)).trans (hkk.below ((below3 (below3 (below3 B0.out B1.out (Nat.le_refl _)) B2.out (Nat.le_refl _)) B3.out (Nat.le_refl _))).size (fun b e => by rw [e]; have := Zrb.out; have := Zx2.out; have := Sw2.out; have := B0.out.size; have := B1.out.size; omega))⟩
  clear hres hkk hrow
  go_wp2
  rw [← hW']
  refine bodyPost_ret (results_cell_row rfl _ _ rb 37 _ _ _ rfl HROW.out Try.underlying37 rfl (by kernel_rfl)) rfl ?_
  exact ⟨lb, hb, lc, hc, rfl, HF.out⟩
end Go.Proofs.Ytndlbjcakfhdiaa
