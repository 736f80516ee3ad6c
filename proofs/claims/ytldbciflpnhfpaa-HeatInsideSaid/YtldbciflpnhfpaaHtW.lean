/- law07: awake. -/
import Derived.Test.YtldbciflpnhfpaaHtV

set_option linter.unusedSimpArgs false
set_option linter.unusedVariables false
namespace Go.Proofs.Ytldbciflpnhfpaa
open Go.RowKit

theorem Blk.rdI9 {w : World} {g : Nat} {l : List Int} {n : Nat} (h : Blk w g 3 (intsA l)) (hn : l.length = n) : Rd w w.heap.size 1 encI (some ⟨g, 0, none⟩) n l := by
  subst hn
  exact Blk.rdI h
theorem rd_brs {w : World} {b : Nat} {T : TypeId} (h : Blk w b T (exB.brs.flatMap Brn.enc).toArray) : Rd w w.heap.size 3 Brn.enc (some ⟨b, 0, none⟩) 4 exB.brs := by
  refine ⟨rfl, fun _ => ⟨b, 0, rfl, h.lt, fun i x hx j u hu => ?_⟩⟩
  rw [h.cell]
  rcases i with _ | _ | _ | _ | i
  all_goals first | (simp [exB] at hx; done) | skip
  all_goals
    simp only [exB, List.getElem?_cons_zero, List.getElem?_cons_succ, Option.some.injEq] at hx
    subst hx
    rcases j with _ | _ | _ | j
    all_goals simp [Brn.enc, exB] at hu ⊢
    all_goals exact hu
theorem ex_nextC (out pump : Int) (y : Int) (hy : nxL exH [22000] [100000] out pump = [y]) (ho : 0 ≤ out ∧ out ≤ 1000000) (hp : 0 ≤ pump ∧ pump ≤ 100000) (rA wA bA cA lA tA : Option Addr) (w : World) (hin : HlIn w w.heap.size ⟨rA, wA, bA, cA, 1, 1, 1, 1⟩ exH) (ht : Rd w w.heap.size 1 encI tA 1 [22000]) (hl : Rd w w.heap.size 1 encI lA 1 [100000]) :
    Calls Try.prog 13 #[.agg #[.slice rA 1 1, .slice wA 1 1, .slice bA 1 1, .slice cA 1 1], .slice tA 1 1, .agg #[.slice lA 1 1, .int .i64 out, .int .i64 pump]] w fun e w' => ∃ lb, e = .returned (.tuple #[.slice (some ⟨lb, 0, none⟩) 1 1, .int .i64 0]) ∧ Blk w' lb 3 (intsA [y]) ∧ Below w.heap.size w w' := by
  refine (Next_any rA wA bA cA lA tA 1 1 1 1 1 1 1 1 1 1 out pump exH [22000] [100000] w hin exH_ok ho hp ht (by decide) hl (by decide)).mono ?_
  rintro e w' ⟨lb, rfl, h1, _, h2⟩
  rw [hy] at h1
  exact ⟨lb, rfl, h1, h2⟩
theorem ex_flowsC (rA wA bA cA : Option Addr) (w : World) (hin : HlIn w w.heap.size ⟨rA, wA, bA, cA, 1, 1, 4, 1⟩ exB) :
    Calls Try.prog 27 #[.agg #[.slice rA 1 1, .slice wA 1 1, .slice bA 4 4, .slice cA 1 1], .int .i64 100] w fun e w' => ∃ lb, e = .returned (.tuple #[.slice (some ⟨lb, 0, none⟩) 4 4, .int .i64 0]) ∧ Blk w' lb 3 (intsA [100, 33, 0, 33]) ∧ Below w.heap.size w w' := by
  refine (Flows_any rA wA bA cA 1 1 1 1 4 4 1 1 exB w hin exB_ok 100 (by omega)).mono ?_
  rintro e w' ⟨lb, rfl, h1, _, h2⟩
  rw [ex_flows] at h1
  exact ⟨lb, rfl, h1, h2⟩
set_option maxRecDepth 100000 in
set_option maxHeartbeats 4000000 in
theorem awake_any (w : World) : Calls Try.prog 17 #[] w fun e w' => e = .returned (.bool true) ∧ Below w.heap.size w w' := by
  have KX := Lib.hid example_any
  have KN1 := Lib.hid (ex_nextC 20000 100 22079 ex_next1 (by omega) (by omega))
  have KN2 := Lib.hid (ex_nextC 20000 50000 21880 ex_next2 (by omega) (by omega))
  have KF := Lib.hid ex_flowsC
  have KE := Lib.hid (fun A A' c c' (x : Int) W h1 h2 => Equal_yes A A' 1 c c' [x] W h1 h2 (by decide))
  have KE4 := Lib.hid (fun A A' c c' W h1 h2 => Equal_yes A A' 4 c c' [100, 33, 0, 33] W h1 h2 (by decide))
  go_enter Try.func17, Try.ntmps17
  go_wp2_with fail
  refine (KX.out 100 _).mono ?_
  rintro e w1 ⟨a1, a2, a3, a4, a5, rfl, hin, hrl, hB⟩
  have B0 : Hid (Below w.heap.size w w1) := Lib.hid hB
  clear hB
  have I1 := Lib.hid hin
  have L1 := Lib.hid hrl
  clear hin hrl
  have g1 : w1.heap.size < w1.heap.size + 1 := by omega
  have g2 : w1.heap.size < w1.heap.size + 1 + 1 := by omega
  go_wp2_with fail
  obtain ⟨x1, hx1⟩ : ∃ z, z = w1.heap.size := ⟨_, rfl⟩
  obtain ⟨w2, hw2⟩ : ∃ z, z = w1.alloc (.cells #[.slice (some ⟨a1, 0, none⟩) 1 1, .slice (some ⟨a2, 0, none⟩) 1 1, .slice (some ⟨a3, 0, none⟩) 1 1, .slice (some ⟨a4, 0, none⟩) 1 1] 28) := ⟨_, rfl⟩
  have X1 : Hid (Blk w2 x1 28 #[.slice (some ⟨a1, 0, none⟩) 1 1, .slice (some ⟨a2, 0, none⟩) 1 1, .slice (some ⟨a3, 0, none⟩) 1 1, .slice (some ⟨a4, 0, none⟩) 1 1]) := Lib.hid (by rw [hw2, hx1]; exact heap_alloc_new w1 _)
  have Sw2 : Hid (w2.heap.size = x1 + 1) := Lib.hid (by rw [hw2, hx1, World.size_alloc])
  have Zx1 : Hid (w1.heap.size ≤ x1) := Lib.hid (by rw [hx1]; exact Nat.le_refl _)
  have hBn : Below w1.heap.size w1 w2 := by rw [hw2]; exact (Below.refl _ _).alloc (Nat.le_refl _) _
  rw [← hw2, ← hx1]
  have B1 : Hid (Below w1.heap.size w1 w2) := Lib.hid hBn
  clear hw2 hx1 hBn
  obtain ⟨x2, hx2⟩ : ∃ z, z = x1 + 1 := ⟨_, rfl⟩
  obtain ⟨w3, hw3⟩ : ∃ z, z = w2.alloc (.cells #[.slice (some ⟨a5, 0, none⟩) 1 1, .int .i64 20000, .int .i64 100] 35) := ⟨_, rfl⟩
  have X2 : Hid (Blk w3 x2 35 #[.slice (some ⟨a5, 0, none⟩) 1 1, .int .i64 20000, .int .i64 100]) := Lib.hid (by have e2 := heap_alloc_new w2 (.cells #[.slice (some ⟨a5, 0, none⟩) 1 1, .int .i64 20000, .int .i64 100] 35); rw [Sw2.out] at e2; rw [hw3, hx2]; exact e2)
  have Sw3 : Hid (w3.heap.size = x2 + 1) := Lib.hid (by rw [hw3, hx2, World.size_alloc, Sw2.out])
  have Zx2 : Hid (w2.heap.size = x2) := Lib.hid (by rw [Sw2.out, hx2])
  have hBn : Below w2.heap.size w2 w3 := by rw [hw3]; exact (Below.refl _ _).alloc (Nat.le_refl _) _
  rw [← hw3, ← hx2]
  have B2 : Hid (Below w2.heap.size w2 w3) := Lib.hid hBn
  clear hw3 hx2 hBn
  clear g1 g2
  refine (KX.out 50000 _).mono ?_
  rintro e w4 ⟨d1, d2, d3, d4, d5, rfl, hin, hrl, hB⟩
  have B3 : Hid (Below w3.heap.size w3 w4) := Lib.hid hB
  clear hB
  have I2 := Lib.hid hin
  have L2 := Lib.hid hrl
  clear hin hrl
  have g1 : w4.heap.size < w4.heap.size + 1 := by omega
  have g2 : w4.heap.size < w4.heap.size + 1 + 1 := by omega
  have g3 : w4.heap.size < w4.heap.size + 1 + 1 + 1 := by omega
  have hbk := X1.out.below (below3 B2.out B3.out (Nat.le_refl _)) X1.out.lt
  have p0 := hbk.cell 0
  have p1 := hbk.cell 1
  have p2 := hbk.cell 2
  have p3 := hbk.cell 3
  simp only [List.getElem?_toArray, List.getElem?_cons_zero, List.getElem?_cons_succ] at p0 p1 p2 p3
  have zp := hbk.lt
  clear hbk
  have hbk := X2.out.below B3.out X2.out.lt
  have q0 := hbk.cell 0
  have q1 := hbk.cell 1
  have q2 := hbk.cell 2
  simp only [List.getElem?_toArray, List.getElem?_cons_zero, List.getElem?_cons_succ] at q0 q1 q2
  have zq := hbk.lt
  clear hbk
  have zq1 : x2 < w4.heap.size + 1 := by omega
  have zq2 : x2 < w4.heap.size + 1 + 1 := by omega
  have zp1 : x1 < w4.heap.size + 1 := by omega
  have zp2 : x1 < w4.heap.size + 1 + 1 := by omega
  go_wp2_with fail
  obtain ⟨y1, hy1⟩ : ∃ z, z = w4.heap.size := ⟨_, rfl⟩
  obtain ⟨w5, hw5⟩ : ∃ z, z = w4.alloc (.cells #[.slice (some ⟨d1, 0, none⟩) 1 1, .slice (some ⟨d2, 0, none⟩) 1 1, .slice (some ⟨d3, 0, none⟩) 1 1, .slice (some ⟨d4, 0, none⟩) 1 1] 28) := ⟨_, rfl⟩
  have Y1 : Hid (Blk w5 y1 28 #[.slice (some ⟨d1, 0, none⟩) 1 1, .slice (some ⟨d2, 0, none⟩) 1 1, .slice (some ⟨d3, 0, none⟩) 1 1, .slice (some ⟨d4, 0, none⟩) 1 1]) := Lib.hid (by rw [hw5, hy1]; exact heap_alloc_new w4 _)
  have Sw5 : Hid (w5.heap.size = y1 + 1) := Lib.hid (by rw [hw5, hy1, World.size_alloc])
  have Zy1 : Hid (w4.heap.size ≤ y1) := Lib.hid (by rw [hy1]; exact Nat.le_refl _)
  have hBn : Below w4.heap.size w4 w5 := by rw [hw5]; exact (Below.refl _ _).alloc (Nat.le_refl _) _
  rw [← hw5, ← hy1]
  have B4 : Hid (Below w4.heap.size w4 w5) := Lib.hid hBn
  clear hw5 hy1 hBn
  obtain ⟨y2, hy2⟩ : ∃ z, z = y1 + 1 := ⟨_, rfl⟩
  obtain ⟨w6, hw6⟩ : ∃ z, z = w5.alloc (.cells #[.slice (some ⟨d5, 0, none⟩) 1 1, .int .i64 20000, .int .i64 50000] 35) := ⟨_, rfl⟩
  have Y2 : Hid (Blk w6 y2 35 #[.slice (some ⟨d5, 0, none⟩) 1 1, .int .i64 20000, .int .i64 50000]) := Lib.hid (by have e2 := heap_alloc_new w5 (.cells #[.slice (some ⟨d5, 0, none⟩) 1 1, .int .i64 20000, .int .i64 50000] 35); rw [Sw5.out] at e2; rw [hw6, hy2]; exact e2)
  have Sw6 : Hid (w6.heap.size = y2 + 1) := Lib.hid (by rw [hw6, hy2, World.size_alloc, Sw5.out])
  have Zy2 : Hid (w5.heap.size = y2) := Lib.hid (by rw [Sw5.out, hy2])
  have hBn : Below w5.heap.size w5 w6 := by rw [hw6]; exact (Below.refl _ _).alloc (Nat.le_refl _) _
  rw [← hw6, ← hy2]
  have B5 : Hid (Below w5.heap.size w5 w6) := Lib.hid hBn
  clear hw6 hy2 hBn
  obtain ⟨t1, ht1⟩ : ∃ z, z = y2 + 1 := ⟨_, rfl⟩
  obtain ⟨w7, hw7⟩ : ∃ z, z = w6.alloc (.cells #[.int .i64 22000] 3) := ⟨_, rfl⟩
  have T1 : Hid (Blk w7 t1 3 #[.int .i64 22000]) := Lib.hid (by have e2 := heap_alloc_new w6 (.cells #[.int .i64 22000] 3); rw [Sw6.out] at e2; rw [hw7, ht1]; exact e2)
  have Sw7 : Hid (w7.heap.size = t1 + 1) := Lib.hid (by rw [hw7, ht1, World.size_alloc, Sw6.out])
  have Zt1 : Hid (w6.heap.size = t1) := Lib.hid (by rw [Sw6.out, ht1])
  have hBn : Below w6.heap.size w6 w7 := by rw [hw7]; exact (Below.refl _ _).alloc (Nat.le_refl _) _
  rw [← hw7, ← ht1]
  have B6 : Hid (Below w6.heap.size w6 w7) := Lib.hid hBn
  clear hw7 ht1 hBn
  clear g1 g2 g3 p0 p1 p2 p3 q0 q1 q2 zp zq zq1 zq2 zp1 zp2
  refine (KN1.out _ _ _ _ _ _ _ (I1.out.next (below3 (below3 (below3 (below3 (below3 B1.out B2.out (Nat.le_refl _)) B3.out (Nat.le_refl _)) B4.out (Nat.le_refl _)) B5.out (Nat.le_refl _)) B6.out (Nat.le_refl _))) (rd_one (f := encI) 22000 T1.out rfl) (L1.out.next (below3 (below3 (below3 (below3 (below3 B1.out B2.out (Nat.le_refl _)) B3.out (Nat.le_refl _)) B4.out (Nat.le_refl _)) B5.out (Nat.le_refl _)) B6.out (Nat.le_refl _)))).mono ?_
  rintro e w8 ⟨z1, rfl, hz1, hB⟩
  have B7 : Hid (Below w7.heap.size w7 w8) := Lib.hid hB
  clear hB
  have Z1 := Lib.hid hz1
  clear hz1
  have hbk := X1.out.below (below3 (below3 (below3 (below3 (below3 B2.out B3.out (Nat.le_refl _)) B4.out (Nat.le_refl _)) B5.out (Nat.le_refl _)) B6.out (Nat.le_refl _)) B7.out (Nat.le_refl _)) X1.out.lt
  have p0 := hbk.cell 0
  have p1 := hbk.cell 1
  have p2 := hbk.cell 2
  have p3 := hbk.cell 3
  simp only [List.getElem?_toArray, List.getElem?_cons_zero, List.getElem?_cons_succ] at p0 p1 p2 p3
  have zp := hbk.lt
  clear hbk
  have hbk := Y2.out.below (below3 B6.out B7.out (Nat.le_refl _)) Y2.out.lt
  have q0 := hbk.cell 0
  have q1 := hbk.cell 1
  have q2 := hbk.cell 2
  simp only [List.getElem?_toArray, List.getElem?_cons_zero, List.getElem?_cons_succ] at q0 q1 q2
  have zq := hbk.lt
  clear hbk
  have zq1 : y2 < w8.heap.size + 1 := by omega
  have g1 : w8.heap.size < w8.heap.size + 1 := by omega
  go_wp2_with fail
  obtain ⟨t2, ht2⟩ : ∃ z, z = w8.heap.size := ⟨_, rfl⟩
  obtain ⟨w9, hw9⟩ : ∃ z, z = w8.alloc (.cells #[.int .i64 22000] 3) := ⟨_, rfl⟩
  have T2 : Hid (Blk w9 t2 3 #[.int .i64 22000]) := Lib.hid (by rw [hw9, ht2]; exact heap_alloc_new w8 _)
  have Sw9 : Hid (w9.heap.size = t2 + 1) := Lib.hid (by rw [hw9, ht2, World.size_alloc])
  have Zt2 : Hid (w8.heap.size ≤ t2) := Lib.hid (by rw [ht2]; exact Nat.le_refl _)
  have hBn : Below w8.heap.size w8 w9 := by rw [hw9]; exact (Below.refl _ _).alloc (Nat.le_refl _) _
  rw [← hw9, ← ht2]
  have B8 : Hid (Below w8.heap.size w8 w9) := Lib.hid hBn
  clear hw9 ht2 hBn
  clear g1 p0 p1 p2 p3 q0 q1 q2 zp zq zq1
  refine (KN2.out _ _ _ _ _ _ _ (I1.out.next (below3 (below3 (below3 (below3 (below3 (below3 (below3 B1.out B2.out (Nat.le_refl _)) B3.out (Nat.le_refl _)) B4.out (Nat.le_refl _)) B5.out (Nat.le_refl _)) B6.out (Nat.le_refl _)) B7.out (Nat.le_refl _)) B8.out (Nat.le_refl _))) (rd_one (f := encI) 22000 T2.out rfl) (L2.out.next (below3 (below3 (below3 (below3 B4.out B5.out (Nat.le_refl _)) B6.out (Nat.le_refl _)) B7.out (Nat.le_refl _)) B8.out (Nat.le_refl _)))).mono ?_
  rintro e w10 ⟨z2, rfl, hz2, hB⟩
  have B9 : Hid (Below w9.heap.size w9 w10) := Lib.hid hB
  clear hB
  have Z2 := Lib.hid hz2
  clear hz2
  have hbk := X1.out.below (below3 (below3 (below3 (below3 (below3 (below3 (below3 B2.out B3.out (Nat.le_refl _)) B4.out (Nat.le_refl _)) B5.out (Nat.le_refl _)) B6.out (Nat.le_refl _)) B7.out (Nat.le_refl _)) B8.out (Nat.le_refl _)) B9.out (Nat.le_refl _)) X1.out.lt
  have p0 := hbk.cell 0
  have p1 := hbk.cell 1
  have p2 := hbk.cell 2
  have p3 := hbk.cell 3
  simp only [List.getElem?_toArray, List.getElem?_cons_zero, List.getElem?_cons_succ] at p0 p1 p2 p3
  have zp := hbk.lt
  clear hbk
  have fp := (X1.out.below (below3 (below3 (below3 (below3 (below3 (below3 (below3 B2.out B3.out (Nat.le_refl _)) B4.out (Nat.le_refl _)) B5.out (Nat.le_refl _)) B6.out (Nat.le_refl _)) B7.out (Nat.le_refl _)) B8.out (Nat.le_refl _)) B9.out (Nat.le_refl _)) X1.out.lt).frozen
  have g1 : w10.heap.size < w10.heap.size + 1 := by omega
  go_wp2_with fail
  have HXB : Hid (w1.heap.size ≤ x1) := Lib.hid Zx1.out
  obtain ⟨w11, hw11⟩ : ∃ z, z = (w10.setCell ⟨x1, 2, none⟩ (.slice (some ⟨w10.heap.size, 0, none⟩) 4 4)).alloc (.cells #[.int .i64 (-1), .int .i64 0, .int .i64 0, .int .i64 0, .int .i64 1, .int .i64 0, .int .i64 0, .int .i64 1, .int .i64 40, .int .i64 0, .int .i64 1, .int .i64 0] 71) := ⟨_, rfl⟩
  obtain ⟨b9, hb9⟩ : ∃ z, z = w10.heap.size := ⟨_, rfl⟩
  have hlow : Below w1.heap.size w1 w11 := by
    rw [hw11]
    exact ((below3 (below3 (below3 (below3 (below3 (below3 (below3 (below3 B1.out B2.out (Nat.le_refl _)) B3.out (Nat.le_refl _)) B4.out (Nat.le_refl _)) B5.out (Nat.le_refl _)) B6.out (Nat.le_refl _)) B7.out (Nat.le_refl _)) B8.out (Nat.le_refl _)) B9.out (Nat.le_refl _)).setCell HXB.out _).alloc (Nat.le_trans (below3 (below3 (below3 (below3 (below3 (below3 (below3 (below3 B1.out B2.out (Nat.le_refl _)) B3.out (Nat.le_refl _)) B4.out (Nat.le_refl _)) B5.out (Nat.le_refl _)) B6.out (Nat.le_refl _)) B7.out (Nat.le_refl _)) B8.out (Nat.le_refl _)) B9.out (Nat.le_refl _)).size (Nat.le_of_eq (World.size_setCell _ _ _).symm)) _
  have hbr : Blk w11 b9 71 #[.int .i64 (-1), .int .i64 0, .int .i64 0, .int .i64 0, .int .i64 1, .int .i64 0, .int .i64 0, .int .i64 1, .int .i64 40, .int .i64 0, .int .i64 1, .int .i64 0] := by
    rw [hw11, hb9]
    have h := heap_alloc_new (w10.setCell ⟨x1, 2, none⟩ (.slice (some ⟨w10.heap.size, 0, none⟩) 4 4)) (.cells #[.int .i64 (-1), .int .i64 0, .int .i64 0, .int .i64 0, .int .i64 1, .int .i64 0, .int .i64 0, .int .i64 1, .int .i64 40, .int .i64 0, .int .i64 1, .int .i64 0] 71)
    rw [World.size_setCell] at h
    exact h
  have hin : HlIn w11 w11.heap.size ⟨some ⟨a1, 0, none⟩, some ⟨a2, 0, none⟩, some ⟨b9, 0, none⟩, some ⟨a4, 0, none⟩, 1, 1, 4, 1⟩ exB := ⟨I1.out.rm.next hlow, I1.out.wl.next hlow, rd_brs hbr, I1.out.cl.next hlow⟩
  have hz12 : Blk w11 z1 3 (intsA [22079]) ∧ Blk w11 z2 3 (intsA [21880]) := by
    have h1 := Z1.out.below (below3 B8.out B9.out (Nat.le_refl _)) Z1.out.lt
    have h2 := Z2.out
    have hb := X1.out.below (below3 (below3 (below3 (below3 (below3 (below3 (below3 B2.out B3.out (Nat.le_refl _)) B4.out (Nat.le_refl _)) B5.out (Nat.le_refl _)) B6.out (Nat.le_refl _)) B7.out (Nat.le_refl _)) B8.out (Nat.le_refl _)) B9.out (Nat.le_refl _)) X1.out.lt
    rw [hw11]
    exact ⟨(h1.far (fun e => blk_ne h1 hb (by decide) e) _).alloc _, (h2.far (fun e => blk_ne h2 hb (by decide) e) _).alloc _⟩
  have HL11 : Hid (Below w.heap.size w w11) := Lib.hid (B0.out.trans (hlow.mono B0.out.size))
  have I3 := Lib.hid hin
  have Z12 := Lib.hid hz12
  rw [← hw11, ← hb9]
  clear hw11 hb9 hlow hbr hin hz12 p0 p1 p2 p3 zp fp g1
  refine (KF.out _ _ _ _ _ I3.out).mono ?_
  rintro e w12 ⟨z3, rfl, hz3, hB⟩
  have BX : Hid (Below w11.heap.size w11 w12) := Lib.hid hB
  have Z3 := Lib.hid hz3
  clear hB hz3
  go_wp2_with fail
  obtain ⟨w13, hw13⟩ : ∃ z, z = w12.alloc (.cells #[.int .i64 22079] 3) := ⟨_, rfl⟩
  obtain ⟨n1, hn1⟩ : ∃ z, z = w12.heap.size := ⟨_, rfl⟩
  have hB : Below w12.heap.size w12 w13 := by rw [hw13]; exact (Below.refl _ _).alloc (Nat.le_refl _) _
  have hN : Blk w13 n1 3 (intsA [22079]) := by rw [hw13, hn1]; exact heap_alloc_new w12 _
  have B13 := Lib.hid hB
  have N1 := Lib.hid hN
  rw [← hw13, ← hn1]
  clear hw13 hn1 hB hN
  have h1 := (Z12.out.1.below BX.out Z12.out.1.lt).below B13.out (Nat.lt_of_lt_of_le Z12.out.1.lt BX.out.size)
  have C := Lib.hid (KE.out _ _ 1 1 22079 w13 (Blk.rdI9 h1 rfl) (Blk.rdI9 N1.out rfl))
  clear h1
  refine C.out.mono ?_
  rintro e w14 ⟨rfl, hB⟩
  have B14 := Lib.hid hB
  clear hB C
  go_wp2_with fail
  obtain ⟨w15, hw15⟩ : ∃ z, z = w14.alloc (.cells #[.int .i64 21880] 3) := ⟨_, rfl⟩
  obtain ⟨n2, hn2⟩ : ∃ z, z = w14.heap.size := ⟨_, rfl⟩
  have hB : Below w14.heap.size w14 w15 := by rw [hw15]; exact (Below.refl _ _).alloc (Nat.le_refl _) _
  have hN : Blk w15 n2 3 (intsA [21880]) := by rw [hw15, hn2]; exact heap_alloc_new w14 _
  have B15 := Lib.hid hB
  have N2 := Lib.hid hN
  rw [← hw15, ← hn2]
  clear hw15 hn2 hB hN
  have HC1 : Hid (Below w12.heap.size w12 w15) := Lib.hid (below3 (below3 B13.out B14.out (Nat.le_refl _)) B15.out (Nat.le_refl _))
  have HC2 : Hid (Below w11.heap.size w11 w15) := Lib.hid (below3 BX.out HC1.out (Nat.le_refl _))
  have C := Lib.hid (KE.out _ _ 1 1 21880 w15 (Blk.rdI9 (Z12.out.2.below HC2.out Z12.out.2.lt) rfl) (Blk.rdI9 N2.out rfl))
  refine C.out.mono ?_
  rintro e w16 ⟨rfl, hB⟩
  have B16 := Lib.hid hB
  clear hB C
  go_wp2_with fail
  obtain ⟨w17, hw17⟩ : ∃ z, z = w16.alloc (.cells #[.int .i64 100, .int .i64 33, .int .i64 0, .int .i64 33] 3) := ⟨_, rfl⟩
  obtain ⟨n3, hn3⟩ : ∃ z, z = w16.heap.size := ⟨_, rfl⟩
  have hB : Below w16.heap.size w16 w17 := by rw [hw17]; exact (Below.refl _ _).alloc (Nat.le_refl _) _
  have hN : Blk w17 n3 3 (intsA [100, 33, 0, 33]) := by rw [hw17, hn3]; exact heap_alloc_new w16 _
  have B17 := Lib.hid hB
  have N3 := Lib.hid hN
  rw [← hw17, ← hn3]
  clear hw17 hn3 hB hN
  have HC3 : Hid (Below w12.heap.size w12 w17) := Lib.hid (below3 (below3 HC1.out B16.out (Nat.le_refl _)) B17.out (Nat.le_refl _))
  have C := Lib.hid (KE4.out _ _ 4 4 w17 (Blk.rdI9 (Z3.out.below HC3.out Z3.out.lt) rfl) (Blk.rdI9 N3.out rfl))
  refine C.out.mono ?_
  rintro e w18 ⟨rfl, hB⟩
  have HFIN : Hid (Below w.heap.size w w18) := Lib.hid (below3 HL11.out (below3 (below3 BX.out HC3.out (Nat.le_refl _)) hB (Nat.le_refl _)) (Nat.le_refl _))
  clear hB C
  go_wp2
  go_ret
  exact ⟨rfl, HFIN.out⟩
end Go.Proofs.Ytldbciflpnhfpaa
