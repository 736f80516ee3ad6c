/- meter: Make, where all is valid. -/
import Derived.Test.YtcecbohaajocfaaMtQ

set_option linter.unusedSimpArgs false
set_option linter.unusedVariables false
namespace Go.Proofs.Ytcecbohaajocfaa
open Go.RowKit

theorem isRight_bill (price vals : List Int) (base : Int) (l : List Sp) (credit out : Int) : ∃ a b c d : Int, billK price vals base l credit out = #[.int .i64 a, .int .i64 b, .int .i64 c, .int .i64 d] := ⟨_, _, _, _, rfl⟩
set_option maxRecDepth 100000 in
set_option maxHeartbeats 4000000 in
theorem Make_yes (price : List Int) (base : Int) (l : List Sp) (credit : Int) (vals : List Int) (out : Int) (pA tA uA : Option Addr) (pc tn tc un uc : Nat) (w : World) (ok : TrfOk ⟨price, base, l, credit⟩) (hin : TrfIn w w.heap.size tn pA tA ⟨price, base, l, credit⟩) (h1 : vals.length ≤ 1000) (hv : ∀ x ∈ vals, 0 ≤ x ∧ x ≤ 100000) (ho : 0 ≤ out ∧ out ≤ 50000) (hu : Rd w w.heap.size 1 encI uA un vals) :
    Calls Try.prog 27 #[.agg #[.slice pA 24 pc, .int .i64 base, .slice tA tn tc, .int .i64 credit], .agg #[.slice uA un uc, .int .i64 out]] w fun e w' => e = .returned (.tuple #[.agg (billK price vals base l credit out), .int .i64 0]) ∧ Below w.heap.size w w' := by
  have KT := Lib.hid (fun W (h : Below w.heap.size w W) => TisRight_yes price base l credit pA tA pc tn tc W ok (hin.next h))
  have KU := Lib.hid (fun W (h : Below w.heap.size w W) => UisRight_yes vals out uA un uc W h1 hv ho (hu.next h))
  have KB := Lib.hid (fun W (h : Below w.heap.size w W) => bill_any price base l credit vals out pA tA uA pc tn tc un uc W ok (hin.next h) h1 hv (hu.next h))
  have HN : Hid (vals.length = un ∧ l.length = tn) := Lib.hid ⟨hu.1, hin.t.1⟩
  have d1 : ¬ ((8 : Int) < (tn : Int)) := by have h8 := ok.tl; have h9 := hin.t.1; dsimp only at h8 h9; omega
  have d2 : ¬ ((1000 : Int) < (un : Int)) := by have h9 := hu.1; omega
  have g1 : w.heap.size < w.heap.size + 1 := by omega
  have g2 : w.heap.size < w.heap.size + 1 + 1 := by omega
  have g3 : w.heap.size < w.heap.size + 1 + 1 + 1 := by omega
  have g4 : w.heap.size + 1 < w.heap.size + 1 + 1 := by omega
  have g5 : w.heap.size + 1 < w.heap.size + 1 + 1 + 1 := by omega
  clear ok hin h1 hv ho hu
  go_enter Try.func27, Try.ntmps27
  go_wp2_with fail
  obtain ⟨tb, htb⟩ : ∃ z, z = w.heap.size := ⟨_, rfl⟩
  obtain ⟨w1, hw1⟩ : ∃ z, z = w.alloc (.cells #[.slice pA 24 pc, .int .i64 base, .slice tA tn tc, .int .i64 credit] 25) := ⟨_, rfl⟩
  have TB : Hid (Blk w1 tb 25 #[.slice pA 24 pc, .int .i64 base, .slice tA tn tc, .int .i64 credit]) := Lib.hid (by rw [hw1, htb]; exact heap_alloc_new w _)
  have Sw1 : Hid (w1.heap.size = tb + 1) := Lib.hid (by rw [hw1, htb, World.size_alloc])
  have Ztb : Hid (w.heap.size ≤ tb) := Lib.hid (by rw [htb]; exact Nat.le_refl _)
  have hBn : Below w.heap.size w w1 := by rw [hw1]; exact (Below.refl _ _).alloc (Nat.le_refl _) _
  rw [← hw1, ← htb]
  have B0 : Hid (Below w.heap.size w w1) := Lib.hid hBn
  clear hw1 htb hBn
  obtain ⟨ub, hub⟩ : ∃ z, z = tb + 1 := ⟨_, rfl⟩
  obtain ⟨w2, hw2⟩ : ∃ z, z = w1.alloc (.cells #[.slice uA un uc, .int .i64 out] 28) := ⟨_, rfl⟩
  have UB : Hid (Blk w2 ub 28 #[.slice uA un uc, .int .i64 out]) := Lib.hid (by have e2 := heap_alloc_new w1 (.cells #[.slice uA un uc, .int .i64 out] 28); rw [Sw1.out] at e2; rw [hw2, hub]; exact e2)
  have Sw2 : Hid (w2.heap.size = ub + 1) := Lib.hid (by rw [hw2, hub, World.size_alloc, Sw1.out])
  have Zub : Hid (w1.heap.size = ub) := Lib.hid (by rw [Sw1.out, hub])
  have hBn : Below w1.heap.size w1 w2 := by rw [hw2]; exact (Below.refl _ _).alloc (Nat.le_refl _) _
  rw [← hw2, ← hub]
  have B1 : Hid (Below w1.heap.size w1 w2) := Lib.hid hBn
  clear hw2 hub hBn
  obtain ⟨rb, hrb⟩ : ∃ z, z = ub + 1 := ⟨_, rfl⟩
  obtain ⟨w3, hw3⟩ : ∃ z, z = w2.alloc (.cells #[.int .i64 0, .int .i64 0, .int .i64 0, .int .i64 0] 77) := ⟨_, rfl⟩
  have RB : Hid (Blk w3 rb 77 #[.int .i64 0, .int .i64 0, .int .i64 0, .int .i64 0]) := Lib.hid (by have e2 := heap_alloc_new w2 (.cells #[.int .i64 0, .int .i64 0, .int .i64 0, .int .i64 0] 77); rw [Sw2.out] at e2; rw [hw3, hrb]; exact e2)
  have Sw3 : Hid (w3.heap.size = rb + 1) := Lib.hid (by rw [hw3, hrb, World.size_alloc, Sw2.out])
  have Zrb : Hid (w2.heap.size = rb) := Lib.hid (by rw [Sw2.out, hrb])
  have hBn : Below w2.heap.size w2 w3 := by rw [hw3]; exact (Below.refl _ _).alloc (Nat.le_refl _) _
  rw [← hw3, ← hrb]
  have B2 : Hid (Below w2.heap.size w2 w3) := Lib.hid hBn
  clear hw3 hrb hBn
  clear g1 g2 g3 g4 g5
  refine (KT.out _ (below3 (below3 B0.out B1.out (Nat.le_refl _)) B2.out (Nat.le_refl _))).mono ?_
  rintro e w4 ⟨rfl, hB⟩
  have B3 : Hid (Below w3.heap.size w3 w4) := Lib.hid hB
  clear hB
  have hbk := UB.out.below (below3 B2.out B3.out (Nat.le_refl _)) UB.out.lt
  have u0 := hbk.cell 0
  have u1 := hbk.cell 1
  simp only [List.getElem?_toArray, List.getElem?_cons_zero, List.getElem?_cons_succ] at u0 u1
  have zu := hbk.lt
  clear hbk
  go_wp2_with fail
  refine (KU.out _ (below3 (below3 (below3 B0.out B1.out (Nat.le_refl _)) B2.out (Nat.le_refl _)) B3.out (Nat.le_refl _))).mono ?_
  rintro e w5 ⟨rfl, hB⟩
  have B4 : Hid (Below w4.heap.size w4 w5) := Lib.hid hB
  clear hB
  clear u0 u1 zu
  have hbk := UB.out.below (below3 (below3 B2.out B3.out (Nat.le_refl _)) B4.out (Nat.le_refl _)) UB.out.lt
  have u0 := hbk.cell 0
  have u1 := hbk.cell 1
  simp only [List.getElem?_toArray, List.getElem?_cons_zero, List.getElem?_cons_succ] at u0 u1
  have zu := hbk.lt
  clear hbk
  have hbk := TB.out.below (below3 (below3 (below3 B1.out B2.out (Nat.le_refl _)) B3.out (Nat.le_refl _)) B4.out (Nat.le_refl _)) TB.out.lt
  have t0 := hbk.cell 0
  have t1 := hbk.cell 1
  have t2 := hbk.cell 2
  have t3 := hbk.cell 3
  simp only [List.getElem?_toArray, List.getElem?_cons_zero, List.getElem?_cons_succ] at t0 t1 t2 t3
  have zt := hbk.lt
  clear hbk
  go_wp2_with fail
  refine (KB.out _ (below3 (below3 (below3 (below3 B0.out B1.out (Nat.le_refl _)) B2.out (Nat.le_refl _)) B3.out (Nat.le_refl _)) B4.out (Nat.le_refl _))).mono ?_
  rintro e w6 ⟨rfl, hB⟩
  have B5 : Hid (Below w5.heap.size w5 w6) := Lib.hid hB
  clear hB
  clear u0 u1 zu t0 t1 t2 t3 zt
  obtain ⟨bv, hbv⟩ : ∃ z, z = billK price vals base l credit out := ⟨_, rfl⟩
  rw [← hbv]
  obtain ⟨a, b, c, d, hb4⟩ := isRight_bill price vals base l credit out
  have HBV := Lib.hid hb4
  rw [← hbv] at hb4
  clear hbv
  subst hb4
  have HR6 := Lib.hid (RB.out.below (below3 (below3 B3.out B4.out (Nat.le_refl _)) B5.out (Nat.le_refl _)) RB.out.lt)
  have HB6 : Hid (Below w.heap.size w w6) := Lib.hid (below3 (below3 (below3 (below3 (below3 B0.out B1.out (Nat.le_refl _)) B2.out (Nat.le_refl _)) B3.out (Nat.le_refl _)) B4.out (Nat.le_refl _)) B5.out (Nat.le_refl _))
  have r0 := HR6.out.cell 0
  have r1 := HR6.out.cell 1
  have r2 := HR6.out.cell 2
  have r3 := HR6.out.cell 3
  simp only [List.getElem?_toArray, List.getElem?_cons_zero, List.getElem?_cons_succ] at r0 r1 r2 r3
  have zr := HR6.out.lt
  have fr := HR6.out.frozen
  have hr9 : w.heap.size ≤ rb := by have h1 := Ztb.out; have h2 := Zub.out; have h3 := Zrb.out; have h5 := Sw1.out; have h6 := Sw2.out; omega
  obtain ⟨W3, hW3⟩ : ∃ z, z = (((w6.setCell ⟨rb, 0, none⟩ (.int .i64 a)).setCell ⟨rb, 1, none⟩ (.int .i64 b)).setCell ⟨rb, 2, none⟩ (.int .i64 c)).setCell ⟨rb, 3, none⟩ (.int .i64 d) := ⟨_, rfl⟩
  have HF : Hid (Blk W3 rb 77 #[.int .i64 a, .int .i64 b, .int .i64 c, .int .i64 d] ∧ Below w.heap.size w W3) := Lib.hid ⟨by
    rw [hW3]
    have h := ((((HR6.out.set_ 0 (.int .i64 a)).set_ 1 (.int .i64 b)).set_ 2 (.int .i64 c)).set_ 3 (.int .i64 d))
    simpa using h, by
    rw [hW3]
    exact (((HB6.out.setCell (p := ⟨rb, 0, none⟩) hr9 _).setCell (p := ⟨rb, 1, none⟩) hr9 _).setCell (p := ⟨rb, 2, none⟩) hr9 _).setCell (p := ⟨rb, 3, none⟩) hr9 _⟩
  clear hr9
  go_wp2
  rw [← hW3]
  have x0 := HF.out.1.cell 0
  have x1 := HF.out.1.cell 1
  have x2 := HF.out.1.cell 2
  have x3 := HF.out.1.cell 3
  simp only [List.getElem?_toArray, List.getElem?_cons_zero, List.getElem?_cons_succ] at x0 x1 x2 x3
  refine bodyPost_ret (v := .tuple #[.agg #[.int .i64 a, .int .i64 b, .int .i64 c, .int .i64 d], .int .i64 0]) ?_ rfl ?_
  · simp [results, Try.results27, go_sem, x0, x1, x2, x3]
  · exact ⟨by rw [HBV.out], HF.out.2⟩
end Go.Proofs.Ytcecbohaajocfaa
