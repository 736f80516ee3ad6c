/- heat: Taken. -/
import Derived.Test.YtndlbjcakfhdiaaHtM

set_option linter.unusedSimpArgs false
set_option linter.unusedVariables false
namespace Go.Proofs.Ytndlbjcakfhdiaa
open Go.RowKit

set_option maxRecDepth 100000 in
set_option maxHeartbeats 1000000 in
theorem Taken_any (rA wA bA cA tA : Option Addr) (rn rc wn wc bn bc cn cc tc : Nat) (pump : Int) (h : Hl) (t : List Int) (w : World) (hin : HlIn w w.heap.size ⟨rA, wA, bA, cA, rn, wn, bn, cn⟩ h) (ok : HlOk h) (hp : 0 ≤ pump ∧ pump ≤ 100000) (ht : Rd w w.heap.size 1 encI tA rn t) (htb : ∀ x ∈ t, 0 ≤ x ∧ x ≤ 1000000) :
    Calls Try.prog 28 #[.agg #[.slice rA rn rc, .slice wA wn wc, .slice bA bn bc, .slice cA cn cc], .slice tA rn tc, .int .i64 pump] w fun e w' => ∃ lb, e = .returned (.tuple #[.slice (some ⟨lb, 0, none⟩) cn cn, .int .i64 0]) ∧ Blk w' lb 3 (intsA (tkL h pump t)) ∧ w.heap.size ≤ lb ∧ Below w.heap.size w w' := by
  have hn8 : rn ≤ 8 := by have h9 := hin.rm.1; dsimp only at h9; rw [← h9]; exact ok.n8
  have KC := Lib.hid (fun W (hW : Below w.heap.size w W) => Check_ok rA wA bA cA rn rc wn wc bn bc cn cc h W (hin.next hW) ok)
  have KN := Lib.hid (fun (ab : Nat) W (hW : Below w.heap.size w W) (ha : Blk W ab 30 #[.slice tA rn tc]) => checkNumbers_yes rA wA bA cA rn rc wn wc bn bc cn cc (some ⟨ab, 0, none⟩) none 1 1 0 0 [⟨tA, rn, tc⟩] [] W (by omega) (by omega) (by omega) (rd_one _ ha rfl) (Rd.nil _ _ _ _) (fun x hx => by
    rw [List.mem_singleton.1 hx]
    exact ⟨rfl, t, ht.next hW, htb⟩) (fun x hx => by simp at hx))
  have KF := Lib.hid (fun W => isFlow_yes hp W)
  have KT := Lib.hid (fun W (hW : Below w.heap.size w W) => taken_any rA wA bA cA rn rc wn wc bn bc cn cc h W (hin.next hW) ok tA tc t pump hp (ht.next hW) htb)
  have g1 : w.heap.size < w.heap.size + 1 := by omega
  clear hin ok hp ht htb hn8
  go_enter Try.func28, Try.ntmps28
  go_wp2_with fail
  obtain ⟨bx, hbx⟩ : ∃ z, z = w.heap.size := ⟨_, rfl⟩
  obtain ⟨w1, hw1⟩ : ∃ z, z = w.alloc (.cells #[.slice rA rn rc, .slice wA wn wc, .slice bA bn bc, .slice cA cn cc] 28) := ⟨_, rfl⟩
  have BX : Hid (Blk w1 bx 28 #[.slice rA rn rc, .slice wA wn wc, .slice bA bn bc, .slice cA cn cc]) := Lib.hid (by rw [hw1, hbx]; exact heap_alloc_new w _)
  have Sw1 : Hid (w1.heap.size = bx + 1) := Lib.hid (by rw [hw1, hbx, World.size_alloc])
  have Zbx : Hid (w.heap.size ≤ bx) := Lib.hid (by rw [hbx]; exact Nat.le_refl _)
  have hBn : Below w.heap.size w w1 := by rw [hw1]; exact (Below.refl _ _).alloc (Nat.le_refl _) _
  rw [← hw1, ← hbx]
  have B0 : Hid (Below w.heap.size w w1) := Lib.hid hBn
  clear hw1 hbx hBn
  refine (KC.out _ B0.out).mono ?_
  rintro e w2 ⟨rfl, hB⟩
  have B1 : Hid (Below w1.heap.size w1 w2) := Lib.hid hB
  clear hB
  clear g1
  have hbk := BX.out.below B1.out BX.out.lt
  have d0 := hbk.cell 0
  have d1 := hbk.cell 1
  have d2 := hbk.cell 2
  have d3 := hbk.cell 3
  simp only [List.getElem?_toArray, List.getElem?_cons_zero, List.getElem?_cons_succ] at d0 d1 d2 d3
  have zd := hbk.lt
  clear hbk
  have g1 : w2.heap.size < w2.heap.size + 1 := by omega
  go_wp2_with fail
  obtain ⟨ab, hab⟩ : ∃ z, z = w2.heap.size := ⟨_, rfl⟩
  obtain ⟨w3, hw3⟩ : ∃ z, z = w2.alloc (.cells #[.slice tA rn tc] 30) := ⟨_, rfl⟩
  have AB : Hid (Blk w3 ab 30 #[.slice tA rn tc]) := Lib.hid (by rw [hw3, hab]; exact heap_alloc_new w2 _)
  have Sw3 : Hid (w3.heap.size = ab + 1) := Lib.hid (by rw [hw3, hab, World.size_alloc])
  have Zab : Hid (w2.heap.size ≤ ab) := Lib.hid (by rw [hab]; exact Nat.le_refl _)
  have hBn : Below w2.heap.size w2 w3 := by rw [hw3]; exact (Below.refl _ _).alloc (Nat.le_refl _) _
  rw [← hw3, ← hab]
  have B2 : Hid (Below w2.heap.size w2 w3) := Lib.hid hBn
  clear hw3 hab hBn
  refine (KN.out ab _ (below3 (below3 B0.out B1.out (Nat.le_refl _)) B2.out (Nat.le_refl _)) AB.out).mono ?_
  rintro e w4 ⟨rfl, hB⟩
  have B3 : Hid (Below w3.heap.size w3 w4) := Lib.hid hB
  clear hB
  clear g1 d0 d1 d2 d3 zd
  go_wp2_with fail
  refine (KF.out _).mono ?_
  rintro e w9 ⟨rfl, e9⟩
  obtain rfl := e9.symm
  have hbk := BX.out.below (below3 (below3 B1.out B2.out (Nat.le_refl _)) B3.out (Nat.le_refl _)) BX.out.lt
  have d0 := hbk.cell 0
  have d1 := hbk.cell 1
  have d2 := hbk.cell 2
  have d3 := hbk.cell 3
  simp only [List.getElem?_toArray, List.getElem?_cons_zero, List.getElem?_cons_succ] at d0 d1 d2 d3
  have zd := hbk.lt
  clear hbk
  go_wp2_with fail
  refine (KT.out _ (below3 (below3 (below3 B0.out B1.out (Nat.le_refl _)) B2.out (Nat.le_refl _)) B3.out (Nat.le_refl _))).mono ?_
  rintro e w5 ⟨lb, rfl, hb, hl, hB⟩
  have B4 : Hid (Below w4.heap.size w4 w5) := Lib.hid hB
  clear hB
  have HF : Hid (Blk w5 lb 3 (intsA (tkL h pump t)) ∧ w.heap.size ≤ lb ∧ Below w.heap.size w w5) := Lib.hid ⟨hb, Nat.le_trans ((below3 (below3 (below3 B0.out B1.out (Nat.le_refl _)) B2.out (Nat.le_refl _)) B3.out (Nat.le_refl _))).size hl, (below3 (below3 (below3 (below3 B0.out B1.out (Nat.le_refl _)) B2.out (Nat.le_refl _)) B3.out (Nat.le_refl _)) B4.out (Nat.le_refl _))⟩
  clear hb hl d0 d1 d2 d3 zd
  go_wp2
  refine bodyPost_ret (v := .tuple #[.slice (some ⟨lb, 0, none⟩) cn cn, .int .i64 0]) (by simp [results, Try.results28, go_sem]) rfl ?_
  exact ⟨lb, rfl, HF.out⟩
end Go.Proofs.Ytndlbjcakfhdiaa
