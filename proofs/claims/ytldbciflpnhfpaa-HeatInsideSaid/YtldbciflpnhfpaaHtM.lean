/- heat: checkSecond, Next. -/
import Derived.Test.YtldbciflpnhfpaaHtL

set_option linter.unusedSimpArgs false
set_option linter.unusedVariables false
namespace Go.Proofs.Ytldbciflpnhfpaa
open Go.RowKit

theorem rd_one {α : Type} {f : α → List Value} {size : Nat} {w : World} {b : Nat} {T : TypeId} {cs : Array Value} (x : α) (h : Blk w b T cs) (hc : cs.toList = f x) : Rd w w.heap.size size f (some ⟨b, 0, none⟩) 1 [x] := by
  refine ⟨rfl, fun _ => ⟨b, 0, rfl, h.lt, fun i y hy j u hu => ?_⟩⟩
  cases i with
  | zero =>
    simp only [List.getElem?_cons_zero, Option.some.injEq] at hy
    subst hy
    rw [Nat.zero_mul, Nat.zero_add, h.cell, ← Array.getElem?_toList, hc]
    exact hu
  | succ i => simp at hy
set_option maxRecDepth 100000 in
set_option maxHeartbeats 4000000 in
theorem checkSecond_yes (rA wA bA cA lA tA : Option Addr) (rn rc wn wc bn bc cn cc lc tc : Nat) (out pump : Int) (h : Hl) (t l : List Int) (w : World) (hin : HlIn w w.heap.size ⟨rA, wA, bA, cA, rn, wn, bn, cn⟩ h) (ok : HlOk h) (ho : 0 ≤ out ∧ out ≤ 1000000) (hp : 0 ≤ pump ∧ pump ≤ 100000) (ht : Rd w w.heap.size 1 encI tA rn t) (htb : ∀ x ∈ t, 0 ≤ x ∧ x ≤ 1000000) (hl : Rd w w.heap.size 1 encI lA rn l) (hlb : ∀ x ∈ l, 0 ≤ x ∧ x ≤ 10000000) :
    Calls Try.prog 30 #[.agg #[.slice rA rn rc, .slice wA wn wc, .slice bA bn bc, .slice cA cn cc], .slice tA rn tc, .agg #[.slice lA rn lc, .int .i64 out, .int .i64 pump]] w fun e w' => e = .returned (.int .i64 0) ∧ Below w.heap.size w w' := by
  have hn8 : rn ≤ 8 := by have h9 := hin.rm.1; dsimp only at h9; rw [← h9]; exact ok.n8
  have KC := Lib.hid (fun W (hW : Below w.heap.size w W) => Check_ok rA wA bA cA rn rc wn wc bn bc cn cc h W (hin.next hW) ok)
  have KN := Lib.hid (fun (ab kb : Nat) W (hW : Below w.heap.size w W) (ha : Blk W ab 30 #[.slice tA rn tc]) (hk : Blk W kb 35 #[.slice lA rn lc, .int .i64 out, .int .i64 pump]) => checkNumbers_yes rA wA bA cA rn rc wn wc bn bc cn cc (some ⟨ab, 0, none⟩) (some ⟨kb, 0, none⟩) 1 1 1 1 [⟨tA, rn, tc⟩] [⟨lA, rn, lc, out, pump⟩] W (by omega) (by omega) (by omega) (rd_one _ ha rfl) (rd_one _ hk rfl) (fun x hx => by
    rw [List.mem_singleton.1 hx]
    exact ⟨rfl, t, ht.next hW, htb⟩) (fun x hx => by
    rw [List.mem_singleton.1 hx]
    exact ⟨rfl, ⟨ho, hp⟩, l, hl.next hW, hlb⟩))
  have g1 : w.heap.size < w.heap.size + 1 := by omega
  have g2 : w.heap.size < w.heap.size + 1 + 1 := by omega
  clear hin ok ho hp ht htb hl hlb hn8
  go_enter Try.func30, Try.ntmps30
  go_wp2_with fail
  obtain ⟨bx, hbx⟩ : ∃ z, z = w.heap.size := ⟨_, rfl⟩
  obtain ⟨w1, hw1⟩ : ∃ z, z = w.alloc (.cells #[.slice rA rn rc, .slice wA wn wc, .slice bA bn bc, .slice cA cn cc] 28) := ⟨_, rfl⟩
  have BX : Hid (Blk w1 bx 28 #[.slice rA rn rc, .slice wA wn wc, .slice bA bn bc, .slice cA cn cc]) := Lib.hid (by rw [hw1, hbx]; exact heap_alloc_new w _)
  have Sw1 : Hid (w1.heap.size = bx + 1) := Lib.hid (by rw [hw1, hbx, World.size_alloc])
  have Zbx : Hid (w.heap.size ≤ bx) := Lib.hid (by rw [hbx]; exact Nat.le_refl _)
  have hBn : Below w.heap.size w w1 := by rw [hw1]; exact (Below.refl _ _).alloc (Nat.le_refl _) _
  rw [← hw1, ← hbx]
  have B0 : Hid (Below w.heap.size w w1) := Lib.hid hBn
  clear hw1 hbx hBn
  obtain ⟨cx, hcx⟩ : ∃ z, z = bx + 1 := ⟨_, rfl⟩
  obtain ⟨w2, hw2⟩ : ∃ z, z = w1.alloc (.cells #[.slice lA rn lc, .int .i64 out, .int .i64 pump] 35) := ⟨_, rfl⟩
  have CX : Hid (Blk w2 cx 35 #[.slice lA rn lc, .int .i64 out, .int .i64 pump]) := Lib.hid (by have e2 := heap_alloc_new w1 (.cells #[.slice lA rn lc, .int .i64 out, .int .i64 pump] 35); rw [Sw1.out] at e2; rw [hw2, hcx]; exact e2)
  have Sw2 : Hid (w2.heap.size = cx + 1) := Lib.hid (by rw [hw2, hcx, World.size_alloc, Sw1.out])
  have Zcx : Hid (w1.heap.size = cx) := Lib.hid (by rw [Sw1.out, hcx])
  have hBn : Below w1.heap.size w1 w2 := by rw [hw2]; exact (Below.refl _ _).alloc (Nat.le_refl _) _
  rw [← hw2, ← hcx]
  have B1 : Hid (Below w1.heap.size w1 w2) := Lib.hid hBn
  clear hw2 hcx hBn
  refine (KC.out _ (below3 B0.out B1.out (Nat.le_refl _))).mono ?_
  rintro e w3 ⟨rfl, hB⟩
  have B2 : Hid (Below w2.heap.size w2 w3) := Lib.hid hB
  clear hB
  clear g1 g2
  have hbk := BX.out.below (below3 B1.out B2.out (Nat.le_refl _)) BX.out.lt
  have d0 := hbk.cell 0
  have d1 := hbk.cell 1
  have d2 := hbk.cell 2
  have d3 := hbk.cell 3
  simp only [List.getElem?_toArray, List.getElem?_cons_zero, List.getElem?_cons_succ] at d0 d1 d2 d3
  have zd := hbk.lt
  clear hbk
  have hbk := CX.out.below B2.out CX.out.lt
  have c0 := hbk.cell 0
  have c1 := hbk.cell 1
  have c2 := hbk.cell 2
  simp only [List.getElem?_toArray, List.getElem?_cons_zero, List.getElem?_cons_succ] at c0 c1 c2
  have zc := hbk.lt
  clear hbk
  have g1 : w3.heap.size < w3.heap.size + 1 := by omega
  go_wp2_with fail
  obtain ⟨ab, hab⟩ : ∃ z, z = w3.heap.size := ⟨_, rfl⟩
  obtain ⟨w4, hw4⟩ : ∃ z, z = w3.alloc (.cells #[.slice tA rn tc] 30) := ⟨_, rfl⟩
  have AB : Hid (Blk w4 ab 30 #[.slice tA rn tc]) := Lib.hid (by rw [hw4, hab]; exact heap_alloc_new w3 _)
  have Sw4 : Hid (w4.heap.size = ab + 1) := Lib.hid (by rw [hw4, hab, World.size_alloc])
  have Zab : Hid (w3.heap.size ≤ ab) := Lib.hid (by rw [hab]; exact Nat.le_refl _)
  have hBn : Below w3.heap.size w3 w4 := by rw [hw4]; exact (Below.refl _ _).alloc (Nat.le_refl _) _
  rw [← hw4, ← hab]
  have B3 : Hid (Below w3.heap.size w3 w4) := Lib.hid hBn
  clear hw4 hab hBn
  obtain ⟨kb, hkb⟩ : ∃ z, z = ab + 1 := ⟨_, rfl⟩
  obtain ⟨w5, hw5⟩ : ∃ z, z = w4.alloc (.cells #[.slice lA rn lc, .int .i64 out, .int .i64 pump] 35) := ⟨_, rfl⟩
  have KB : Hid (Blk w5 kb 35 #[.slice lA rn lc, .int .i64 out, .int .i64 pump]) := Lib.hid (by have e2 := heap_alloc_new w4 (.cells #[.slice lA rn lc, .int .i64 out, .int .i64 pump] 35); rw [Sw4.out] at e2; rw [hw5, hkb]; exact e2)
  have Sw5 : Hid (w5.heap.size = kb + 1) := Lib.hid (by rw [hw5, hkb, World.size_alloc, Sw4.out])
  have Zkb : Hid (w4.heap.size = kb) := Lib.hid (by rw [Sw4.out, hkb])
  have hBn : Below w4.heap.size w4 w5 := by rw [hw5]; exact (Below.refl _ _).alloc (Nat.le_refl _) _
  rw [← hw5, ← hkb]
  have B4 : Hid (Below w4.heap.size w4 w5) := Lib.hid hBn
  clear hw5 hkb hBn
  refine (KN.out ab kb _ (below3 (below3 (below3 (below3 B0.out B1.out (Nat.le_refl _)) B2.out (Nat.le_refl _)) B3.out (Nat.le_refl _)) B4.out (Nat.le_refl _)) (AB.out.below B4.out AB.out.lt) KB.out).mono ?_
  rintro e w6 ⟨rfl, hB⟩
  have B5 : Hid (Below w5.heap.size w5 w6) := Lib.hid hB
  clear hB
  clear d0 d1 d2 d3 zd c0 c1 c2 zc g1
  go_wp2
  go_ret
  exact ⟨rfl, (below3 (below3 (below3 (below3 (below3 B0.out B1.out (Nat.le_refl _)) B2.out (Nat.le_refl _)) B3.out (Nat.le_refl _)) B4.out (Nat.le_refl _)) B5.out (Nat.le_refl _))⟩
set_option maxRecDepth 100000 in
set_option maxHeartbeats 4000000 in
theorem Next_any (rA wA bA cA lA tA : Option Addr) (rn rc wn wc bn bc cn cc lc tc : Nat) (out pump : Int) (h : Hl) (t l : List Int) (w : World) (hin : HlIn w w.heap.size ⟨rA, wA, bA, cA, rn, wn, bn, cn⟩ h) (ok : HlOk h) (ho : 0 ≤ out ∧ out ≤ 1000000) (hp : 0 ≤ pump ∧ pump ≤ 100000) (ht : Rd w w.heap.size 1 encI tA rn t) (htb : ∀ x ∈ t, 0 ≤ x ∧ x ≤ 1000000) (hl : Rd w w.heap.size 1 encI lA rn l) (hlb : ∀ x ∈ l, 0 ≤ x ∧ x ≤ 10000000) :
    Calls Try.prog 13 #[.agg #[.slice rA rn rc, .slice wA wn wc, .slice bA bn bc, .slice cA cn cc], .slice tA rn tc, .agg #[.slice lA rn lc, .int .i64 out, .int .i64 pump]] w fun e w' => ∃ lb, e = .returned (.tuple #[.slice (some ⟨lb, 0, none⟩) rn rn, .int .i64 0]) ∧ Blk w' lb 3 (intsA (nxL h t l out pump)) ∧ w.heap.size ≤ lb ∧ Below w.heap.size w w' := by
  have KS := Lib.hid (fun W (hW : Below w.heap.size w W) => checkSecond_yes rA wA bA cA lA tA rn rc wn wc bn bc cn cc lc tc out pump h t l W (hin.next hW) ok ho hp (ht.next hW) htb (hl.next hW) hlb)
  have KN := Lib.hid (fun W (hW : Below w.heap.size w W) => nextS_any rA wA bA cA lA tA rn rc wn wc bn bc cn cc lc tc out pump h t l W (hin.next hW) ok ho hp (ht.next hW) htb (hl.next hW) hlb)
  have g1 : w.heap.size < w.heap.size + 1 := by omega
  have g2 : w.heap.size < w.heap.size + 1 + 1 := by omega
  clear hin ok ho hp ht htb hl hlb
  go_enter Try.func13, Try.ntmps13
  go_wp2_with fail
  obtain ⟨bx, hbx⟩ : ∃ z, z = w.heap.size := ⟨_, rfl⟩
  obtain ⟨w1, hw1⟩ : ∃ z, z = w.alloc (.cells #[.slice rA rn rc, .slice wA wn wc, .slice bA bn bc, .slice cA cn cc] 28) := ⟨_, rfl⟩
  have BX : Hid (Blk w1 bx 28 #[.slice rA rn rc, .slice wA wn wc, .slice bA bn bc, .slice cA cn cc]) := Lib.hid (by rw [hw1, hbx]; exact heap_alloc_new w _)
  have Sw1 : Hid (w1.heap.size = bx + 1) := Lib.hid (by rw [hw1, hbx, World.size_alloc])
  have Zbx : Hid (w.heap.size ≤ bx) := Lib.hid (by rw [hbx]; exact Nat.le_refl _)
  have hBn : Below w.heap.size w w1 := by rw [hw1]; exact (Below.refl _ _).alloc (Nat.le_refl _) _
  rw [← hw1, ← hbx]
  have B0 : Hid (Below w.heap.size w w1) := Lib.hid hBn
  clear hw1 hbx hBn
  obtain ⟨cx, hcx⟩ : ∃ z, z = bx + 1 := ⟨_, rfl⟩
  obtain ⟨w2, hw2⟩ : ∃ z, z = w1.alloc (.cells #[.slice lA rn lc, .int .i64 out, .int .i64 pump] 35) := ⟨_, rfl⟩
  have CX : Hid (Blk w2 cx 35 #[.slice lA rn lc, .int .i64 out, .int .i64 pump]) := Lib.hid (by have e2 := heap_alloc_new w1 (.cells #[.slice lA rn lc, .int .i64 out, .int .i64 pump] 35); rw [Sw1.out] at e2; rw [hw2, hcx]; exact e2)
  have Sw2 : Hid (w2.heap.size = cx + 1) := Lib.hid (by rw [hw2, hcx, World.size_alloc, Sw1.out])
  have Zcx : Hid (w1.heap.size = cx) := Lib.hid (by rw [Sw1.out, hcx])
  have hBn : Below w1.heap.size w1 w2 := by rw [hw2]; exact (Below.refl _ _).alloc (Nat.le_refl _) _
  rw [← hw2, ← hcx]
  have B1 : Hid (Below w1.heap.size w1 w2) := Lib.hid hBn
  clear hw2 hcx hBn
  refine (KS.out _ (below3 B0.out B1.out (Nat.le_refl _))).mono ?_
  rintro e w3 ⟨rfl, hB⟩
  have B2 : Hid (Below w2.heap.size w2 w3) := Lib.hid hB
  clear hB
  clear g1 g2
  have hbk := BX.out.below (below3 B1.out B2.out (Nat.le_refl _)) BX.out.lt
  have d0 := hbk.cell 0
  have d1 := hbk.cell 1
  have d2 := hbk.cell 2
  have d3 := hbk.cell 3
  simp only [List.getElem?_toArray, List.getElem?_cons_zero, List.getElem?_cons_succ] at d0 d1 d2 d3
  have zd := hbk.lt
  clear hbk
  have hbk := CX.out.below B2.out CX.out.lt
  have c0 := hbk.cell 0
  have c1 := hbk.cell 1
  have c2 := hbk.cell 2
  simp only [List.getElem?_toArray, List.getElem?_cons_zero, List.getElem?_cons_succ] at c0 c1 c2
  have zc := hbk.lt
  clear hbk
  go_wp2_with fail
  refine (KN.out _ (below3 (below3 B0.out B1.out (Nat.le_refl _)) B2.out (Nat.le_refl _))).mono ?_
  rintro e w4 ⟨lb, rfl, hlb, hle, hB⟩
  have B3 : Hid (Below w3.heap.size w3 w4) := Lib.hid hB
  clear hB
  have HF := Lib.hid (And.intro hlb hle)
  clear d0 d1 d2 d3 zd c0 c1 c2 zc hlb hle KS KN
  go_wp2
  refine bodyPost_ret (v := .tuple #[.slice (some ⟨lb, 0, none⟩) rn rn, .int .i64 0]) ?_ rfl ?_
  · simp [results, go_sem]
  · exact ⟨lb, rfl, HF.out.1, Nat.le_trans ((below3 (below3 B0.out B1.out (Nat.le_refl _)) B2.out (Nat.le_refl _))).size HF.out.2, (below3 (below3 (below3 B0.out B1.out (Nat.le_refl _)) B2.out (Nat.le_refl _)) B3.out (Nat.le_refl _))⟩
end Go.Proofs.Ytldbciflpnhfpaa
