/- heat: what is valid passes. -/
import Derived.Test.YtldbciflpnhfpaaHtP

set_option linter.unusedSimpArgs false
set_option linter.unusedVariables false
namespace Go.Proofs.Ytldbciflpnhfpaa
open Go.RowKit

theorem within_yes {n a b : Int} (h : a ≤ n ∧ n ≤ b) (w : World) : Calls Try.prog 52 #[.int .i64 n, .int .i64 a, .int .i64 b] w fun e w' => e = .returned (.bool true) ∧ w' = w := by
  obtain ⟨h1, h2⟩ := h
  have d1 : decide (a ≤ n) = true := decide_eq_true h1
  have d2 : decide (n ≤ b) = true := decide_eq_true h2
  go_enter Try.func52, Try.ntmps52
  go_wp2
  go_ret
  exact ⟨rfl, rfl⟩
theorem isTemperature_yes {n : Int} (h : 0 ≤ n ∧ n ≤ 1000000) (w : World) : Calls Try.prog 81 #[.int .i64 n] w fun e w' => e = .returned (.bool true) ∧ w' = w := by
  have K := Lib.hid (within_yes h w)
  clear h
  go_enter Try.func81, Try.ntmps81
  go_wp2_with fail
  refine K.out.mono ?_
  rintro e w2 ⟨rfl, rfl⟩
  go_wp2
  go_ret
  exact ⟨rfl, rfl⟩
theorem isFlow_yes {n : Int} (h : 0 ≤ n ∧ n ≤ 100000) (w : World) : Calls Try.prog 48 #[.int .i64 n] w fun e w' => e = .returned (.bool true) ∧ w' = w := by
  have K := Lib.hid (within_yes h w)
  clear h
  go_enter Try.func48, Try.ntmps48
  go_wp2_with fail
  refine K.out.mono ?_
  rintro e w2 ⟨rfl, rfl⟩
  go_wp2
  go_ret
  exact ⟨rfl, rfl⟩
theorem isLoad_yes {n : Int} (h : 0 ≤ n ∧ n ≤ 10000000) (w : World) : Calls Try.prog 93 #[.int .i64 n] w fun e w' => e = .returned (.bool true) ∧ w' = w := by
  have K := Lib.hid (within_yes h w)
  clear h
  go_enter Try.func93, Try.ntmps93
  go_wp2_with fail
  refine K.out.mono ?_
  rintro e w2 ⟨rfl, rfl⟩
  go_wp2
  go_ret
  exact ⟨rfl, rfl⟩
theorem isTime_yes {n : Int} (h : 0 ≤ n ∧ n ≤ 20000) (w : World) : Calls Try.prog 43 #[.int .i64 n] w fun e w' => e = .returned (.bool true) ∧ w' = w := by
  have K := Lib.hid (within_yes h w)
  clear h
  go_enter Try.func43, Try.ntmps43
  go_wp2_with fail
  refine K.out.mono ?_
  rintro e w2 ⟨rfl, rfl⟩
  go_wp2
  go_ret
  exact ⟨rfl, rfl⟩
theorem hasRoom_yes (rA wA bA cA : Option Addr) (rn rc wn wc bn bc cn cc : Nat) {x : Int} (hr : rn ≤ 100) (h : 0 ≤ x ∧ x < (rn : Int)) (w : World) : Calls Try.prog 84 #[.agg #[.slice rA rn rc, .slice wA wn wc, .slice bA bn bc, .slice cA cn cc], .int .i64 x] w fun e w' => e = .returned (.bool true) ∧ Below w.heap.size w w' := by
  have K := Lib.hid (fun W => within_yes (n := x) (a := 0) (b := (rn : Int) - 1) (by omega) W)
  have hw : IntKind.i64.wrap ((rn : Int) - 1) = (rn : Int) - 1 := IntWalk.i64_in _ (by omega)
  clear h hr
  go_enter Try.func84, Try.ntmps84
  go_wp2_with fail
  refine (K.out _).mono ?_
  rintro e w2 ⟨rfl, rfl⟩
  go_wp2
  go_ret
  exact ⟨rfl, by (repeat' (first | (with_reducible exact Below.refl _ _) | (with_reducible assumption) | (with_reducible refine below_drewN ?_ _) | (with_reducible refine below_after (by assumption) ?_ ?_) | (with_reducible refine Below.drew ?_) | (with_reducible refine Below.alloc ?_ ?_ _) | (with_reducible refine Below.setCell ?_ ?_ _) | omega | (simp; omega) | (simp; done)))⟩
theorem isRoom_yes (x : Rom) (h : (1 ≤ x.st ∧ x.st ≤ 1000000) ∧ 0 ≤ x.lim ∧ x.lim ≤ 1000000) (w : World) : Calls Try.prog 54 #[.agg #[.int .i64 x.st, .int .i64 x.lim]] w fun e w' => e = .returned (.bool true) ∧ Below w.heap.size w w' := by
  have K1 := Lib.hid (fun W => within_yes h.1 W)
  have K2 := Lib.hid (fun W => isTemperature_yes h.2 W)
  clear h
  go_enter Try.func54, Try.ntmps54
  go_wp2_with fail
  refine (K1.out _).mono ?_
  rintro e w2 ⟨rfl, rfl⟩
  go_wp2_with fail
  refine (K2.out _).mono ?_
  rintro e w2 ⟨rfl, rfl⟩
  go_wp2
  go_ret
  exact ⟨rfl, by (repeat' (first | (with_reducible exact Below.refl _ _) | (with_reducible assumption) | (with_reducible refine below_drewN ?_ _) | (with_reducible refine below_after (by assumption) ?_ ?_) | (with_reducible refine Below.drew ?_) | (with_reducible refine Below.alloc ?_ ?_ _) | (with_reducible refine Below.setCell ?_ ?_ _) | omega | (simp; omega) | (simp; done)))⟩
set_option maxRecDepth 100000 in
theorem isWall_yes (rA wA bA cA : Option Addr) (rn rc wn wc bn bc cn cc : Nat) (x : Wal) (hr : rn ≤ 100) (h : (0 ≤ x.a ∧ x.a < (rn : Int)) ∧ (x.b = -1 ∨ ((0 ≤ x.b ∧ x.b < (rn : Int)) ∧ x.b ≠ x.a)) ∧ 0 ≤ x.p ∧ x.p ≤ 100000) (w : World) : Calls Try.prog 56 #[.agg #[.slice rA rn rc, .slice wA wn wc, .slice bA bn bc, .slice cA cn cc], .agg #[.int .i64 x.a, .int .i64 x.b, .int .i64 x.p]] w fun e w' => e = .returned (.bool true) ∧ Below w.heap.size w w' := by
  have K1 := Lib.hid (fun W => hasRoom_yes rA wA bA cA rn rc wn wc bn bc cn cc hr h.1 W)
  have K3 := Lib.hid (fun W => within_yes h.2.2 W)
  have hb := h.2.1
  have KB := Lib.hid (fun (e : (0 ≤ x.b ∧ x.b < (rn : Int))) W => hasRoom_yes rA wA bA cA rn rc wn wc bn bc cn cc hr e W)
  obtain ⟨xa, xb, xp⟩ := x
  dsimp only at *
  have g1 : w.heap.size < w.heap.size + 1 := by omega
  have g2 : w.heap.size < w.heap.size + 1 + 1 := by omega
  clear h hr
  go_enter Try.func56, Try.ntmps56
  go_wp2_with fail
  obtain ⟨hx, hhx⟩ : ∃ z, z = w.heap.size := ⟨_, rfl⟩
  obtain ⟨w1, hw1⟩ : ∃ z, z = w.alloc (.cells #[.slice rA rn rc, .slice wA wn wc, .slice bA bn bc, .slice cA cn cc] 28) := ⟨_, rfl⟩
  have HX : Hid (Blk w1 hx 28 #[.slice rA rn rc, .slice wA wn wc, .slice bA bn bc, .slice cA cn cc]) := Lib.hid (by rw [hw1, hhx]; exact heap_alloc_new w _)
  have Sw1 : Hid (w1.heap.size = hx + 1) := Lib.hid (by rw [hw1, hhx, World.size_alloc])
  have Zhx : Hid (w.heap.size ≤ hx) := Lib.hid (by rw [hhx]; exact Nat.le_refl _)
  have hBn : Below w.heap.size w w1 := by rw [hw1]; exact (Below.refl _ _).alloc (Nat.le_refl _) _
  rw [← hw1, ← hhx]
  have B0 : Hid (Below w.heap.size w w1) := Lib.hid hBn
  clear hw1 hhx hBn
  obtain ⟨wx, hwx⟩ : ∃ z, z = hx + 1 := ⟨_, rfl⟩
  obtain ⟨w2, hw2⟩ : ∃ z, z = w1.alloc (.cells #[.int .i64 xa, .int .i64 xb, .int .i64 xp] 75) := ⟨_, rfl⟩
  have WX : Hid (Blk w2 wx 75 #[.int .i64 xa, .int .i64 xb, .int .i64 xp]) := Lib.hid (by have e2 := heap_alloc_new w1 (.cells #[.int .i64 xa, .int .i64 xb, .int .i64 xp] 75); rw [Sw1.out] at e2; rw [hw2, hwx]; exact e2)
  have Sw2 : Hid (w2.heap.size = wx + 1) := Lib.hid (by rw [hw2, hwx, World.size_alloc, Sw1.out])
  have Zwx : Hid (w1.heap.size = wx) := Lib.hid (by rw [Sw1.out, hwx])
  have hBn : Below w1.heap.size w1 w2 := by rw [hw2]; exact (Below.refl _ _).alloc (Nat.le_refl _) _
  rw [← hw2, ← hwx]
  have B1 : Hid (Below w1.heap.size w1 w2) := Lib.hid hBn
  clear hw2 hwx hBn
  clear g1 g2
  refine (K1.out _).mono ?_
  rintro e w3 ⟨rfl, hB⟩
  have B2 : Hid (Below w2.heap.size w2 w3) := Lib.hid hB
  clear hB
  have hbk := WX.out.below B2.out WX.out.lt
  have c0 := hbk.cell 0
  have c1 := hbk.cell 1
  have c2 := hbk.cell 2
  simp only [List.getElem?_toArray, List.getElem?_cons_zero, List.getElem?_cons_succ] at c0 c1 c2
  have zc := hbk.lt
  clear hbk
  have hbk := HX.out.below (below3 B1.out B2.out (Nat.le_refl _)) HX.out.lt
  have d0 := hbk.cell 0
  have d1 := hbk.cell 1
  have d2 := hbk.cell 2
  have d3 := hbk.cell 3
  simp only [List.getElem?_toArray, List.getElem?_cons_zero, List.getElem?_cons_succ] at d0 d1 d2 d3
  have zd := hbk.lt
  clear hbk
  rcases hb with rfl | ⟨hb, hne⟩
  · go_wp2_with fail
    refine (K3.out _).mono ?_
    rintro e w4 ⟨rfl, rfl⟩
    go_wp2
    go_ret
    exact ⟨rfl, (below3 (below3 B0.out B1.out (Nat.le_refl _)) B2.out (Nat.le_refl _))⟩
  · have d1 : (xb == -1) = false := beq_eq_false_iff_ne.2 (by omega)
    have d2 : (xb == xa) = false := beq_eq_false_iff_ne.2 hne
    have d3 : ¬ (xb = -1) := by omega
    go_wp2_with fail
    refine (KB.out hb _).mono ?_
    rintro e w4 ⟨rfl, hB⟩
    have B3 : Hid (Below w3.heap.size w3 w4) := Lib.hid hB
    clear hB
    clear c0 c1 c2 zc
    have hbk := WX.out.below (below3 B2.out B3.out (Nat.le_refl _)) WX.out.lt
    have c0 := hbk.cell 0
    have c1 := hbk.cell 1
    have c2 := hbk.cell 2
    simp only [List.getElem?_toArray, List.getElem?_cons_zero, List.getElem?_cons_succ] at c0 c1 c2
    have zc := hbk.lt
    clear hbk
    go_wp2_with fail
    refine (K3.out _).mono ?_
    rintro e w5 ⟨rfl, rfl⟩
    go_wp2
    go_ret
    exact ⟨rfl, (below3 (below3 (below3 B0.out B1.out (Nat.le_refl _)) B2.out (Nat.le_refl _)) B3.out (Nat.le_refl _))⟩
set_option maxRecDepth 100000 in
theorem isCooler_yes (rA wA bA cA : Option Addr) (rn rc wn wc bn bc cn cc : Nat) (x : Clr) (hr : rn ≤ 100) (hbn : bn ≤ 100) (h : (0 ≤ x.rm ∧ x.rm < (rn : Int)) ∧ (0 ≤ x.br ∧ x.br < (bn : Int)) ∧ (0 ≤ x.gn ∧ x.gn ≤ 100000) ∧ (0 ≤ x.cr ∧ x.cr ≤ 1000) ∧ 0 ≤ x.sp ∧ x.sp ≤ 1000000) (w : World) : Calls Try.prog 59 #[.agg #[.slice rA rn rc, .slice wA wn wc, .slice bA bn bc, .slice cA cn cc], .agg #[.int .i64 x.rm, .int .i64 x.br, .int .i64 x.gn, .int .i64 x.cr, .int .i64 x.sp]] w fun e w' => e = .returned (.bool true) ∧ Below w.heap.size w w' := by
  have K1 := Lib.hid (fun W => hasRoom_yes rA wA bA cA rn rc wn wc bn bc cn cc hr h.1 W)
  have K2 := Lib.hid (fun W => within_yes (n := x.br) (a := 0) (b := (bn : Int) - 1) (by have := h.2.1; omega) W)
  have K3 := Lib.hid (fun W => within_yes h.2.2.1 W)
  have K4 := Lib.hid (fun W => within_yes h.2.2.2.1 W)
  have K5 := Lib.hid (fun W => isTemperature_yes h.2.2.2.2 W)
  have hw : IntKind.i64.wrap ((bn : Int) - 1) = (bn : Int) - 1 := IntWalk.i64_in _ (by omega)
  obtain ⟨x0, x1, x2, x3, x4⟩ := x
  dsimp only at *
  have g1 : w.heap.size < w.heap.size + 1 := by omega
  have g2 : w.heap.size < w.heap.size + 1 + 1 := by omega
  clear h hr hbn
  go_enter Try.func59, Try.ntmps59
  go_wp2_with fail
  obtain ⟨hx, hhx⟩ : ∃ z, z = w.heap.size := ⟨_, rfl⟩
  obtain ⟨w1, hw1⟩ : ∃ z, z = w.alloc (.cells #[.slice rA rn rc, .slice wA wn wc, .slice bA bn bc, .slice cA cn cc] 28) := ⟨_, rfl⟩
  have HX : Hid (Blk w1 hx 28 #[.slice rA rn rc, .slice wA wn wc, .slice bA bn bc, .slice cA cn cc]) := Lib.hid (by rw [hw1, hhx]; exact heap_alloc_new w _)
  have Sw1 : Hid (w1.heap.size = hx + 1) := Lib.hid (by rw [hw1, hhx, World.size_alloc])
  have Zhx : Hid (w.heap.size ≤ hx) := Lib.hid (by rw [hhx]; exact Nat.le_refl _)
  have hBn : Below w.heap.size w w1 := by rw [hw1]; exact (Below.refl _ _).alloc (Nat.le_refl _) _
  rw [← hw1, ← hhx]
  have B0 : Hid (Below w.heap.size w w1) := Lib.hid hBn
  clear hw1 hhx hBn
  obtain ⟨wx, hwx⟩ : ∃ z, z = hx + 1 := ⟨_, rfl⟩
  obtain ⟨w2, hw2⟩ : ∃ z, z = w1.alloc (.cells #[.int .i64 x0, .int .i64 x1, .int .i64 x2, .int .i64 x3, .int .i64 x4] 77) := ⟨_, rfl⟩
  have WX : Hid (Blk w2 wx 77 #[.int .i64 x0, .int .i64 x1, .int .i64 x2, .int .i64 x3, .int .i64 x4]) := Lib.hid (by have e2 := heap_alloc_new w1 (.cells #[.int .i64 x0, .int .i64 x1, .int .i64 x2, .int .i64 x3, .int .i64 x4] 77); rw [Sw1.out] at e2; rw [hw2, hwx]; exact e2)
  have Sw2 : Hid (w2.heap.size = wx + 1) := Lib.hid (by rw [hw2, hwx, World.size_alloc, Sw1.out])
  have Zwx : Hid (w1.heap.size = wx) := Lib.hid (by rw [Sw1.out, hwx])
  have hBn : Below w1.heap.size w1 w2 := by rw [hw2]; exact (Below.refl _ _).alloc (Nat.le_refl _) _
  rw [← hw2, ← hwx]
  have B1 : Hid (Below w1.heap.size w1 w2) := Lib.hid hBn
  clear hw2 hwx hBn
  clear g1 g2
  refine (K1.out _).mono ?_
  rintro e w3 ⟨rfl, hB⟩
  have B2 : Hid (Below w2.heap.size w2 w3) := Lib.hid hB
  clear hB
  have hbk := WX.out.below B2.out WX.out.lt
  have c0 := hbk.cell 0
  have c1 := hbk.cell 1
  have c2 := hbk.cell 2
  have c3 := hbk.cell 3
  have c4 := hbk.cell 4
  simp only [List.getElem?_toArray, List.getElem?_cons_zero, List.getElem?_cons_succ] at c0 c1 c2 c3 c4
  have zc := hbk.lt
  clear hbk
  have hbk := HX.out.below (below3 B1.out B2.out (Nat.le_refl _)) HX.out.lt
  have d0 := hbk.cell 0
  have d1 := hbk.cell 1
  have d2 := hbk.cell 2
  have d3 := hbk.cell 3
  simp only [List.getElem?_toArray, List.getElem?_cons_zero, List.getElem?_cons_succ] at d0 d1 d2 d3
  have zd := hbk.lt
  clear hbk
  go_wp2_with fail
  refine (K2.out _).mono ?_
  rintro e w7 ⟨rfl, rfl⟩
  go_wp2_with fail
  refine (K3.out _).mono ?_
  rintro e w8 ⟨rfl, rfl⟩
  go_wp2_with fail
  refine (K4.out _).mono ?_
  rintro e w9 ⟨rfl, rfl⟩
  go_wp2_with fail
  refine (K5.out _).mono ?_
  rintro e w10 ⟨rfl, rfl⟩
  go_wp2
  go_ret
  exact ⟨rfl, (below3 (below3 B0.out B1.out (Nat.le_refl _)) B2.out (Nat.le_refl _))⟩
/-- all, over heat.Room. -/
theorem all1R (m : FuncId) (x : Rom) (bx : Nat) (w : World) (eg : ∀ args W, Sem.run Try.prog (callFunc m args) W = .ok (.enter m args) W) (hx : ∀ W, Below w.heap.size w W → Calls Try.prog m #[.agg #[.int .i64 x.st, .int .i64 x.lim]] W fun e w' => e = .returned (.bool true) ∧ Below W.heap.size W w') (hb : bx < w.heap.size) (hc : w.cell? ⟨bx, 0, none⟩ = some (.func (.func m) #[] #[])) :
    Calls Try.prog 80 #[.agg #[.int .i64 x.st, .int .i64 x.lim], .pointer (some ⟨bx, 0, none⟩)] w fun e w' => e = .returned (.bool false) ∧ Below w.heap.size w w' := by
  have K := Lib.hid hx
  clear hx
  go_enter Try.func80, Try.ntmps80
  go_wp2_with fail
  refine (K.out _ (by (repeat' (first | (with_reducible exact Below.refl _ _) | (with_reducible assumption) | (with_reducible refine below_drewN ?_ _) | (with_reducible refine below_after (by assumption) ?_ ?_) | (with_reducible refine Below.drew ?_) | (with_reducible refine Below.alloc ?_ ?_ _) | (with_reducible refine Below.setCell ?_ ?_ _) | omega | (simp; omega) | (simp; done))))).mono ?_
  rintro e w2 ⟨rfl, hB⟩
  have HB : Hid (Below w.heap.size w w2) := Lib.hid (((Below.refl w.heap.size w).alloc (Nat.le_refl _) _).trans (hB.mono (by simp)))
  clear hB
  go_wp2
  go_ret
  exact ⟨rfl, HB.out⟩
theorem indexR (A : Option Addr) (n c : Nat) (l : List Rom) (m : FuncId) (bx : Nat) (w : World) (eg : ∀ args W, Sem.run Try.prog (callFunc m args) W = .ok (.enter m args) W) (hl : Rd w w.heap.size 2 Rom.enc A n l) (hn : n ≤ 1000000000) (hok : ∀ x ∈ l, ∀ W, Below w.heap.size w W → Calls Try.prog m #[.agg #[.int .i64 x.st, .int .i64 x.lim]] W fun e w' => e = .returned (.bool true) ∧ Below W.heap.size W w') (hb : bx < w.heap.size) (hc : w.cell? ⟨bx, 0, none⟩ = some (.func (.func m) #[] #[])) :
    Calls Try.prog 94 #[.slice A n c, .func (.func 80) #[] #[.pointer (some ⟨bx, 0, none⟩)]] w fun e w' => e = .returned (.int .i64 (-1)) ∧ Below w.heap.size w w' := by
  have HL := Lib.hid hl
  have HO := Lib.hid hok
  have HC := Lib.hid hc
  have EG := Lib.hid eg
  have e2 : ∀ args W, Sem.run Try.prog (callFunc 80 args) W = .ok (.enter 80 args) W := enters_of Try.func80 (by kernel_rfl) rfl
  clear hl hok hc eg
  go_enter Try.func94, Try.ntmps94
  go_wp2
  go_loopw [8] (fun i wr => ∃ k : Nat, k ≤ n ∧ i = .int .i64 k ∧ Hid (Below w.heap.size w wr)) (fun i _ => n - (intOf i).toNat)
  case atStart => exact ⟨0, by omega, rfl, Lib.hid (Below.refl _ _)⟩
  case round =>
    obtain ⟨k, hk, rfl, hB⟩ := hrel
    have hz := hB.out.size
    by_cases hlt : k < n
    · obtain ⟨b, off, x, e1, hb2, hx, hcx⟩ := (HL.out.below hB.out).at_ hlt
      have K := Lib.hid (all1R m x bx wr EG.out (fun W hW => HO.out x (List.mem_of_getElem? hx) W (below3 hB.out hW (Nat.le_refl _))) (by omega) ((hB.out.cell (p := ⟨bx, 0, none⟩) hb).trans HC.out))
      obtain ⟨c0, c1⟩ := Rom.cells hcx
      have zb : b < wr.heap.size := by omega
      have hk0 : (0 : Int) ≤ (k : Int) := by omega
      have hkn : (k : Int) < (n : Int) := by omega
      subst e1
      clear hx hcx hb2
      go_wp2_with fail
      refine K.out.mono ?_
      rintro e w2 ⟨rfl, hB2⟩
      have HB2 := Lib.hid (below3 hB.out hB2 (Nat.le_refl _))
      clear hB2
      go_wp2
      go_roundw
      case rel => exact ⟨k + 1, by omega, by go_num, HB2⟩
      case measure => simp [intOf]; omega
    · obtain rfl : n = k := by omega
      go_wp2
      go_ret
      exact ⟨rfl, hB.out⟩
theorem allR (A : Option Addr) (n c : Nat) (l : List Rom) (m : FuncId) (w : World) (eg : ∀ args W, Sem.run Try.prog (callFunc m args) W = .ok (.enter m args) W) (hl : Rd w w.heap.size 2 Rom.enc A n l) (hn : n ≤ 1000000000) (hok : ∀ x ∈ l, ∀ W, Below w.heap.size w W → Calls Try.prog m #[.agg #[.int .i64 x.st, .int .i64 x.lim]] W fun e w' => e = .returned (.bool true) ∧ Below W.heap.size W w') :
    Calls Try.prog 53 #[.slice A n c, .func (.func m) #[] #[]] w fun e w' => e = .returned (.bool true) ∧ Below w.heap.size w w' := by
  have KC : Hid (∀ (W : World) (bx : Nat) (hW : Below w.heap.size w W) (hb : bx < W.heap.size) (hc : W.cell? ⟨bx, 0, none⟩ = some (.func (.func m) #[] #[])), Calls Try.prog 79 #[.slice A n c, .func (.func 80) #[] #[.pointer (some ⟨bx, 0, none⟩)]] W fun e w' => e = .returned (.bool false) ∧ Below W.heap.size W w') := Lib.hid (by
    intro W bx hW hb hc
    have K := Lib.hid (indexR A n c l m bx W eg (hl.next hW) hn (fun x hx W' hW' => hok x hx W' (below3 hW hW' (Nat.le_refl _))) hb hc)
    clear hc hok hl eg
    go_enter Try.func79, Try.ntmps79
    go_wp2_with fail
    refine K.out.mono ?_
    rintro e w2 ⟨rfl, hB⟩
    have HB := Lib.hid hB
    clear hB
    go_wp2
    go_ret
    exact ⟨rfl, HB.out⟩)
  clear hl hok
  go_enter Try.func53, Try.ntmps53
  go_wp2_with fail
  refine (KC.out _ w.heap.size (by (repeat' (first | (with_reducible exact Below.refl _ _) | (with_reducible assumption) | (with_reducible refine below_drewN ?_ _) | (with_reducible refine below_after (by assumption) ?_ ?_) | (with_reducible refine Below.drew ?_) | (with_reducible refine Below.alloc ?_ ?_ _) | (with_reducible refine Below.setCell ?_ ?_ _) | omega | (simp; omega) | (simp; done)))) (by simp) (by simp [go_sem])).mono ?_
  rintro e w2 ⟨rfl, hB⟩
  have HB : Hid (Below w.heap.size w w2) := Lib.hid (((Below.refl w.heap.size w).alloc (Nat.le_refl _) _).trans (hB.mono (by simp)))
  clear hB
  go_wp2
  go_ret
  exact ⟨rfl, HB.out⟩
/-- all, over heat.Wall. -/
theorem all1W (m : FuncId) (bv : Value) (x : Wal) (bx : Nat) (w : World) (eg : ∀ args W, Sem.run Try.prog (callFunc m args) W = .ok (.enter m args) W) (hx : ∀ W, Below w.heap.size w W → Calls Try.prog m #[bv, .agg #[.int .i64 x.a, .int .i64 x.b, .int .i64 x.p]] W fun e w' => e = .returned (.bool true) ∧ Below W.heap.size W w') (hb : bx < w.heap.size) (hc : w.cell? ⟨bx, 0, none⟩ = some (.func (.func m) #[bv] #[])) :
    Calls Try.prog 83 #[.agg #[.int .i64 x.a, .int .i64 x.b, .int .i64 x.p], .pointer (some ⟨bx, 0, none⟩)] w fun e w' => e = .returned (.bool false) ∧ Below w.heap.size w w' := by
  have K := Lib.hid hx
  clear hx
  go_enter Try.func83, Try.ntmps83
  go_wp2_with fail
  refine (K.out _ (by (repeat' (first | (with_reducible exact Below.refl _ _) | (with_reducible assumption) | (with_reducible refine below_drewN ?_ _) | (with_reducible refine below_after (by assumption) ?_ ?_) | (with_reducible refine Below.drew ?_) | (with_reducible refine Below.alloc ?_ ?_ _) | (with_reducible refine Below.setCell ?_ ?_ _) | omega | (simp; omega) | (simp; done))))).mono ?_
  rintro e w2 ⟨rfl, hB⟩
  have HB : Hid (Below w.heap.size w w2) := Lib.hid (((Below.refl w.heap.size w).alloc (Nat.le_refl _) _).trans (hB.mono (by simp)))
  clear hB
  go_wp2
  go_ret
  exact ⟨rfl, HB.out⟩
theorem indexW (A : Option Addr) (n c : Nat) (l : List Wal) (m : FuncId) (bv : Value) (bx : Nat) (w : World) (eg : ∀ args W, Sem.run Try.prog (callFunc m args) W = .ok (.enter m args) W) (hl : Rd w w.heap.size 3 Wal.enc A n l) (hn : n ≤ 1000000000) (hok : ∀ x ∈ l, ∀ W, Below w.heap.size w W → Calls Try.prog m #[bv, .agg #[.int .i64 x.a, .int .i64 x.b, .int .i64 x.p]] W fun e w' => e = .returned (.bool true) ∧ Below W.heap.size W w') (hb : bx < w.heap.size) (hc : w.cell? ⟨bx, 0, none⟩ = some (.func (.func m) #[bv] #[])) :
    Calls Try.prog 95 #[.slice A n c, .func (.func 83) #[] #[.pointer (some ⟨bx, 0, none⟩)]] w fun e w' => e = .returned (.int .i64 (-1)) ∧ Below w.heap.size w w' := by
  have HL := Lib.hid hl
  have HO := Lib.hid hok
  have HC := Lib.hid hc
  have EG := Lib.hid eg
  have e2 : ∀ args W, Sem.run Try.prog (callFunc 83 args) W = .ok (.enter 83 args) W := enters_of Try.func83 (by kernel_rfl) rfl
  clear hl hok hc eg
  go_enter Try.func95, Try.ntmps95
  go_wp2
  go_loopw [8] (fun i wr => ∃ k : Nat, k ≤ n ∧ i = .int .i64 k ∧ Hid (Below w.heap.size w wr)) (fun i _ => n - (intOf i).toNat)
  case atStart => exact ⟨0, by omega, rfl, Lib.hid (Below.refl _ _)⟩
  case round =>
    obtain ⟨k, hk, rfl, hB⟩ := hrel
    have hz := hB.out.size
    by_cases hlt : k < n
    · obtain ⟨b, off, x, e1, hb2, hx, hcx⟩ := (HL.out.below hB.out).at_ hlt
      have K := Lib.hid (all1W m bv x bx wr EG.out (fun W hW => HO.out x (List.mem_of_getElem? hx) W (below3 hB.out hW (Nat.le_refl _))) (by omega) ((hB.out.cell (p := ⟨bx, 0, none⟩) hb).trans HC.out))
      obtain ⟨c0, c1, c2⟩ := Wal.cells hcx
      have zb : b < wr.heap.size := by omega
      have hk0 : (0 : Int) ≤ (k : Int) := by omega
      have hkn : (k : Int) < (n : Int) := by omega
      subst e1
      clear hx hcx hb2
      go_wp2_with fail
      refine K.out.mono ?_
      rintro e w2 ⟨rfl, hB2⟩
      have HB2 := Lib.hid (below3 hB.out hB2 (Nat.le_refl _))
      clear hB2
      go_wp2
      go_roundw
      case rel => exact ⟨k + 1, by omega, by go_num, HB2⟩
      case measure => simp [intOf]; omega
    · obtain rfl : n = k := by omega
      go_wp2
      go_ret
      exact ⟨rfl, hB.out⟩
theorem allW (A : Option Addr) (n c : Nat) (l : List Wal) (m : FuncId) (bv : Value) (w : World) (eg : ∀ args W, Sem.run Try.prog (callFunc m args) W = .ok (.enter m args) W) (hl : Rd w w.heap.size 3 Wal.enc A n l) (hn : n ≤ 1000000000) (hok : ∀ x ∈ l, ∀ W, Below w.heap.size w W → Calls Try.prog m #[bv, .agg #[.int .i64 x.a, .int .i64 x.b, .int .i64 x.p]] W fun e w' => e = .returned (.bool true) ∧ Below W.heap.size W w') :
    Calls Try.prog 55 #[.slice A n c, .func (.func m) #[bv] #[]] w fun e w' => e = .returned (.bool true) ∧ Below w.heap.size w w' := by
  have KC : Hid (∀ (W : World) (bx : Nat) (hW : Below w.heap.size w W) (hb : bx < W.heap.size) (hc : W.cell? ⟨bx, 0, none⟩ = some (.func (.func m) #[bv] #[])), Calls Try.prog 82 #[.slice A n c, .func (.func 83) #[] #[.pointer (some ⟨bx, 0, none⟩)]] W fun e w' => e = .returned (.bool false) ∧ Below W.heap.size W w') := Lib.hid (by
    intro W bx hW hb hc
    have K := Lib.hid (indexW A n c l m bv bx W eg (hl.next hW) hn (fun x hx W' hW' => hok x hx W' (below3 hW hW' (Nat.le_refl _))) hb hc)
    clear hc hok hl eg
    go_enter Try.func82, Try.ntmps82
    go_wp2_with fail
    refine K.out.mono ?_
    rintro e w2 ⟨rfl, hB⟩
    have HB := Lib.hid hB
    clear hB
    go_wp2
    go_ret
    exact ⟨rfl, HB.out⟩)
  clear hl hok
  go_enter Try.func55, Try.ntmps55
  go_wp2_with fail
  refine (KC.out _ w.heap.size (by (repeat' (first | (with_reducible exact Below.refl _ _) | (with_reducible assumption) | (with_reducible refine below_drewN ?_ _) | (with_reducible refine below_after (by assumption) ?_ ?_) | (with_reducible refine Below.drew ?_) | (with_reducible refine Below.alloc ?_ ?_ _) | (with_reducible refine Below.setCell ?_ ?_ _) | omega | (simp; omega) | (simp; done)))) (by simp) (by simp [go_sem])).mono ?_
  rintro e w2 ⟨rfl, hB⟩
  have HB : Hid (Below w.heap.size w w2) := Lib.hid (((Below.refl w.heap.size w).alloc (Nat.le_refl _) _).trans (hB.mono (by simp)))
  clear hB
  go_wp2
  go_ret
  exact ⟨rfl, HB.out⟩
/-- all, over heat.Cooler. -/
theorem all1C (m : FuncId) (bv : Value) (x : Clr) (bx : Nat) (w : World) (eg : ∀ args W, Sem.run Try.prog (callFunc m args) W = .ok (.enter m args) W) (hx : ∀ W, Below w.heap.size w W → Calls Try.prog m #[bv, .agg #[.int .i64 x.rm, .int .i64 x.br, .int .i64 x.gn, .int .i64 x.cr, .int .i64 x.sp]] W fun e w' => e = .returned (.bool true) ∧ Below W.heap.size W w') (hb : bx < w.heap.size) (hc : w.cell? ⟨bx, 0, none⟩ = some (.func (.func m) #[bv] #[])) :
    Calls Try.prog 87 #[.agg #[.int .i64 x.rm, .int .i64 x.br, .int .i64 x.gn, .int .i64 x.cr, .int .i64 x.sp], .pointer (some ⟨bx, 0, none⟩)] w fun e w' => e = .returned (.bool false) ∧ Below w.heap.size w w' := by
  have K := Lib.hid hx
  clear hx
  go_enter Try.func87, Try.ntmps87
  go_wp2_with fail
  refine (K.out _ (by (repeat' (first | (with_reducible exact Below.refl _ _) | (with_reducible assumption) | (with_reducible refine below_drewN ?_ _) | (with_reducible refine below_after (by assumption) ?_ ?_) | (with_reducible refine Below.drew ?_) | (with_reducible refine Below.alloc ?_ ?_ _) | (with_reducible refine Below.setCell ?_ ?_ _) | omega | (simp; omega) | (simp; done))))).mono ?_
  rintro e w2 ⟨rfl, hB⟩
  have HB : Hid (Below w.heap.size w w2) := Lib.hid (((Below.refl w.heap.size w).alloc (Nat.le_refl _) _).trans (hB.mono (by simp)))
  clear hB
  go_wp2
  go_ret
  exact ⟨rfl, HB.out⟩
theorem indexC (A : Option Addr) (n c : Nat) (l : List Clr) (m : FuncId) (bv : Value) (bx : Nat) (w : World) (eg : ∀ args W, Sem.run Try.prog (callFunc m args) W = .ok (.enter m args) W) (hl : Rd w w.heap.size 5 Clr.enc A n l) (hn : n ≤ 1000000000) (hok : ∀ x ∈ l, ∀ W, Below w.heap.size w W → Calls Try.prog m #[bv, .agg #[.int .i64 x.rm, .int .i64 x.br, .int .i64 x.gn, .int .i64 x.cr, .int .i64 x.sp]] W fun e w' => e = .returned (.bool true) ∧ Below W.heap.size W w') (hb : bx < w.heap.size) (hc : w.cell? ⟨bx, 0, none⟩ = some (.func (.func m) #[bv] #[])) :
    Calls Try.prog 96 #[.slice A n c, .func (.func 87) #[] #[.pointer (some ⟨bx, 0, none⟩)]] w fun e w' => e = .returned (.int .i64 (-1)) ∧ Below w.heap.size w w' := by
  have HL := Lib.hid hl
  have HO := Lib.hid hok
  have HC := Lib.hid hc
  have EG := Lib.hid eg
  have e2 : ∀ args W, Sem.run Try.prog (callFunc 87 args) W = .ok (.enter 87 args) W := enters_of Try.func87 (by kernel_rfl) rfl
  clear hl hok hc eg
  go_enter Try.func96, Try.ntmps96
  go_wp2
  go_loopw [8] (fun i wr => ∃ k : Nat, k ≤ n ∧ i = .int .i64 k ∧ Hid (Below w.heap.size w wr)) (fun i _ => n - (intOf i).toNat)
  case atStart => exact ⟨0, by omega, rfl, Lib.hid (Below.refl _ _)⟩
  case round =>
    obtain ⟨k, hk, rfl, hB⟩ := hrel
    have hz := hB.out.size
    by_cases hlt : k < n
    · obtain ⟨b, off, x, e1, hb2, hx, hcx⟩ := (HL.out.below hB.out).at_ hlt
      have K := Lib.hid (all1C m bv x bx wr EG.out (fun W hW => HO.out x (List.mem_of_getElem? hx) W (below3 hB.out hW (Nat.le_refl _))) (by omega) ((hB.out.cell (p := ⟨bx, 0, none⟩) hb).trans HC.out))
      obtain ⟨c0, c1, c2, c3, c4⟩ := Clr.cells hcx
      have zb : b < wr.heap.size := by omega
      have hk0 : (0 : Int) ≤ (k : Int) := by omega
      have hkn : (k : Int) < (n : Int) := by omega
      subst e1
      clear hx hcx hb2
      go_wp2_with fail
      refine K.out.mono ?_
      rintro e w2 ⟨rfl, hB2⟩
      have HB2 := Lib.hid (below3 hB.out hB2 (Nat.le_refl _))
      clear hB2
      go_wp2
      go_roundw
      case rel => exact ⟨k + 1, by omega, by go_num, HB2⟩
      case measure => simp [intOf]; omega
    · obtain rfl : n = k := by omega
      go_wp2
      go_ret
      exact ⟨rfl, hB.out⟩
theorem allC (A : Option Addr) (n c : Nat) (l : List Clr) (m : FuncId) (bv : Value) (w : World) (eg : ∀ args W, Sem.run Try.prog (callFunc m args) W = .ok (.enter m args) W) (hl : Rd w w.heap.size 5 Clr.enc A n l) (hn : n ≤ 1000000000) (hok : ∀ x ∈ l, ∀ W, Below w.heap.size w W → Calls Try.prog m #[bv, .agg #[.int .i64 x.rm, .int .i64 x.br, .int .i64 x.gn, .int .i64 x.cr, .int .i64 x.sp]] W fun e w' => e = .returned (.bool true) ∧ Below W.heap.size W w') :
    Calls Try.prog 58 #[.slice A n c, .func (.func m) #[bv] #[]] w fun e w' => e = .returned (.bool true) ∧ Below w.heap.size w w' := by
  have KC : Hid (∀ (W : World) (bx : Nat) (hW : Below w.heap.size w W) (hb : bx < W.heap.size) (hc : W.cell? ⟨bx, 0, none⟩ = some (.func (.func m) #[bv] #[])), Calls Try.prog 86 #[.slice A n c, .func (.func 87) #[] #[.pointer (some ⟨bx, 0, none⟩)]] W fun e w' => e = .returned (.bool false) ∧ Below W.heap.size W w') := Lib.hid (by
    intro W bx hW hb hc
    have K := Lib.hid (indexC A n c l m bv bx W eg (hl.next hW) hn (fun x hx W' hW' => hok x hx W' (below3 hW hW' (Nat.le_refl _))) hb hc)
    clear hc hok hl eg
    go_enter Try.func86, Try.ntmps86
    go_wp2_with fail
    refine K.out.mono ?_
    rintro e w2 ⟨rfl, hB⟩
    have HB := Lib.hid hB
    clear hB
    go_wp2
    go_ret
    exact ⟨rfl, HB.out⟩)
  clear hl hok
  go_enter Try.func58, Try.ntmps58
  go_wp2_with fail
  refine (KC.out _ w.heap.size (by (repeat' (first | (with_reducible exact Below.refl _ _) | (with_reducible assumption) | (with_reducible refine below_drewN ?_ _) | (with_reducible refine below_after (by assumption) ?_ ?_) | (with_reducible refine Below.drew ?_) | (with_reducible refine Below.alloc ?_ ?_ _) | (with_reducible refine Below.setCell ?_ ?_ _) | omega | (simp; omega) | (simp; done)))) (by simp) (by simp [go_sem])).mono ?_
  rintro e w2 ⟨rfl, hB⟩
  have HB : Hid (Below w.heap.size w w2) := Lib.hid (((Below.refl w.heap.size w).alloc (Nat.le_refl _) _).trans (hB.mono (by simp)))
  clear hB
  go_wp2
  go_ret
  exact ⟨rfl, HB.out⟩
end Go.Proofs.Ytldbciflpnhfpaa
