/- heat: next; all. -/
import Derived.Test.YtldbciflpnhfpaaHtJ

set_option linter.unusedSimpArgs false
set_option linter.unusedVariables false
namespace Go.Proofs.Ytldbciflpnhfpaa
open Go.RowKit

set_option maxRecDepth 100000 in
set_option maxHeartbeats 4000000 in
theorem nextS_any (rA wA bA cA lA tA : Option Addr) (rn rc wn wc bn bc cn cc lc tc : Nat) (out pump : Int) (h : Hl) (t l : List Int) (w : World) (hin : HlIn w w.heap.size ⟨rA, wA, bA, cA, rn, wn, bn, cn⟩ h) (ok : HlOk h) (ho : 0 ≤ out ∧ out ≤ 1000000) (hp : 0 ≤ pump ∧ pump ≤ 100000) (ht : Rd w w.heap.size 1 encI tA rn t) (htb : ∀ x ∈ t, 0 ≤ x ∧ x ≤ 1000000) (hl : Rd w w.heap.size 1 encI lA rn l) (hlb : ∀ x ∈ l, 0 ≤ x ∧ x ≤ 10000000) :
    Calls Try.prog 31 #[.agg #[.slice rA rn rc, .slice wA wn wc, .slice bA bn bc, .slice cA cn cc], .slice tA rn tc, .agg #[.slice lA rn lc, .int .i64 out, .int .i64 pump]] w fun e w' => ∃ lb, e = .returned (.slice (some ⟨lb, 0, none⟩) rn rn) ∧ Blk w' lb 3 (intsA (nxL h t l out pump)) ∧ w.heap.size ≤ lb ∧ Below w.heap.size w w' := by
  have K := Lib.hid (fun W (hW : Below w.heap.size w W) => afterS_any rA wA bA cA lA tA rn rc wn wc bn bc cn cc lc tc out pump h t l W (hin.next hW) ok ho hp (ht.next hW) htb (hl.next hW) hlb)
  have g1 : w.heap.size < w.heap.size + 1 := by omega
  have g2 : w.heap.size < w.heap.size + 1 + 1 := by omega
  clear hin ok ho hp ht htb hl hlb
  go_enter Try.func31, Try.ntmps31
  go_wp2_with fail
  obtain ⟨bx, hbx⟩ : ∃ z, z = w.heap.size := ⟨_, rfl⟩
  obtain ⟨w1, hw1⟩ : ∃ z, z = w.alloc (.cells #[.slice rA rn rc, .slice wA wn wc, .slice bA bn bc, .slice cA cn cc] 28) := ⟨_, rfl⟩
  have BX : Hid (Blk w1 bx 28 #[.slice rA rn rc, .slice wA wn wc, .slice bA bn bc, .slice cA cn cc]) := Lib.hid (by rw [hw1, hbx]; exact heap_alloc_new w _)
  have Sw1 : Hid (w1.heap.size = bx + 1) := Lib.hid (by rw [hw1, hbx, World.size_alloc])
  have Zbx : Hid (w.heap.size ≤ bx) := Lib.hid (by rw [hbx]; exact Nat.le_refl _)
  have hBn : Below w.heap.size w w1 := by rw [hw1]; exact (Below.refl _ _).alloc (Nat.le_refl _) _
  rw [← hw1, ← hbx]
  have B0 : Hid (Below w.heap.size w w1) := Lib.hid hBn
  clear hw1 hbx hBn
  obtain ⟨cx, hcx⟩ : ∃ z, z = bx + 1 := ⟨_, rfl⟩
  obtain ⟨w2, hw2⟩ : ∃ z, z = w1.alloc (.cells #[.slice lA rn lc, .int .i64 out, .int .i64 pump] 35) := ⟨_, rfl⟩
  have CX : Hid (Blk w2 cx 35 #[.slice lA rn lc, .int .i64 out, .int .i64 pump]) := Lib.hid (by have e2 := heap_alloc_new w1 (.cells #[.slice lA rn lc, .int .i64 out, .int .i64 pump] 35); rw [Sw1.out] at e2; rw [hw2, hcx]; exact e2)
  have Sw2 : Hid (w2.heap.size = cx + 1) := Lib.hid (by rw [hw2, hcx, World.size_alloc, Sw1.out])
  have Zcx : Hid (w1.heap.size = cx) := Lib.hid (by rw [Sw1.out, hcx])
  have hBn : Below w1.heap.size w1 w2 := by rw [hw2]; exact (Below.refl _ _).alloc (Nat.le_refl _) _
  rw [← hw2, ← hcx]
  have B1 : Hid (Below w1.heap.size w1 w2) := Lib.hid hBn
  clear hw2 hcx hBn
  refine (K.out _ (below3 B0.out B1.out (Nat.le_refl _))).mono ?_
  rintro e w3 ⟨lb, rfl, hlb, hle, hB⟩
  have B2 : Hid (Below w2.heap.size w2 w3) := Lib.hid hB
  clear hB
  have HF := Lib.hid (And.intro hlb hle)
  clear hlb hle g1 g2 K
  go_wp2
  go_ret
  exact ⟨lb, rfl, HF.out.1, Nat.le_trans ((below3 B0.out B1.out (Nat.le_refl _))).size HF.out.2, (below3 (below3 B0.out B1.out (Nat.le_refl _)) B2.out (Nat.le_refl _))⟩
/-- A list of numbers, a case: where it lies. -/
structure Ls where
  A : Option Addr
  (n c : Nat)
def Ls.enc (x : Ls) : List Value := [.slice x.A x.n x.c]
theorem Ls.cells {w : World} {b o : Nat} {x : Ls} (h : ∀ j u, x.enc[j]? = some u → w.cell? ⟨b, o + j, none⟩ = some u) : w.cell? ⟨b, o, none⟩ = some (.slice x.A x.n x.c) := h 0 _ rfl
structure Cs where
  A : Option Addr
  (n c : Nat)
  (out pump : Int)
def Cs.enc (x : Cs) : List Value := [.slice x.A x.n x.c, .int .i64 x.out, .int .i64 x.pump]
theorem Cs.cells {w : World} {b o : Nat} {x : Cs} (h : ∀ j u, x.enc[j]? = some u → w.cell? ⟨b, o + j, none⟩ = some u) :
    w.cell? ⟨b, o, none⟩ = some (.slice x.A x.n x.c) ∧ w.cell? ⟨b, o + 1, none⟩ = some (.int .i64 x.out) ∧ w.cell? ⟨b, o + 2, none⟩ = some (.int .i64 x.pump) := ⟨h 0 _ rfl, h 1 _ rfl, h 2 _ rfl⟩
/-- all, over int. -/
theorem all1N (m : FuncId) (x : Int) (bx : Nat) (w : World) (eg : ∀ args W, Sem.run Try.prog (callFunc m args) W = .ok (.enter m args) W) (hx : ∀ W, Below w.heap.size w W → Calls Try.prog m #[.int .i64 x] W fun e w' => e = .returned (.bool true) ∧ Below W.heap.size W w') (hb : bx < w.heap.size) (hc : w.cell? ⟨bx, 0, none⟩ = some (.func (.func m) #[] #[])) :
    Calls Try.prog 100 #[.int .i64 x, .pointer (some ⟨bx, 0, none⟩)] w fun e w' => e = .returned (.bool false) ∧ Below w.heap.size w w' := by
  have K := Lib.hid hx
  clear hx
  go_enter Try.func100, Try.ntmps100
  go_wp2_with fail
  refine (K.out _ (by (repeat' (first | (with_reducible exact Below.refl _ _) | (with_reducible assumption) | (with_reducible refine below_drewN ?_ _) | (with_reducible refine below_after (by assumption) ?_ ?_) | (with_reducible refine Below.drew ?_) | (with_reducible refine Below.alloc ?_ ?_ _) | (with_reducible refine Below.setCell ?_ ?_ _) | omega | (simp; omega) | (simp; done))))).mono ?_
  rintro e w2 ⟨rfl, hB⟩
  have HB : Hid (Below w.heap.size w w2) := Lib.hid hB
  clear hB
  go_wp2
  go_ret
  exact ⟨rfl, HB.out⟩
theorem indexN (A : Option Addr) (n c : Nat) (l : List Int) (m : FuncId) (bx : Nat) (w : World) (eg : ∀ args W, Sem.run Try.prog (callFunc m args) W = .ok (.enter m args) W) (hl : Rd w w.heap.size 1 encI A n l) (hn : n ≤ 1000000000) (hok : ∀ x ∈ l, ∀ W, Below w.heap.size w W → Calls Try.prog m #[.int .i64 x] W fun e w' => e = .returned (.bool true) ∧ Below W.heap.size W w') (hb : bx < w.heap.size) (hc : w.cell? ⟨bx, 0, none⟩ = some (.func (.func m) #[] #[])) :
    Calls Try.prog 101 #[.slice A n c, .func (.func 100) #[] #[.pointer (some ⟨bx, 0, none⟩)]] w fun e w' => e = .returned (.int .i64 (-1)) ∧ Below w.heap.size w w' := by
  have HL := Lib.hid hl
  have HO := Lib.hid hok
  have HC := Lib.hid hc
  have EG := Lib.hid eg
  have e2 : ∀ args W, Sem.run Try.prog (callFunc 100 args) W = .ok (.enter 100 args) W := enters_of Try.func100 (by kernel_rfl) rfl
  clear hl hok hc eg
  go_enter Try.func101, Try.ntmps101
  go_wp2
  go_loopw [8] (fun i wr => ∃ k : Nat, k ≤ n ∧ i = .int .i64 k ∧ Hid (Below w.heap.size w wr)) (fun i _ => n - (intOf i).toNat)
  case atStart => exact ⟨0, by omega, rfl, Lib.hid (Below.refl _ _)⟩
  case round =>
    obtain ⟨k, hk, rfl, hB⟩ := hrel
    have hz := hB.out.size
    by_cases hlt : k < n
    · obtain ⟨b, off, x, e1, hb2, hx, hcx⟩ := (HL.out.below hB.out).at_ hlt
      have K := Lib.hid (all1N m x bx wr EG.out (fun W hW => HO.out x (List.mem_of_getElem? hx) W (below3 hB.out hW (Nat.le_refl _))) (by omega) ((hB.out.cell (p := ⟨bx, 0, none⟩) hb).trans HC.out))
      have c0 := cellI hcx
      have zb : b < wr.heap.size := by omega
      have hk0 : (0 : Int) ≤ (k : Int) := by omega
      have hkn : (k : Int) < (n : Int) := by omega
      subst e1
      clear hx hcx hb2
      go_wp2_with fail
      refine K.out.mono ?_
      rintro e w2 ⟨rfl, hB2⟩
      have HB2 := Lib.hid (below3 hB.out hB2 (Nat.le_refl _))
      clear hB2
      go_wp2
      go_roundw
      case rel => exact ⟨k + 1, by omega, by go_num, HB2⟩
      case measure => simp [intOf]; omega
    · obtain rfl : n = k := by omega
      go_wp2
      go_ret
      exact ⟨rfl, hB.out⟩
theorem allN (A : Option Addr) (n c : Nat) (l : List Int) (m : FuncId) (w : World) (eg : ∀ args W, Sem.run Try.prog (callFunc m args) W = .ok (.enter m args) W) (hl : Rd w w.heap.size 1 encI A n l) (hn : n ≤ 1000000000) (hok : ∀ x ∈ l, ∀ W, Below w.heap.size w W → Calls Try.prog m #[.int .i64 x] W fun e w' => e = .returned (.bool true) ∧ Below W.heap.size W w') :
    Calls Try.prog 92 #[.slice A n c, .func (.func m) #[] #[]] w fun e w' => e = .returned (.bool true) ∧ Below w.heap.size w w' := by
  have KC : Hid (∀ (W : World) (bx : Nat) (hW : Below w.heap.size w W) (hb : bx < W.heap.size) (hc : W.cell? ⟨bx, 0, none⟩ = some (.func (.func m) #[] #[])), Calls Try.prog 99 #[.slice A n c, .func (.func 100) #[] #[.pointer (some ⟨bx, 0, none⟩)]] W fun e w' => e = .returned (.bool false) ∧ Below W.heap.size W w') := Lib.hid (by
    intro W bx hW hb hc
    have K := Lib.hid (indexN A n c l m bx W eg (hl.next hW) hn (fun x hx W' hW' => hok x hx W' (below3 hW hW' (Nat.le_refl _))) hb hc)
    clear hc hok hl eg
    go_enter Try.func99, Try.ntmps99
    go_wp2_with fail
    refine K.out.mono ?_
    rintro e w2 ⟨rfl, hB⟩
    have HB := Lib.hid hB
    clear hB
    go_wp2
    go_ret
    exact ⟨rfl, HB.out⟩)
  clear hl hok
  go_enter Try.func92, Try.ntmps92
  go_wp2_with fail
  refine (KC.out _ w.heap.size (by (repeat' (first | (with_reducible exact Below.refl _ _) | (with_reducible assumption) | (with_reducible refine below_drewN ?_ _) | (with_reducible refine below_after (by assumption) ?_ ?_) | (with_reducible refine Below.drew ?_) | (with_reducible refine Below.alloc ?_ ?_ _) | (with_reducible refine Below.setCell ?_ ?_ _) | omega | (simp; omega) | (simp; done)))) (by simp) (by simp [go_sem])).mono ?_
  rintro e w2 ⟨rfl, hB⟩
  have HB : Hid (Below w.heap.size w w2) := Lib.hid (((Below.refl w.heap.size w).alloc (Nat.le_refl _) _).trans (hB.mono (by simp)))
  clear hB
  go_wp2
  go_ret
  exact ⟨rfl, HB.out⟩
/-- all, over []int. -/
theorem all1L (m : FuncId) (bv : Value) (x : Ls) (bx : Nat) (w : World) (eg : ∀ args W, Sem.run Try.prog (callFunc m args) W = .ok (.enter m args) W) (hx : ∀ W, Below w.heap.size w W → Calls Try.prog m #[bv, .slice x.A x.n x.c] W fun e w' => e = .returned (.bool true) ∧ Below W.heap.size W w') (hb : bx < w.heap.size) (hc : w.cell? ⟨bx, 0, none⟩ = some (.func (.func m) #[bv] #[])) :
    Calls Try.prog 89 #[.slice x.A x.n x.c, .pointer (some ⟨bx, 0, none⟩)] w fun e w' => e = .returned (.bool false) ∧ Below w.heap.size w w' := by
  have K := Lib.hid hx
  clear hx
  go_enter Try.func89, Try.ntmps89
  go_wp2_with fail
  refine (K.out _ (by (repeat' (first | (with_reducible exact Below.refl _ _) | (with_reducible assumption) | (with_reducible refine below_drewN ?_ _) | (with_reducible refine below_after (by assumption) ?_ ?_) | (with_reducible refine Below.drew ?_) | (with_reducible refine Below.alloc ?_ ?_ _) | (with_reducible refine Below.setCell ?_ ?_ _) | omega | (simp; omega) | (simp; done))))).mono ?_
  rintro e w2 ⟨rfl, hB⟩
  have HB : Hid (Below w.heap.size w w2) := Lib.hid hB
  clear hB
  go_wp2
  go_ret
  exact ⟨rfl, HB.out⟩
theorem indexL (A : Option Addr) (n c : Nat) (l : List Ls) (m : FuncId) (bv : Value) (bx : Nat) (w : World) (eg : ∀ args W, Sem.run Try.prog (callFunc m args) W = .ok (.enter m args) W) (hl : Rd w w.heap.size 1 Ls.enc A n l) (hn : n ≤ 1000000000) (hok : ∀ x ∈ l, ∀ W, Below w.heap.size w W → Calls Try.prog m #[bv, .slice x.A x.n x.c] W fun e w' => e = .returned (.bool true) ∧ Below W.heap.size W w') (hb : bx < w.heap.size) (hc : w.cell? ⟨bx, 0, none⟩ = some (.func (.func m) #[bv] #[])) :
    Calls Try.prog 97 #[.slice A n c, .func (.func 89) #[] #[.pointer (some ⟨bx, 0, none⟩)]] w fun e w' => e = .returned (.int .i64 (-1)) ∧ Below w.heap.size w w' := by
  have HL := Lib.hid hl
  have HO := Lib.hid hok
  have HC := Lib.hid hc
  have EG := Lib.hid eg
  have e2 : ∀ args W, Sem.run Try.prog (callFunc 89 args) W = .ok (.enter 89 args) W := enters_of Try.func89 (by kernel_rfl) rfl
  clear hl hok hc eg
  go_enter Try.func97, Try.ntmps97
  go_wp2
  go_loopw [8] (fun i wr => ∃ k : Nat, k ≤ n ∧ i = .int .i64 k ∧ Hid (Below w.heap.size w wr)) (fun i _ => n - (intOf i).toNat)
  case atStart => exact ⟨0, by omega, rfl, Lib.hid (Below.refl _ _)⟩
  case round =>
    obtain ⟨k, hk, rfl, hB⟩ := hrel
    have hz := hB.out.size
    by_cases hlt : k < n
    · obtain ⟨b, off, x, e1, hb2, hx, hcx⟩ := (HL.out.below hB.out).at_ hlt
      have K := Lib.hid (all1L m bv x bx wr EG.out (fun W hW => HO.out x (List.mem_of_getElem? hx) W (below3 hB.out hW (Nat.le_refl _))) (by omega) ((hB.out.cell (p := ⟨bx, 0, none⟩) hb).trans HC.out))
      have c0 := Ls.cells hcx
      rw [Nat.mul_one] at c0
      have zb : b < wr.heap.size := by omega
      have hk0 : (0 : Int) ≤ (k : Int) := by omega
      have hkn : (k : Int) < (n : Int) := by omega
      subst e1
      clear hx hcx hb2
      go_wp2_with fail
      refine K.out.mono ?_
      rintro e w2 ⟨rfl, hB2⟩
      have HB2 := Lib.hid (below3 hB.out hB2 (Nat.le_refl _))
      clear hB2
      go_wp2
      go_roundw
      case rel => exact ⟨k + 1, by omega, by go_num, HB2⟩
      case measure => simp [intOf]; omega
    · obtain rfl : n = k := by omega
      go_wp2
      go_ret
      exact ⟨rfl, hB.out⟩
theorem allL (A : Option Addr) (n c : Nat) (l : List Ls) (m : FuncId) (bv : Value) (w : World) (eg : ∀ args W, Sem.run Try.prog (callFunc m args) W = .ok (.enter m args) W) (hl : Rd w w.heap.size 1 Ls.enc A n l) (hn : n ≤ 1000000000) (hok : ∀ x ∈ l, ∀ W, Below w.heap.size w W → Calls Try.prog m #[bv, .slice x.A x.n x.c] W fun e w' => e = .returned (.bool true) ∧ Below W.heap.size W w') :
    Calls Try.prog 61 #[.slice A n c, .func (.func m) #[bv] #[]] w fun e w' => e = .returned (.bool true) ∧ Below w.heap.size w w' := by
  have KC : Hid (∀ (W : World) (bx : Nat) (hW : Below w.heap.size w W) (hb : bx < W.heap.size) (hc : W.cell? ⟨bx, 0, none⟩ = some (.func (.func m) #[bv] #[])), Calls Try.prog 88 #[.slice A n c, .func (.func 89) #[] #[.pointer (some ⟨bx, 0, none⟩)]] W fun e w' => e = .returned (.bool false) ∧ Below W.heap.size W w') := Lib.hid (by
    intro W bx hW hb hc
    have K := Lib.hid (indexL A n c l m bv bx W eg (hl.next hW) hn (fun x hx W' hW' => hok x hx W' (below3 hW hW' (Nat.le_refl _))) hb hc)
    clear hc hok hl eg
    go_enter Try.func88, Try.ntmps88
    go_wp2_with fail
    refine K.out.mono ?_
    rintro e w2 ⟨rfl, hB⟩
    have HB := Lib.hid hB
    clear hB
    go_wp2
    go_ret
    exact ⟨rfl, HB.out⟩)
  clear hl hok
  go_enter Try.func61, Try.ntmps61
  go_wp2_with fail
  refine (KC.out _ w.heap.size (by (repeat' (first | (with_reducible exact Below.refl _ _) | (with_reducible assumption) | (with_reducible refine below_drewN ?_ _) | (with_reducible refine below_after (by assumption) ?_ ?_) | (with_reducible refine Below.drew ?_) | (with_reducible refine Below.alloc ?_ ?_ _) | (with_reducible refine Below.setCell ?_ ?_ _) | omega | (simp; omega) | (simp; done)))) (by simp) (by simp [go_sem])).mono ?_
  rintro e w2 ⟨rfl, hB⟩
  have HB : Hid (Below w.heap.size w w2) := Lib.hid (((Below.refl w.heap.size w).alloc (Nat.le_refl _) _).trans (hB.mono (by simp)))
  clear hB
  go_wp2
  go_ret
  exact ⟨rfl, HB.out⟩
/-- all, over []int. -/
theorem all1M (m : FuncId) (x : Ls) (bx : Nat) (w : World) (eg : ∀ args W, Sem.run Try.prog (callFunc m args) W = .ok (.enter m args) W) (hx : ∀ W, Below w.heap.size w W → Calls Try.prog m #[.slice x.A x.n x.c] W fun e w' => e = .returned (.bool true) ∧ Below W.heap.size W w') (hb : bx < w.heap.size) (hc : w.cell? ⟨bx, 0, none⟩ = some (.func (.func m) #[] #[])) :
    Calls Try.prog 89 #[.slice x.A x.n x.c, .pointer (some ⟨bx, 0, none⟩)] w fun e w' => e = .returned (.bool false) ∧ Below w.heap.size w w' := by
  have K := Lib.hid hx
  clear hx
  go_enter Try.func89, Try.ntmps89
  go_wp2_with fail
  refine (K.out _ (by (repeat' (first | (with_reducible exact Below.refl _ _) | (with_reducible assumption) | (with_reducible refine below_drewN ?_ _) | (with_reducible refine below_after (by assumption) ?_ ?_) | (with_reducible refine Below.drew ?_) | (with_reducible refine Below.alloc ?_ ?_ _) | (with_reducible refine Below.setCell ?_ ?_ _) | omega | (simp; omega) | (simp; done))))).mono ?_
  rintro e w2 ⟨rfl, hB⟩
  have HB : Hid (Below w.heap.size w w2) := Lib.hid hB
  clear hB
  go_wp2
  go_ret
  exact ⟨rfl, HB.out⟩
theorem indexM (A : Option Addr) (n c : Nat) (l : List Ls) (m : FuncId) (bx : Nat) (w : World) (eg : ∀ args W, Sem.run Try.prog (callFunc m args) W = .ok (.enter m args) W) (hl : Rd w w.heap.size 1 Ls.enc A n l) (hn : n ≤ 1000000000) (hok : ∀ x ∈ l, ∀ W, Below w.heap.size w W → Calls Try.prog m #[.slice x.A x.n x.c] W fun e w' => e = .returned (.bool true) ∧ Below W.heap.size W w') (hb : bx < w.heap.size) (hc : w.cell? ⟨bx, 0, none⟩ = some (.func (.func m) #[] #[])) :
    Calls Try.prog 97 #[.slice A n c, .func (.func 89) #[] #[.pointer (some ⟨bx, 0, none⟩)]] w fun e w' => e = .returned (.int .i64 (-1)) ∧ Below w.heap.size w w' := by
  have HL := Lib.hid hl
  have HO := Lib.hid hok
  have HC := Lib.hid hc
  have EG := Lib.hid eg
  have e2 : ∀ args W, Sem.run Try.prog (callFunc 89 args) W = .ok (.enter 89 args) W := enters_of Try.func89 (by kernel_rfl) rfl
  clear hl hok hc eg
  go_enter Try.func97, Try.ntmps97
  go_wp2
  go_loopw [8] (fun i wr => ∃ k : Nat, k ≤ n ∧ i = .int .i64 k ∧ Hid (Below w.heap.size w wr)) (fun i _ => n - (intOf i).toNat)
  case atStart => exact ⟨0, by omega, rfl, Lib.hid (Below.refl _ _)⟩
  case round =>
    obtain ⟨k, hk, rfl, hB⟩ := hrel
    have hz := hB.out.size
    by_cases hlt : k < n
    · obtain ⟨b, off, x, e1, hb2, hx, hcx⟩ := (HL.out.below hB.out).at_ hlt
      have K := Lib.hid (all1M m x bx wr EG.out (fun W hW => HO.out x (List.mem_of_getElem? hx) W (below3 hB.out hW (Nat.le_refl _))) (by omega) ((hB.out.cell (p := ⟨bx, 0, none⟩) hb).trans HC.out))
      have c0 := Ls.cells hcx
      rw [Nat.mul_one] at c0
      have zb : b < wr.heap.size := by omega
      have hk0 : (0 : Int) ≤ (k : Int) := by omega
      have hkn : (k : Int) < (n : Int) := by omega
      subst e1
      clear hx hcx hb2
      go_wp2_with fail
      refine K.out.mono ?_
      rintro e w2 ⟨rfl, hB2⟩
      have HB2 := Lib.hid (below3 hB.out hB2 (Nat.le_refl _))
      clear hB2
      go_wp2
      go_roundw
      case rel => exact ⟨k + 1, by omega, by go_num, HB2⟩
      case measure => simp [intOf]; omega
    · obtain rfl : n = k := by omega
      go_wp2
      go_ret
      exact ⟨rfl, hB.out⟩
theorem allM (A : Option Addr) (n c : Nat) (l : List Ls) (m : FuncId) (w : World) (eg : ∀ args W, Sem.run Try.prog (callFunc m args) W = .ok (.enter m args) W) (hl : Rd w w.heap.size 1 Ls.enc A n l) (hn : n ≤ 1000000000) (hok : ∀ x ∈ l, ∀ W, Below w.heap.size w W → Calls Try.prog m #[.slice x.A x.n x.c] W fun e w' => e = .returned (.bool true) ∧ Below W.heap.size W w') :
    Calls Try.prog 61 #[.slice A n c, .func (.func m) #[] #[]] w fun e w' => e = .returned (.bool true) ∧ Below w.heap.size w w' := by
  have KC : Hid (∀ (W : World) (bx : Nat) (hW : Below w.heap.size w W) (hb : bx < W.heap.size) (hc : W.cell? ⟨bx, 0, none⟩ = some (.func (.func m) #[] #[])), Calls Try.prog 88 #[.slice A n c, .func (.func 89) #[] #[.pointer (some ⟨bx, 0, none⟩)]] W fun e w' => e = .returned (.bool false) ∧ Below W.heap.size W w') := Lib.hid (by
    intro W bx hW hb hc
    have K := Lib.hid (indexM A n c l m bx W eg (hl.next hW) hn (fun x hx W' hW' => hok x hx W' (below3 hW hW' (Nat.le_refl _))) hb hc)
    clear hc hok hl eg
    go_enter Try.func88, Try.ntmps88
    go_wp2_with fail
    refine K.out.mono ?_
    rintro e w2 ⟨rfl, hB⟩
    have HB := Lib.hid hB
    clear hB
    go_wp2
    go_ret
    exact ⟨rfl, HB.out⟩)
  clear hl hok
  go_enter Try.func61, Try.ntmps61
  go_wp2_with fail
  refine (KC.out _ w.heap.size (by (repeat' (first | (with_reducible exact Below.refl _ _) | (with_reducible assumption) | (with_reducible refine below_drewN ?_ _) | (with_reducible refine below_after (by assumption) ?_ ?_) | (with_reducible refine Below.drew ?_) | (with_reducible refine Below.alloc ?_ ?_ _) | (with_reducible refine Below.setCell ?_ ?_ _) | omega | (simp; omega) | (simp; done)))) (by simp) (by simp [go_sem])).mono ?_
  rintro e w2 ⟨rfl, hB⟩
  have HB : Hid (Below w.heap.size w w2) := Lib.hid (((Below.refl w.heap.size w).alloc (Nat.le_refl _) _).trans (hB.mono (by simp)))
  clear hB
  go_wp2
  go_ret
  exact ⟨rfl, HB.out⟩
/-- all, over heat.Case. -/
theorem all1S (m : FuncId) (bv : Value) (x : Cs) (bx : Nat) (w : World) (eg : ∀ args W, Sem.run Try.prog (callFunc m args) W = .ok (.enter m args) W) (hx : ∀ W, Below w.heap.size w W → Calls Try.prog m #[bv, .agg #[.slice x.A x.n x.c, .int .i64 x.out, .int .i64 x.pump]] W fun e w' => e = .returned (.bool true) ∧ Below W.heap.size W w') (hb : bx < w.heap.size) (hc : w.cell? ⟨bx, 0, none⟩ = some (.func (.func m) #[bv] #[])) :
    Calls Try.prog 91 #[.agg #[.slice x.A x.n x.c, .int .i64 x.out, .int .i64 x.pump], .pointer (some ⟨bx, 0, none⟩)] w fun e w' => e = .returned (.bool false) ∧ Below w.heap.size w w' := by
  have K := Lib.hid hx
  clear hx
  go_enter Try.func91, Try.ntmps91
  go_wp2_with fail
  refine (K.out _ (by (repeat' (first | (with_reducible exact Below.refl _ _) | (with_reducible assumption) | (with_reducible refine below_drewN ?_ _) | (with_reducible refine below_after (by assumption) ?_ ?_) | (with_reducible refine Below.drew ?_) | (with_reducible refine Below.alloc ?_ ?_ _) | (with_reducible refine Below.setCell ?_ ?_ _) | omega | (simp; omega) | (simp; done))))).mono ?_
  rintro e w2 ⟨rfl, hB⟩
  have HB : Hid (Below w.heap.size w w2) := Lib.hid (((Below.refl w.heap.size w).alloc (Nat.le_refl _) _).trans (hB.mono (by simp)))
  clear hB
  go_wp2
  go_ret
  exact ⟨rfl, HB.out⟩
theorem indexS (A : Option Addr) (n c : Nat) (l : List Cs) (m : FuncId) (bv : Value) (bx : Nat) (w : World) (eg : ∀ args W, Sem.run Try.prog (callFunc m args) W = .ok (.enter m args) W) (hl : Rd w w.heap.size 3 Cs.enc A n l) (hn : n ≤ 1000000000) (hok : ∀ x ∈ l, ∀ W, Below w.heap.size w W → Calls Try.prog m #[bv, .agg #[.slice x.A x.n x.c, .int .i64 x.out, .int .i64 x.pump]] W fun e w' => e = .returned (.bool true) ∧ Below W.heap.size W w') (hb : bx < w.heap.size) (hc : w.cell? ⟨bx, 0, none⟩ = some (.func (.func m) #[bv] #[])) :
    Calls Try.prog 98 #[.slice A n c, .func (.func 91) #[] #[.pointer (some ⟨bx, 0, none⟩)]] w fun e w' => e = .returned (.int .i64 (-1)) ∧ Below w.heap.size w w' := by
  have HL := Lib.hid hl
  have HO := Lib.hid hok
  have HC := Lib.hid hc
  have EG := Lib.hid eg
  have e2 : ∀ args W, Sem.run Try.prog (callFunc 91 args) W = .ok (.enter 91 args) W := enters_of Try.func91 (by kernel_rfl) rfl
  clear hl hok hc eg
  go_enter Try.func98, Try.ntmps98
  go_wp2
  go_loopw [8] (fun i wr => ∃ k : Nat, k ≤ n ∧ i = .int .i64 k ∧ Hid (Below w.heap.size w wr)) (fun i _ => n - (intOf i).toNat)
  case atStart => exact ⟨0, by omega, rfl, Lib.hid (Below.refl _ _)⟩
  case round =>
    obtain ⟨k, hk, rfl, hB⟩ := hrel
    have hz := hB.out.size
    by_cases hlt : k < n
    · obtain ⟨b, off, x, e1, hb2, hx, hcx⟩ := (HL.out.below hB.out).at_ hlt
      have K := Lib.hid (all1S m bv x bx wr EG.out (fun W hW => HO.out x (List.mem_of_getElem? hx) W (below3 hB.out hW (Nat.le_refl _))) (by omega) ((hB.out.cell (p := ⟨bx, 0, none⟩) hb).trans HC.out))
      obtain ⟨c0, c1, c2⟩ := Cs.cells hcx
      have zb : b < wr.heap.size := by omega
      have hk0 : (0 : Int) ≤ (k : Int) := by omega
      have hkn : (k : Int) < (n : Int) := by omega
      subst e1
      clear hx hcx hb2
      go_wp2_with fail
      refine K.out.mono ?_
      rintro e w2 ⟨rfl, hB2⟩
      have HB2 := Lib.hid (below3 hB.out hB2 (Nat.le_refl _))
      clear hB2
      go_wp2
      go_roundw
      case rel => exact ⟨k + 1, by omega, by go_num, HB2⟩
      case measure => simp [intOf]; omega
    · obtain rfl : n = k := by omega
      go_wp2
      go_ret
      exact ⟨rfl, hB.out⟩
theorem allS (A : Option Addr) (n c : Nat) (l : List Cs) (m : FuncId) (bv : Value) (w : World) (eg : ∀ args W, Sem.run Try.prog (callFunc m args) W = .ok (.enter m args) W) (hl : Rd w w.heap.size 3 Cs.enc A n l) (hn : n ≤ 1000000000) (hok : ∀ x ∈ l, ∀ W, Below w.heap.size w W → Calls Try.prog m #[bv, .agg #[.slice x.A x.n x.c, .int .i64 x.out, .int .i64 x.pump]] W fun e w' => e = .returned (.bool true) ∧ Below W.heap.size W w') :
    Calls Try.prog 63 #[.slice A n c, .func (.func m) #[bv] #[]] w fun e w' => e = .returned (.bool true) ∧ Below w.heap.size w w' := by
  have KC : Hid (∀ (W : World) (bx : Nat) (hW : Below w.heap.size w W) (hb : bx < W.heap.size) (hc : W.cell? ⟨bx, 0, none⟩ = some (.func (.func m) #[bv] #[])), Calls Try.prog 90 #[.slice A n c, .func (.func 91) #[] #[.pointer (some ⟨bx, 0, none⟩)]] W fun e w' => e = .returned (.bool false) ∧ Below W.heap.size W w') := Lib.hid (by
    intro W bx hW hb hc
    have K := Lib.hid (indexS A n c l m bv bx W eg (hl.next hW) hn (fun x hx W' hW' => hok x hx W' (below3 hW hW' (Nat.le_refl _))) hb hc)
    clear hc hok hl eg
    go_enter Try.func90, Try.ntmps90
    go_wp2_with fail
    refine K.out.mono ?_
    rintro e w2 ⟨rfl, hB⟩
    have HB := Lib.hid hB
    clear hB
    go_wp2
    go_ret
    exact ⟨rfl, HB.out⟩)
  clear hl hok
  go_enter Try.func63, Try.ntmps63
  go_wp2_with fail
  refine (KC.out _ w.heap.size (by (repeat' (first | (with_reducible exact Below.refl _ _) | (with_reducible assumption) | (with_reducible refine below_drewN ?_ _) | (with_reducible refine below_after (by assumption) ?_ ?_) | (with_reducible refine Below.drew ?_) | (with_reducible refine Below.alloc ?_ ?_ _) | (with_reducible refine Below.setCell ?_ ?_ _) | omega | (simp; omega) | (simp; done)))) (by simp) (by simp [go_sem])).mono ?_
  rintro e w2 ⟨rfl, hB⟩
  have HB : Hid (Below w.heap.size w w2) := Lib.hid (((Below.refl w.heap.size w).alloc (Nat.le_refl _) _).trans (hB.mono (by simp)))
  clear hB
  go_wp2
  go_ret
  exact ⟨rfl, HB.out⟩
/-- all, over heat.Case. -/
theorem all1T (m : FuncId) (x : Cs) (bx : Nat) (w : World) (eg : ∀ args W, Sem.run Try.prog (callFunc m args) W = .ok (.enter m args) W) (hx : ∀ W, Below w.heap.size w W → Calls Try.prog m #[.agg #[.slice x.A x.n x.c, .int .i64 x.out, .int .i64 x.pump]] W fun e w' => e = .returned (.bool true) ∧ Below W.heap.size W w') (hb : bx < w.heap.size) (hc : w.cell? ⟨bx, 0, none⟩ = some (.func (.func m) #[] #[])) :
    Calls Try.prog 91 #[.agg #[.slice x.A x.n x.c, .int .i64 x.out, .int .i64 x.pump], .pointer (some ⟨bx, 0, none⟩)] w fun e w' => e = .returned (.bool false) ∧ Below w.heap.size w w' := by
  have K := Lib.hid hx
  clear hx
  go_enter Try.func91, Try.ntmps91
  go_wp2_with fail
  refine (K.out _ (by (repeat' (first | (with_reducible exact Below.refl _ _) | (with_reducible assumption) | (with_reducible refine below_drewN ?_ _) | (with_reducible refine below_after (by assumption) ?_ ?_) | (with_reducible refine Below.drew ?_) | (with_reducible refine Below.alloc ?_ ?_ _) | (with_reducible refine Below.setCell ?_ ?_ _) | omega | (simp; omega) | (simp; done))))).mono ?_
  rintro e w2 ⟨rfl, hB⟩
  have HB : Hid (Below w.heap.size w w2) := Lib.hid (((Below.refl w.heap.size w).alloc (Nat.le_refl _) _).trans (hB.mono (by simp)))
  clear hB
  go_wp2
  go_ret
  exact ⟨rfl, HB.out⟩
theorem indexT (A : Option Addr) (n c : Nat) (l : List Cs) (m : FuncId) (bx : Nat) (w : World) (eg : ∀ args W, Sem.run Try.prog (callFunc m args) W = .ok (.enter m args) W) (hl : Rd w w.heap.size 3 Cs.enc A n l) (hn : n ≤ 1000000000) (hok : ∀ x ∈ l, ∀ W, Below w.heap.size w W → Calls Try.prog m #[.agg #[.slice x.A x.n x.c, .int .i64 x.out, .int .i64 x.pump]] W fun e w' => e = .returned (.bool true) ∧ Below W.heap.size W w') (hb : bx < w.heap.size) (hc : w.cell? ⟨bx, 0, none⟩ = some (.func (.func m) #[] #[])) :
    Calls Try.prog 98 #[.slice A n c, .func (.func 91) #[] #[.pointer (some ⟨bx, 0, none⟩)]] w fun e w' => e = .returned (.int .i64 (-1)) ∧ Below w.heap.size w w' := by
  have HL := Lib.hid hl
  have HO := Lib.hid hok
  have HC := Lib.hid hc
  have EG := Lib.hid eg
  have e2 : ∀ args W, Sem.run Try.prog (callFunc 91 args) W = .ok (.enter 91 args) W := enters_of Try.func91 (by kernel_rfl) rfl
  clear hl hok hc eg
  go_enter Try.func98, Try.ntmps98
  go_wp2
  go_loopw [8] (fun i wr => ∃ k : Nat, k ≤ n ∧ i = .int .i64 k ∧ Hid (Below w.heap.size w wr)) (fun i _ => n - (intOf i).toNat)
  case atStart => exact ⟨0, by omega, rfl, Lib.hid (Below.refl _ _)⟩
  case round =>
    obtain ⟨k, hk, rfl, hB⟩ := hrel
    have hz := hB.out.size
    by_cases hlt : k < n
    · obtain ⟨b, off, x, e1, hb2, hx, hcx⟩ := (HL.out.below hB.out).at_ hlt
      have K := Lib.hid (all1T m x bx wr EG.out (fun W hW => HO.out x (List.mem_of_getElem? hx) W (below3 hB.out hW (Nat.le_refl _))) (by omega) ((hB.out.cell (p := ⟨bx, 0, none⟩) hb).trans HC.out))
      obtain ⟨c0, c1, c2⟩ := Cs.cells hcx
      have zb : b < wr.heap.size := by omega
      have hk0 : (0 : Int) ≤ (k : Int) := by omega
      have hkn : (k : Int) < (n : Int) := by omega
      subst e1
      clear hx hcx hb2
      go_wp2_with fail
      refine K.out.mono ?_
      rintro e w2 ⟨rfl, hB2⟩
      have HB2 := Lib.hid (below3 hB.out hB2 (Nat.le_refl _))
      clear hB2
      go_wp2
      go_roundw
      case rel => exact ⟨k + 1, by omega, by go_num, HB2⟩
      case measure => simp [intOf]; omega
    · obtain rfl : n = k := by omega
      go_wp2
      go_ret
      exact ⟨rfl, hB.out⟩
theorem allT (A : Option Addr) (n c : Nat) (l : List Cs) (m : FuncId) (w : World) (eg : ∀ args W, Sem.run Try.prog (callFunc m args) W = .ok (.enter m args) W) (hl : Rd w w.heap.size 3 Cs.enc A n l) (hn : n ≤ 1000000000) (hok : ∀ x ∈ l, ∀ W, Below w.heap.size w W → Calls Try.prog m #[.agg #[.slice x.A x.n x.c, .int .i64 x.out, .int .i64 x.pump]] W fun e w' => e = .returned (.bool true) ∧ Below W.heap.size W w') :
    Calls Try.prog 63 #[.slice A n c, .func (.func m) #[] #[]] w fun e w' => e = .returned (.bool true) ∧ Below w.heap.size w w' := by
  have KC : Hid (∀ (W : World) (bx : Nat) (hW : Below w.heap.size w W) (hb : bx < W.heap.size) (hc : W.cell? ⟨bx, 0, none⟩ = some (.func (.func m) #[] #[])), Calls Try.prog 90 #[.slice A n c, .func (.func 91) #[] #[.pointer (some ⟨bx, 0, none⟩)]] W fun e w' => e = .returned (.bool false) ∧ Below W.heap.size W w') := Lib.hid (by
    intro W bx hW hb hc
    have K := Lib.hid (indexT A n c l m bx W eg (hl.next hW) hn (fun x hx W' hW' => hok x hx W' (below3 hW hW' (Nat.le_refl _))) hb hc)
    clear hc hok hl eg
    go_enter Try.func90, Try.ntmps90
    go_wp2_with fail
    refine K.out.mono ?_
    rintro e w2 ⟨rfl, hB⟩
    have HB := Lib.hid hB
    clear hB
    go_wp2
    go_ret
    exact ⟨rfl, HB.out⟩)
  clear hl hok
  go_enter Try.func63, Try.ntmps63
  go_wp2_with fail
  refine (KC.out _ w.heap.size (by (repeat' (first | (with_reducible exact Below.refl _ _) | (with_reducible assumption) | (with_reducible refine below_drewN ?_ _) | (with_reducible refine below_after (by assumption) ?_ ?_) | (with_reducible refine Below.drew ?_) | (with_reducible refine Below.alloc ?_ ?_ _) | (with_reducible refine Below.setCell ?_ ?_ _) | omega | (simp; omega) | (simp; done)))) (by simp) (by simp [go_sem])).mono ?_
  rintro e w2 ⟨rfl, hB⟩
  have HB : Hid (Below w.heap.size w w2) := Lib.hid (((Below.refl w.heap.size w).alloc (Nat.le_refl _) _).trans (hB.mono (by simp)))
  clear hB
  go_wp2
  go_ret
  exact ⟨rfl, HB.out⟩
end Go.Proofs.Ytldbciflpnhfpaa
