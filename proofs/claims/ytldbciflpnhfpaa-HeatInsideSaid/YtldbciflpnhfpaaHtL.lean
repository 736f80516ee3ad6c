/- heat: checkNumbers, Next. -/
import Derived.Test.YtldbciflpnhfpaaHtK

set_option linter.unusedSimpArgs false
set_option linter.unusedVariables false
namespace Go.Proofs.Ytldbciflpnhfpaa
open Go.RowKit

theorem forRooms_yes (rA wA bA cA : Option Addr) (rn rc wn wc bn bc cn cc : Nat) (A : Option Addr) (c : Nat) (w : World) : Calls Try.prog 62 #[.agg #[.slice rA rn rc, .slice wA wn wc, .slice bA bn bc, .slice cA cn cc], .slice A rn c] w fun e w' => e = .returned (.bool true) ∧ Below w.heap.size w w' := by
  have d1 : ((rn : Int) == (rn : Int)) = true := beq_self_eq_true _
  go_enter Try.func62, Try.ntmps62
  go_wp2
  go_ret
  exact ⟨rfl, by (repeat' (first | (with_reducible exact Below.refl _ _) | (with_reducible assumption) | (with_reducible refine below_drewN ?_ _) | (with_reducible refine below_after (by assumption) ?_ ?_) | (with_reducible refine Below.drew ?_) | (with_reducible refine Below.alloc ?_ ?_ _) | (with_reducible refine Below.setCell ?_ ?_ _) | omega | (simp; omega) | (simp; done)))⟩
theorem hasLoads_yes (rA wA bA cA : Option Addr) (rn rc wn wc bn bc cn cc : Nat) (A : Option Addr) (c : Nat) (out pump : Int) (w : World) : Calls Try.prog 64 #[.agg #[.slice rA rn rc, .slice wA wn wc, .slice bA bn bc, .slice cA cn cc], .agg #[.slice A rn c, .int .i64 out, .int .i64 pump]] w fun e w' => e = .returned (.bool true) ∧ Below w.heap.size w w' := by
  have K := Lib.hid (fun W => forRooms_yes rA wA bA cA rn rc wn wc bn bc cn cc A c W)
  have g1 : w.heap.size < w.heap.size + 1 := by omega
  have g2 : w.heap.size < w.heap.size + 1 + 1 := by omega
  go_enter Try.func64, Try.ntmps64
  go_wp2_with fail
  refine (K.out _).mono ?_
  rintro e w2 ⟨rfl, hB⟩
  have HB : Hid (Below w.heap.size w w2) := Lib.hid ((((Below.refl w.heap.size w).alloc (Nat.le_refl _) _).alloc (by simp) _).trans (hB.mono (by simp; omega)))
  clear hB
  go_wp2
  go_ret
  exact ⟨rfl, HB.out⟩
theorem areTemperatures_yes (A : Option Addr) (n c : Nat) (l : List Int) (w : World) (hl : Rd w w.heap.size 1 encI A n l) (hn : n ≤ 1000) (hb : ∀ x ∈ l, 0 ≤ x ∧ x ≤ 1000000) : Calls Try.prog 65 #[.slice A n c] w fun e w' => e = .returned (.bool true) ∧ Below w.heap.size w w' := by
  have K := Lib.hid (allN A n c l 81 w (enters_of Try.func81 (by kernel_rfl) rfl) hl (by omega) (fun x hx W' _ => (isTemperature_yes (hb x hx) W').mono (fun e W2 h9 => ⟨h9.1, by rw [h9.2]; exact Below.refl _ _⟩)))
  clear hl hn hb
  go_enter Try.func65, Try.ntmps65
  go_wp2_with fail
  refine K.out.mono ?_
  rintro e w2 ⟨rfl, hB⟩
  have HB := Lib.hid hB
  clear hB
  go_wp2
  go_ret
  exact ⟨rfl, HB.out⟩
theorem isCase_yes (A : Option Addr) (n c : Nat) (out pump : Int) (l : List Int) (w : World) (hl : Rd w w.heap.size 1 encI A n l) (hn : n ≤ 1000) (hb : ∀ x ∈ l, 0 ≤ x ∧ x ≤ 10000000) (ho : 0 ≤ out ∧ out ≤ 1000000) (hp : 0 ≤ pump ∧ pump ≤ 100000) : Calls Try.prog 66 #[.agg #[.slice A n c, .int .i64 out, .int .i64 pump]] w fun e w' => e = .returned (.bool true) ∧ Below w.heap.size w w' := by
  have K := Lib.hid (fun W (hW : Below w.heap.size w W) => allN A n c l 93 W (enters_of Try.func93 (by kernel_rfl) rfl) (hl.next hW) (by omega) (fun x hx W' _ => (isLoad_yes (hb x hx) W').mono (fun e W2 h9 => ⟨h9.1, by rw [h9.2]; exact Below.refl _ _⟩)))
  have KO := Lib.hid (fun W => isTemperature_yes ho W)
  have KP := Lib.hid (fun W => isFlow_yes hp W)
  have g1 : w.heap.size < w.heap.size + 1 := by omega
  clear hl hn hb ho hp
  go_enter Try.func66, Try.ntmps66
  go_wp2_with fail
  obtain ⟨bx, hbx⟩ : ∃ z, z = w.heap.size := ⟨_, rfl⟩
  obtain ⟨w1, hw1⟩ : ∃ z, z = w.alloc (.cells #[.slice A n c, .int .i64 out, .int .i64 pump] 35) := ⟨_, rfl⟩
  have hBa : Below w.heap.size w w1 := by rw [hw1]; exact (Below.refl _ _).alloc (Nat.le_refl _) _
  have BX : Hid (Blk w1 bx 35 #[.slice A n c, .int .i64 out, .int .i64 pump]) := Lib.hid (by rw [hw1, hbx]; exact heap_alloc_new w _)
  have HB1 := Lib.hid hBa
  rw [← hw1, ← hbx]
  clear hw1 hbx hBa g1
  refine (K.out _ HB1.out).mono ?_
  rintro e w2 ⟨rfl, hB⟩
  have hbk := BX.out.below hB BX.out.lt
  have c1 := hbk.cell 1
  have c2 := hbk.cell 2
  have zc := hbk.lt
  simp only [List.getElem?_toArray, List.getElem?_cons_zero, List.getElem?_cons_succ] at c1 c2
  have HB := Lib.hid (below3 HB1.out hB (Nat.le_refl _))
  clear hB hbk
  go_wp2_with fail
  refine (KO.out _).mono ?_
  rintro e w9 ⟨rfl, e9⟩
  obtain rfl := e9.symm
  go_wp2_with fail
  refine (KP.out _).mono ?_
  rintro e w9 ⟨rfl, e9⟩
  obtain rfl := e9.symm
  go_wp2
  go_ret
  exact ⟨rfl, HB.out⟩
set_option maxRecDepth 100000 in
set_option maxHeartbeats 4000000 in
/-- checkNumbers passes lists of temperatures and of cases that are all valid. -/
theorem checkNumbers_yes (rA wA bA cA : Option Addr) (rn rc wn wc bn bc cn cc : Nat) (aA kA : Option Addr) (an ac kn kc : Nat) (ts : List Ls) (ks : List Cs) (w : World) (hr : rn ≤ 1000) (hkn : kn ≤ 100000) (han : an ≤ 100000) (ha : Rd w w.heap.size 1 Ls.enc aA an ts) (hk : Rd w w.heap.size 3 Cs.enc kA kn ks)
    (ht : ∀ x ∈ ts, x.n = rn ∧ ∃ l, Rd w w.heap.size 1 encI x.A rn l ∧ ∀ y ∈ l, 0 ≤ y ∧ y ≤ 1000000)
    (hc : ∀ x ∈ ks, x.n = rn ∧ ((0 ≤ x.out ∧ x.out ≤ 1000000) ∧ 0 ≤ x.pump ∧ x.pump ≤ 100000) ∧ ∃ l, Rd w w.heap.size 1 encI x.A rn l ∧ ∀ y ∈ l, 0 ≤ y ∧ y ≤ 10000000) :
    Calls Try.prog 38 #[.agg #[.slice rA rn rc, .slice wA wn wc, .slice bA bn bc, .slice cA cn cc], .slice aA an ac, .slice kA kn kc] w fun e w' => e = .returned (.int .i64 0) ∧ Below w.heap.size w w' := by
  have K1 := Lib.hid (fun W (hW : Below w.heap.size w W) => allL aA an ac ts 62 (.agg #[.slice rA rn rc, .slice wA wn wc, .slice bA bn bc, .slice cA cn cc]) W (enters_of Try.func62 (by kernel_rfl) rfl) (ha.next hW) (by omega) (fun x hx W' _ => by
    obtain ⟨A, n, c⟩ := x
    obtain ⟨h1, _⟩ := ht _ hx
    dsimp only at h1
    subst h1
    exact forRooms_yes rA wA bA cA n rc wn wc bn bc cn cc A c W'))
  have K2 := Lib.hid (fun W (hW : Below w.heap.size w W) => allS kA kn kc ks 64 (.agg #[.slice rA rn rc, .slice wA wn wc, .slice bA bn bc, .slice cA cn cc]) W (enters_of Try.func64 (by kernel_rfl) rfl) (hk.next hW) (by omega) (fun x hx W' _ => by
    obtain ⟨A, n, c, o, p⟩ := x
    obtain ⟨h1, _⟩ := hc _ hx
    dsimp only at h1
    subst h1
    exact hasLoads_yes rA wA bA cA n rc wn wc bn bc cn cc A c o p W'))
  have K3 := Lib.hid (fun W (hW : Below w.heap.size w W) => allM aA an ac ts 65 W (enters_of Try.func65 (by kernel_rfl) rfl) (ha.next hW) (by omega) (fun x hx W' hW' => by
    obtain ⟨A, n, c⟩ := x
    obtain ⟨h1, l, h2, h3⟩ := ht _ hx
    dsimp only at h1 h2
    subst h1
    exact areTemperatures_yes A n c l W' (h2.next (below3 hW hW' (Nat.le_refl _))) hr h3))
  have K4 := Lib.hid (fun W (hW : Below w.heap.size w W) => allT kA kn kc ks 66 W (enters_of Try.func66 (by kernel_rfl) rfl) (hk.next hW) (by omega) (fun x hx W' hW' => by
    obtain ⟨A, n, c, o, p⟩ := x
    obtain ⟨h1, h4, l, h2, h3⟩ := hc _ hx
    dsimp only at h1 h2 h4
    subst h1
    exact isCase_yes A n c o p l W' (h2.next (below3 hW hW' (Nat.le_refl _))) hr h3 h4.1 h4.2))
  have g1 : w.heap.size < w.heap.size + 1 := by omega
  clear ha hk ht hc hr hkn han
  go_enter Try.func38, Try.ntmps38
  go_wp2_with fail
  obtain ⟨bx, hbx⟩ : ∃ z, z = w.heap.size := ⟨_, rfl⟩
  obtain ⟨w1, hw1⟩ : ∃ z, z = w.alloc (.cells #[.slice rA rn rc, .slice wA wn wc, .slice bA bn bc, .slice cA cn cc] 28) := ⟨_, rfl⟩
  have BX : Hid (Blk w1 bx 28 #[.slice rA rn rc, .slice wA wn wc, .slice bA bn bc, .slice cA cn cc]) := Lib.hid (by rw [hw1, hbx]; exact heap_alloc_new w _)
  have Sw1 : Hid (w1.heap.size = bx + 1) := Lib.hid (by rw [hw1, hbx, World.size_alloc])
  have Zbx : Hid (w.heap.size ≤ bx) := Lib.hid (by rw [hbx]; exact Nat.le_refl _)
  have hBn : Below w.heap.size w w1 := by rw [hw1]; exact (Below.refl _ _).alloc (Nat.le_refl _) _
  rw [← hw1, ← hbx]
  have B0 : Hid (Below w.heap.size w w1) := Lib.hid hBn
  clear hw1 hbx hBn
  refine (K1.out _ B0.out).mono ?_
  rintro e w2 ⟨rfl, hB⟩
  have B1 : Hid (Below w1.heap.size w1 w2) := Lib.hid hB
  clear hB
  clear g1
  have hbk := BX.out.below B1.out BX.out.lt
  have d0 := hbk.cell 0
  have d1 := hbk.cell 1
  have d2 := hbk.cell 2
  have d3 := hbk.cell 3
  simp only [List.getElem?_toArray, List.getElem?_cons_zero, List.getElem?_cons_succ] at d0 d1 d2 d3
  have zd := hbk.lt
  clear hbk
  go_wp2_with fail
  refine (K2.out _ (below3 B0.out B1.out (Nat.le_refl _))).mono ?_
  rintro e w3 ⟨rfl, hB⟩
  have B2 : Hid (Below w2.heap.size w2 w3) := Lib.hid hB
  clear hB
  clear d0 d1 d2 d3 zd
  go_wp2_with fail
  refine (K3.out _ (below3 (below3 B0.out B1.out (Nat.le_refl _)) B2.out (Nat.le_refl _))).mono ?_
  rintro e w4 ⟨rfl, hB⟩
  have B3 : Hid (Below w3.heap.size w3 w4) := Lib.hid hB
  clear hB
  go_wp2_with fail
  refine (K4.out _ (below3 (below3 (below3 B0.out B1.out (Nat.le_refl _)) B2.out (Nat.le_refl _)) B3.out (Nat.le_refl _))).mono ?_
  rintro e w5 ⟨rfl, hB⟩
  have B4 : Hid (Below w4.heap.size w4 w5) := Lib.hid hB
  clear hB
  go_wp2
  go_ret
  exact ⟨rfl, (below3 (below3 (below3 (below3 B0.out B1.out (Nat.le_refl _)) B2.out (Nat.le_refl _)) B3.out (Nat.le_refl _)) B4.out (Nat.le_refl _))⟩
end Go.Proofs.Ytldbciflpnhfpaa
