/- meter: small functions, what is valid passes. -/
import Derived.Test.YtcecbohaajocfaaMtP
import Derived.Test.YtcecbohaajocfaaKpG
import Derived.Test.YtcecbohaajocfaaFreeA
import Derived.Lib.MinMax

set_option linter.unusedSimpArgs false
set_option linter.unusedVariables false
namespace Go.Proofs.Ytcecbohaajocfaa
open Go.RowKit

def inB (a n b : Int) : Bool := decide (a ≤ n ∧ n ≤ b)
theorem inB_yes {a n b : Int} (h : a ≤ n ∧ n ≤ b) : inB a n b = true := decide_eq_true h
theorem inB_iff {a n b : Int} : inB a n b = true ↔ a ≤ n ∧ n ≤ b := decide_eq_true_iff
theorem within_any (n a b : Int) (w : World) : Calls Try.prog 65 #[.int .i64 n, .int .i64 a, .int .i64 b] w fun e w' => e = .returned (.bool (inB a n b)) ∧ w' = w := by
  unfold inB
  by_cases h1 : a ≤ n
  · have d1 : decide (a ≤ n) = true := decide_eq_true h1
    go_enter Try.func65, Try.ntmps65
    go_wp2
    go_ret
    exact ⟨ret_bool (by simp [h1]), rfl⟩
  · have d1 : decide (a ≤ n) = false := decide_eq_false h1
    go_enter Try.func65, Try.ntmps65
    go_wp2
    go_ret
    exact ⟨ret_bool (by simp [h1]), rfl⟩
theorem within_yes {n a b : Int} (h : a ≤ n ∧ n ≤ b) (w : World) : Calls Try.prog 65 #[.int .i64 n, .int .i64 a, .int .i64 b] w fun e w' => e = .returned (.bool true) ∧ w' = w := by
  have := within_any n a b w
  rw [inB_yes h] at this
  exact this
/-- How a case lies in memory. -/
def Nd.enc (x : Nd) : List Value := [.int .i64 x.up, .int .i64 x.lo, .int .i64 x.hi]
structure KsIn (w : World) (B n : Nat) (nA vA : Option Addr) (c : Ks) : Prop where
  nd : Rd w B 3 Nd.enc nA n c.nodes
  vl : Rd w B 1 encI vA n c.vals
theorem KsIn.next {w w' : World} {n : Nat} {nA vA : Option Addr} {c : Ks} (h : KsIn w w.heap.size n nA vA c) (hb : Below w.heap.size w w') : KsIn w' w'.heap.size n nA vA c := ⟨h.nd.next hb, h.vl.next hb⟩
theorem KsIn.len {w : World} {B n : Nat} {nA vA : Option Addr} {c : Ks} (h : KsIn w B n nA vA c) : c.n = n := h.nd.1
theorem KsIn.ndAt {w : World} {B n : Nat} {nA vA : Option Addr} {c : Ks} (h : KsIn w B n nA vA c) {k : Nat} (hk : k < n) : ∃ b o, nA = some ⟨b, o, none⟩ ∧ b < B ∧ w.cell? ⟨b, o + k * 3, none⟩ = some (.int .i64 (c.nd k).up) ∧ w.cell? ⟨b, o + k * 3 + 1, none⟩ = some (.int .i64 (c.nd k).lo) ∧ w.cell? ⟨b, o + k * 3 + 2, none⟩ = some (.int .i64 (c.nd k).hi) := by
  obtain ⟨b, o, x, e, hb, hx, hc⟩ := h.nd.at_ hk
  have hnd : c.nd k = x := by unfold Ks.nd; rw [List.getD_eq_getElem?_getD, hx]; rfl
  rw [hnd]
  exact ⟨b, o, e, hb, hc 0 _ rfl, hc 1 _ rfl, hc 2 _ rfl⟩
theorem KsIn.vlAt {w : World} {B n : Nat} {nA vA : Option Addr} {c : Ks} (h : KsIn w B n nA vA c) {k : Nat} (hk : k < n) : ∃ b o, vA = some ⟨b, o, none⟩ ∧ b < B ∧ w.cell? ⟨b, o + k, none⟩ = some (.int .i64 (c.v k)) := by
  obtain ⟨b, o, x, e, hb, hx, hc⟩ := h.vl.at_ hk
  have hnd : c.v k = x := by unfold Ks.v; rw [List.getD_eq_getElem?_getD, hx]; rfl
  rw [hnd]
  have h0 := hc 0 _ rfl
  rw [Nat.mul_one, Nat.add_zero] at h0
  exact ⟨b, o, e, hb, h0⟩
theorem hangsRightly_yes (nA vA : Option Addr) (n nc vc k : Nat) (c : Ks) (w : World) (hk : k < n) (hin : KsIn w w.heap.size n nA vA c) (ok : KsOk c) :
    Calls Try.prog 98 #[.agg #[.slice nA n nc, .slice vA n vc], .int .i64 (k : Int)] w fun e w' => e = .returned (.bool true) ∧ Below w.heap.size w w' := by
  have hn := hin.len
  have h14 : n ≤ 14 := by rw [← hn]; exact ok.n14
  obtain ⟨b, o, rfl, hb, c0, _, _⟩ := hin.ndAt hk
  have hk0 : (0 : Int) ≤ (k : Int) := by omega
  have hkn : (k : Int) < (n : Int) := by omega
  have hk9 : (k : Int) ≤ 14 := by omega
  have zb : b < w.heap.size + 1 := by omega
  have g1 : w.heap.size < w.heap.size + 1 := by omega
  have wv : IntKind.i64.wrap ((k : Int) - 1) = (k : Int) - 1 := IntWalk.i64_in _ (by omega)
  by_cases h0 : k = 0
  · subst h0
    have hr := ok.root
    rw [hr] at c0
    rw [Nat.zero_mul, Nat.add_zero] at c0
    clear hin ok hn hr
    go_enter Try.func98, Try.ntmps98
    go_wp2
    go_ret
    exact ⟨rfl, by (repeat' (first | (with_reducible exact Below.refl _ _) | (with_reducible assumption) | (with_reducible refine below_drewN ?_ _) | (with_reducible refine below_after (by assumption) ?_ ?_) | (with_reducible refine Below.drew ?_) | (with_reducible refine Below.alloc ?_ ?_ _) | (with_reducible refine Below.setCell ?_ ?_ _) | omega | (simp; omega) | (simp; done)))⟩
  · have hu := ok.up k (by omega) (by rw [hn]; exact hk)
    have K := Lib.hid (fun W => within_yes (n := (c.nd k).up) (a := 0) (b := (k : Int) - 1) (by omega) W)
    obtain ⟨u, hu9⟩ : ∃ z, z = (c.nd k).up := ⟨_, rfl⟩
    rw [← hu9] at c0 K
    have hk1 : ¬ (k : Int) = 0 := by omega
    have hk2 : ¬ k = 0 := h0
    clear hin ok hn hu hu9 h0
    go_enter Try.func98, Try.ntmps98
    go_wp2_with fail
    refine (K.out _).mono ?_
    rintro e w2 ⟨rfl, rfl⟩
    go_wp2
    go_ret
    exact ⟨rfl, by (repeat' (first | (with_reducible exact Below.refl _ _) | (with_reducible assumption) | (with_reducible refine below_drewN ?_ _) | (with_reducible refine below_after (by assumption) ?_ ?_) | (with_reducible refine Below.drew ?_) | (with_reducible refine Below.alloc ?_ ?_ _) | (with_reducible refine Below.setCell ?_ ?_ _) | omega | (simp; omega) | (simp; done)))⟩
theorem hasRightNode_yes (nA vA : Option Addr) (n nc vc k : Nat) (c : Ks) (w : World) (hk : k < n) (hin : KsIn w w.heap.size n nA vA c) (ok : KsOk c) :
    Calls Try.prog 66 #[.agg #[.slice nA n nc, .slice vA n vc], .int .i64 (k : Int)] w fun e w' => e = .returned (.bool true) ∧ Below w.heap.size w w' := by
  have hn := hin.len
  have h14 : n ≤ 14 := by rw [← hn]; exact ok.n14
  have hk9 : (k : Int) ≤ 14 := by omega
  have hl := ok.lh k (by rw [hn]; exact hk)
  have hv := ok.val k (by rw [hn]; exact hk)
  have KH := Lib.hid (fun W (hW : Below w.heap.size w W) => hangsRightly_yes nA vA n nc vc k c W hk (hin.next hW) ok)
  have K1 := Lib.hid (fun W => within_yes (n := (c.nd k).hi) (a := 0) (b := 1000000000) (by omega) W)
  have K2 := Lib.hid (fun W => within_yes (n := (c.nd k).lo) (a := 0) (b := (c.nd k).hi) (by omega) W)
  have K3 := Lib.hid (fun W => within_yes (n := c.v k) (a := 0) (b := 1000000000) (by omega) W)
  obtain ⟨b, o, rfl, hb, c0, c1, c2⟩ := hin.ndAt hk
  obtain ⟨b2, o2, rfl, hb2, cv⟩ := hin.vlAt hk
  obtain ⟨u, hu⟩ : ∃ z, z = (c.nd k).up := ⟨_, rfl⟩
  obtain ⟨lo, hlo⟩ : ∃ z, z = (c.nd k).lo := ⟨_, rfl⟩
  obtain ⟨hi, hhi⟩ : ∃ z, z = (c.nd k).hi := ⟨_, rfl⟩
  obtain ⟨v, hv9⟩ : ∃ z, z = c.v k := ⟨_, rfl⟩
  rw [← hu] at c0
  rw [← hlo] at c1 K2
  rw [← hhi] at c2 K1 K2
  rw [← hv9] at cv K3
  have hk0 : (0 : Int) ≤ (k : Int) := by omega
  have hkn : (k : Int) < (n : Int) := by omega
  have HCV : Hid (∀ W, Below w.heap.size w W → W.cell? ⟨b2, o2 + k, none⟩ = some (.int .i64 v) ∧ b2 < W.heap.size) := Lib.hid (fun W hW => ⟨(hW.cell (p := ⟨b2, o2 + k, none⟩) hb2).trans cv, Nat.lt_of_lt_of_le hb2 hW.size⟩)
  have zb : b < w.heap.size + 1 := by omega
  have zb2 : b < w.heap.size + 1 + 1 := by omega
  have g1 : w.heap.size < w.heap.size + 1 := by omega
  have g2 : w.heap.size < w.heap.size + 1 + 1 := by omega
  clear hin ok hn hl hv hu hlo hhi hv9 cv hb2
  go_enter Try.func66, Try.ntmps66
  go_wp2_with fail
  obtain ⟨bx, hbx⟩ : ∃ z, z = w.heap.size := ⟨_, rfl⟩
  obtain ⟨w1, hw1⟩ : ∃ z, z = w.alloc (.cells #[.slice (some ⟨b, o, none⟩) n nc, .slice (some ⟨b2, o2, none⟩) n vc] 35) := ⟨_, rfl⟩
  have BX : Hid (Blk w1 bx 35 #[.slice (some ⟨b, o, none⟩) n nc, .slice (some ⟨b2, o2, none⟩) n vc]) := Lib.hid (by rw [hw1, hbx]; exact heap_alloc_new w _)
  have Sw1 : Hid (w1.heap.size = bx + 1) := Lib.hid (by rw [hw1, hbx, World.size_alloc])
  have Zbx : Hid (w.heap.size ≤ bx) := Lib.hid (by rw [hbx]; exact Nat.le_refl _)
  have hBn : Below w.heap.size w w1 := by rw [hw1]; exact (Below.refl _ _).alloc (Nat.le_refl _) _
  rw [← hw1, ← hbx]
  have B0 : Hid (Below w.heap.size w w1) := Lib.hid hBn
  clear hw1 hbx hBn
  obtain ⟨nb, hnb⟩ : ∃ z, z = bx + 1 := ⟨_, rfl⟩
  obtain ⟨w2, hw2⟩ : ∃ z, z = w1.alloc (.cells #[.int .i64 u, .int .i64 lo, .int .i64 hi] 107) := ⟨_, rfl⟩
  have NB : Hid (Blk w2 nb 107 #[.int .i64 u, .int .i64 lo, .int .i64 hi]) := Lib.hid (by have e2 := heap_alloc_new w1 (.cells #[.int .i64 u, .int .i64 lo, .int .i64 hi] 107); rw [Sw1.out] at e2; rw [hw2, hnb]; exact e2)
  have Sw2 : Hid (w2.heap.size = nb + 1) := Lib.hid (by rw [hw2, hnb, World.size_alloc, Sw1.out])
  have Znb : Hid (w1.heap.size = nb) := Lib.hid (by rw [Sw1.out, hnb])
  have hBn : Below w1.heap.size w1 w2 := by rw [hw2]; exact (Below.refl _ _).alloc (Nat.le_refl _) _
  rw [← hw2, ← hnb]
  have B1 : Hid (Below w1.heap.size w1 w2) := Lib.hid hBn
  clear hw2 hnb hBn
  clear zb zb2 g1 g2 c0 c1 c2
  refine (KH.out _ (below3 B0.out B1.out (Nat.le_refl _))).mono ?_
  rintro e w3 ⟨rfl, hB⟩
  have B2 : Hid (Below w2.heap.size w2 w3) := Lib.hid hB
  clear hB
  have hbk := NB.out.below B2.out NB.out.lt
  have e0 := hbk.cell 0
  have e1 := hbk.cell 1
  have e2 := hbk.cell 2
  simp only [List.getElem?_toArray, List.getElem?_cons_zero, List.getElem?_cons_succ] at e0 e1 e2
  have ze := hbk.lt
  clear hbk
  go_wp2_with fail
  refine (K1.out _).mono ?_
  rintro e w4 ⟨rfl, hw9⟩
  obtain rfl := hw9.symm
  go_wp2_with fail
  refine (K2.out _).mono ?_
  rintro e w5 ⟨rfl, hw9⟩
  obtain rfl := hw9.symm
  have hbk := BX.out.below (below3 B1.out B2.out (Nat.le_refl _)) BX.out.lt
  have d0 := hbk.cell 0
  have d1 := hbk.cell 1
  simp only [List.getElem?_toArray, List.getElem?_cons_zero, List.getElem?_cons_succ] at d0 d1
  have zd := hbk.lt
  clear hbk
  have cv := (HCV.out w3 (below3 (below3 B0.out B1.out (Nat.le_refl _)) B2.out (Nat.le_refl _))).1
  have zv := (HCV.out w3 (below3 (below3 B0.out B1.out (Nat.le_refl _)) B2.out (Nat.le_refl _))).2
  clear HCV
  go_wp2_with fail
  refine (K3.out _).mono ?_
  rintro e w6 ⟨rfl, hw9⟩
  obtain rfl := hw9.symm
  have HF := Lib.hid (below3 (below3 B0.out B1.out (Nat.le_refl _)) B2.out (Nat.le_refl _))
  go_wp2
  go_ret
  exact ⟨rfl, HF.out⟩
theorem Check_ok (nA vA : Option Addr) (n nc vc : Nat) (c : Ks) (w : World) (hin : KsIn w w.heap.size n nA vA c) (ok : KsOk c) :
    Calls Try.prog 40 #[.agg #[.slice nA n nc, .slice vA n vc]] w fun e w' => e = .returned (.int .i64 0) ∧ Below w.heap.size w w' := by
  have hn := hin.len
  have h14 : n ≤ 14 := by rw [← hn]; exact ok.n14
  have h1 : 1 ≤ n := by rw [← hn]; exact ok.n1
  have HN := Lib.hid (And.intro h1 h14)
  have K1 := Lib.hid (fun W => within_yes (n := (n : Int)) (a := 1) (b := 14) (by omega) W)
  have KN := Lib.hid (fun (k : Nat) W (hk : k < n) (hW : Below w.heap.size w W) => hasRightNode_yes nA vA n nc vc k c W hk (hin.next hW) ok)
  have g1 : w.heap.size < w.heap.size + 1 := by omega
  clear hin ok hn h1 h14
  go_enter Try.func40, Try.ntmps40
  go_wp2_with fail
  obtain ⟨bx, hbx⟩ : ∃ z, z = w.heap.size := ⟨_, rfl⟩
  obtain ⟨w1, hw1⟩ : ∃ z, z = w.alloc (.cells #[.slice nA n nc, .slice vA n vc] 35) := ⟨_, rfl⟩
  have BX : Hid (Blk w1 bx 35 #[.slice nA n nc, .slice vA n vc]) := Lib.hid (by rw [hw1, hbx]; exact heap_alloc_new w _)
  have Sw1 : Hid (w1.heap.size = bx + 1) := Lib.hid (by rw [hw1, hbx, World.size_alloc])
  have Zbx : Hid (w.heap.size ≤ bx) := Lib.hid (by rw [hbx]; exact Nat.le_refl _)
  have hBn : Below w.heap.size w w1 := by rw [hw1]; exact (Below.refl _ _).alloc (Nat.le_refl _) _
  rw [← hw1, ← hbx]
  have B0 : Hid (Below w.heap.size w w1) := Lib.hid hBn
  clear hw1 hbx hBn
  have hbk := BX.out.below (Below.refl w1.heap.size w1) BX.out.lt
  have d0 := hbk.cell 0
  have d1 := hbk.cell 1
  simp only [List.getElem?_toArray, List.getElem?_cons_zero, List.getElem?_cons_succ] at d0 d1
  have zd := hbk.lt
  clear hbk
  clear g1
  refine (K1.out _).mono ?_
  rintro e w2 ⟨rfl, hw9⟩
  obtain rfl := hw9.symm
  go_wp2
  clear d0 d1 zd
  go_loopw [19] (fun i wr => ∃ k : Nat, k ≤ n ∧ i = .int .i64 ((k : Nat) : Int) ∧ Hid (Below w1.heap.size w1 wr)) (fun i _ => n - (intOf i).toNat)
  case atStart => exact ⟨0, Nat.zero_le _, rfl, Lib.hid (Below.refl _ _)⟩
  case round =>
    obtain ⟨k, hk, rfl, HW⟩ := hrel
    by_cases hlt : k < n
    · have hk0 : (0 : Int) ≤ (k : Int) := by omega
      have hkn : (k : Int) < (n : Int) := by omega
      have hk9 : (k : Int) ≤ 14 := by have := HN.out; omega
      have C := Lib.hid (KN.out k wr hlt (below3 B0.out HW.out (Nat.le_refl _)))
      have hbk := BX.out.below HW.out BX.out.lt
      have d0 := hbk.cell 0
      have d1 := hbk.cell 1
      simp only [List.getElem?_toArray, List.getElem?_cons_zero, List.getElem?_cons_succ] at d0 d1
      have zd := hbk.lt
      clear hbk
      go_wp2_with fail
      refine C.out.mono ?_
      rintro e w5 ⟨rfl, hB⟩
      have HN2 : Hid (Below w1.heap.size w1 w5) := Lib.hid (below3 HW.out hB (Nat.le_refl _))
      clear hB C d0 d1 zd
      go_wp2
      go_roundw
      case rel => exact ⟨k + 1, by omega, by go_num, HN2⟩
      case measure => simp [intOf]; omega
    · obtain rfl : n = k := by omega
      have HF : Hid (Below w.heap.size w wr) := Lib.hid (below3 B0.out HW.out (Nat.le_refl _))
      go_wp2
      go_ret
      exact ⟨rfl, HF.out⟩
end Go.Proofs.Ytcecbohaajocfaa
