/- The reference's Check. -/
import Derived.Test.YtnngdcidopaabaaGreatDoorCheck4
import Derived.Test.YtnngdcidopaabaaGreatDoorFree
import Derived.Lib.QuietBelow
import Derived.Test.YtnngdcidopaabaaGreatDoorState2

set_option linter.unusedSimpArgs false
set_option linter.unusedVariables false
namespace Go.Proofs.YtnngdcidopaabaaGreatDoor
open Go.RowKit

def pBox0 (p : Plt) : Array Value := #[.int .i64 p.buses, .slice p.sA p.sn p.sc, .slice p.lA p.ln p.lc, .slice p.rA p.rn p.rc]
def lnkBase (buses : Int) (x : Lnk) : Bool := isBus buses x.a && isBus buses x.b && decide (x.a ≠ x.b) && within x.kind 1 3 && within x.most 1 100000 && within x.ohm 10 100000
theorem lnkOk_base (buses : Int) (x : Lnk) : lnkOk buses x = (lnkBase buses x && (decide (x.kind = 3) || decide (x.tn = 0)) && tripsOk x.trip) := rfl
theorem within_yes {n lo hi : Int} (h1 : ¬ n < lo) (h2 : ¬ hi < n) : within n lo hi = true := by
  simp [within]
  omega
set_option maxRecDepth 100000 in
set_option maxHeartbeats 4000000 in
theorem refLink_no (p : Plt) (x : Lnk) (w : World) (hb : lnkBase p.buses x = false) :
    Calls Tryz.prog 56 #[p.val, x.val] w fun e w' => e = .returned (.bool false) ∧ Below w.heap.size w w' := by
  unfold Plt.val Lnk.val
  by_cases q1 : x.a < 0
  · go_enter Tryz.func56, Tryz.ntmps56
    go_wp2
    go_ret
    exact ⟨rfl, by (repeat' (first | (with_reducible exact Below.refl _ _) | (with_reducible assumption) | (with_reducible refine below_drewN ?_ _) | (with_reducible refine below_after (by assumption) ?_ ?_) | (with_reducible refine Below.drew ?_) | (with_reducible refine Below.alloc ?_ ?_ _) | (with_reducible refine Below.setCell ?_ ?_ _) | omega | (simp; omega) | (simp; done)))⟩
  by_cases q2 : p.buses ≤ x.a
  · go_enter Tryz.func56, Tryz.ntmps56
    go_wp2
    go_ret
    exact ⟨rfl, by (repeat' (first | (with_reducible exact Below.refl _ _) | (with_reducible assumption) | (with_reducible refine below_drewN ?_ _) | (with_reducible refine below_after (by assumption) ?_ ?_) | (with_reducible refine Below.drew ?_) | (with_reducible refine Below.alloc ?_ ?_ _) | (with_reducible refine Below.setCell ?_ ?_ _) | omega | (simp; omega) | (simp; done)))⟩
  by_cases q3 : x.b < 0
  · go_enter Tryz.func56, Tryz.ntmps56
    go_wp2
    go_ret
    exact ⟨rfl, by (repeat' (first | (with_reducible exact Below.refl _ _) | (with_reducible assumption) | (with_reducible refine below_drewN ?_ _) | (with_reducible refine below_after (by assumption) ?_ ?_) | (with_reducible refine Below.drew ?_) | (with_reducible refine Below.alloc ?_ ?_ _) | (with_reducible refine Below.setCell ?_ ?_ _) | omega | (simp; omega) | (simp; done)))⟩
  by_cases q4 : p.buses ≤ x.b
  · go_enter Tryz.func56, Tryz.ntmps56
    go_wp2
    go_ret
    exact ⟨rfl, by (repeat' (first | (with_reducible exact Below.refl _ _) | (with_reducible assumption) | (with_reducible refine below_drewN ?_ _) | (with_reducible refine below_after (by assumption) ?_ ?_) | (with_reducible refine Below.drew ?_) | (with_reducible refine Below.alloc ?_ ?_ _) | (with_reducible refine Below.setCell ?_ ?_ _) | omega | (simp; omega) | (simp; done)))⟩
  by_cases q5 : x.a = x.b
  · go_enter Tryz.func56, Tryz.ntmps56
    go_wp2
    go_ret
    exact ⟨rfl, by (repeat' (first | (with_reducible exact Below.refl _ _) | (with_reducible assumption) | (with_reducible refine below_drewN ?_ _) | (with_reducible refine below_after (by assumption) ?_ ?_) | (with_reducible refine Below.drew ?_) | (with_reducible refine Below.alloc ?_ ?_ _) | (with_reducible refine Below.setCell ?_ ?_ _) | omega | (simp; omega) | (simp; done)))⟩
  by_cases q6 : x.kind < 1
  · go_enter Tryz.func56, Tryz.ntmps56
    go_wp2
    go_ret
    exact ⟨rfl, by (repeat' (first | (with_reducible exact Below.refl _ _) | (with_reducible assumption) | (with_reducible refine below_drewN ?_ _) | (with_reducible refine below_after (by assumption) ?_ ?_) | (with_reducible refine Below.drew ?_) | (with_reducible refine Below.alloc ?_ ?_ _) | (with_reducible refine Below.setCell ?_ ?_ _) | omega | (simp; omega) | (simp; done)))⟩
  by_cases q7 : 3 < x.kind
  · go_enter Tryz.func56, Tryz.ntmps56
    go_wp2
    go_ret
    exact ⟨rfl, by (repeat' (first | (with_reducible exact Below.refl _ _) | (with_reducible assumption) | (with_reducible refine below_drewN ?_ _) | (with_reducible refine below_after (by assumption) ?_ ?_) | (with_reducible refine Below.drew ?_) | (with_reducible refine Below.alloc ?_ ?_ _) | (with_reducible refine Below.setCell ?_ ?_ _) | omega | (simp; omega) | (simp; done)))⟩
  by_cases q8 : x.most < 1
  · go_enter Tryz.func56, Tryz.ntmps56
    go_wp2
    go_ret
    exact ⟨rfl, by (repeat' (first | (with_reducible exact Below.refl _ _) | (with_reducible assumption) | (with_reducible refine below_drewN ?_ _) | (with_reducible refine below_after (by assumption) ?_ ?_) | (with_reducible refine Below.drew ?_) | (with_reducible refine Below.alloc ?_ ?_ _) | (with_reducible refine Below.setCell ?_ ?_ _) | omega | (simp; omega) | (simp; done)))⟩
  by_cases q9 : 100000 < x.most
  · go_enter Tryz.func56, Tryz.ntmps56
    go_wp2
    go_ret
    exact ⟨rfl, by (repeat' (first | (with_reducible exact Below.refl _ _) | (with_reducible assumption) | (with_reducible refine below_drewN ?_ _) | (with_reducible refine below_after (by assumption) ?_ ?_) | (with_reducible refine Below.drew ?_) | (with_reducible refine Below.alloc ?_ ?_ _) | (with_reducible refine Below.setCell ?_ ?_ _) | omega | (simp; omega) | (simp; done)))⟩
  by_cases q10 : x.ohm < 10
  · go_enter Tryz.func56, Tryz.ntmps56
    go_wp2
    go_ret
    exact ⟨rfl, by (repeat' (first | (with_reducible exact Below.refl _ _) | (with_reducible assumption) | (with_reducible refine below_drewN ?_ _) | (with_reducible refine below_after (by assumption) ?_ ?_) | (with_reducible refine Below.drew ?_) | (with_reducible refine Below.alloc ?_ ?_ _) | (with_reducible refine Below.setCell ?_ ?_ _) | omega | (simp; omega) | (simp; done)))⟩
  by_cases q11 : 100000 < x.ohm
  · go_enter Tryz.func56, Tryz.ntmps56
    go_wp2
    go_ret
    exact ⟨rfl, by (repeat' (first | (with_reducible exact Below.refl _ _) | (with_reducible assumption) | (with_reducible refine below_drewN ?_ _) | (with_reducible refine below_after (by assumption) ?_ ?_) | (with_reducible refine Below.drew ?_) | (with_reducible refine Below.alloc ?_ ?_ _) | (with_reducible refine Below.setCell ?_ ?_ _) | omega | (simp; omega) | (simp; done)))⟩
  exfalso
  have : lnkBase p.buses x = true := by
    simp [lnkBase, isBus, within_yes q6 q7, within_yes q8 q9, within_yes q10 q11, q5]
    omega
  rw [this] at hb
  cases hb
set_option maxRecDepth 100000 in
set_option maxHeartbeats 4000000 in
theorem refLink_any (p : Plt) (x : Lnk) (w : World) (ht : Rd w w.heap.size 2 Trp.enc x.tA x.tn x.trip) (hn : x.tn ≤ 9223372036854775807) :
    Calls Tryz.prog 56 #[p.val, x.val] w fun e w' => e = .returned (.bool (lnkOk p.buses x)) ∧ Below w.heap.size w w' := by
  by_cases hb : lnkBase p.buses x = true
  case neg =>
    have hb : lnkBase p.buses x = false := by simpa using hb
    rw [lnkOk_base, hb]
    simpa using refLink_no p x w hb
  have hlen := Lib.hid ht.1
  have HB := Lib.hid hb
  have HT := Lib.hid ht
  simp only [lnkBase, isBus, within, Bool.and_eq_true, decide_eq_true_eq] at hb
  obtain ⟨⟨⟨⟨⟨⟨a0, a1⟩, b0, b1⟩, ne0⟩, k1, k2⟩, m1, m2⟩, o1, o2⟩ := hb
  have ne : ¬ x.a = x.b := ne0
  have g0 : ¬ x.a < 0 := by omega
  have g1 : ¬ p.buses ≤ x.a := by omega
  have g2 : ¬ x.b < 0 := by omega
  have g3 : ¬ p.buses ≤ x.b := by omega
  have g4 : ¬ x.kind < 1 := by omega
  have g5 : ¬ 3 < x.kind := by omega
  have g6 : ¬ x.most < 1 := by omega
  have g7 : ¬ 100000 < x.most := by omega
  have g8 : ¬ x.ohm < 10 := by omega
  have g9 : ¬ 100000 < x.ohm := by omega
  clear ne0 a0 a1 b0 b1 k1 k2 m1 m2 o1 o2 ht
  by_cases t6 : (6 : Int) < (x.tn : Int)
  · unfold Plt.val Lnk.val
    go_enter Tryz.func56, Tryz.ntmps56
    go_wp2
    go_ret
    exact ⟨ret_bool (by rw [lnkOk_base]; simp [tripsOk, hlen.out]; omega), by (repeat' (first | (with_reducible exact Below.refl _ _) | (with_reducible assumption) | (with_reducible refine below_drewN ?_ _) | (with_reducible refine below_after (by assumption) ?_ ?_) | (with_reducible refine Below.drew ?_) | (with_reducible refine Below.alloc ?_ ?_ _) | (with_reducible refine Below.setCell ?_ ?_ _) | omega | (simp; omega) | (simp; done)))⟩
  by_cases tk : (0 : Int) < (x.tn : Int) ∧ ¬ x.kind = 3
  · obtain ⟨t0, k3⟩ := tk
    have t0' : 0 < x.tn := by omega
    unfold Plt.val Lnk.val
    go_enter Tryz.func56, Tryz.ntmps56
    go_wp2
    go_ret
    exact ⟨ret_bool (by rw [lnkOk_base]; simp [k3]; omega), by (repeat' (first | (with_reducible exact Below.refl _ _) | (with_reducible assumption) | (with_reducible refine below_drewN ?_ _) | (with_reducible refine below_after (by assumption) ?_ ?_) | (with_reducible refine Below.drew ?_) | (with_reducible refine Below.alloc ?_ ?_ _) | (with_reducible refine Below.setCell ?_ ?_ _) | omega | (simp; omega) | (simp; done)))⟩
  have hk3 : (decide (x.kind = 3) || decide (x.tn = 0)) = true := by
    simp only [Bool.or_eq_true, decide_eq_true_eq]
    omega
  have hbad : ∀ k, k < x.trip.length → tripAt x.trip k = false → lnkOk p.buses x = false := fun k hk h => by rw [lnkOk_base, tripsOk_no hk h]; simp
  have hgood : (∀ i, i < x.trip.length → tripAt x.trip i = true) → lnkOk p.buses x = true := fun h => by
    rw [lnkOk_base, HB.out, hk3, tripsOk_yes (by rw [hlen.out]; omega) h]
    rfl
  obtain ⟨lk, hlk⟩ : ∃ q, lnkOk p.buses x = q := ⟨_, rfl⟩
  rw [hlk] at hbad hgood ⊢
  unfold Plt.val Lnk.val
  obtain ⟨a, b, kind, most, ohm, tA, tn, tc, trip⟩ := x
  dsimp only at *
  clear hlk HB hk3
  have t6' : (tn : Int) ≤ 6 := by omega
  have hX : Blk ((w.alloc (.cells (pBox0 p) 26)).alloc (.cells #[.int .i64 a, .int .i64 b, .int .i64 kind, .int .i64 most, .int .i64 ohm, .slice tA tn tc] 73)) (w.heap.size + 1) 73 #[.int .i64 a, .int .i64 b, .int .i64 kind, .int .i64 most, .int .i64 ohm, .slice tA tn tc] := by
    have := heap_alloc_new (w.alloc (.cells (pBox0 p) 26)) (.cells #[.int .i64 a, .int .i64 b, .int .i64 kind, .int .i64 most, .int .i64 ohm, .slice tA tn tc] 73)
    rwa [World.size_alloc] at this
  have HXB := Lib.hid hX
  have hBw0 : Below w.heap.size w ((w.alloc (.cells (pBox0 p) 26)).alloc (.cells #[.int .i64 a, .int .i64 b, .int .i64 kind, .int .i64 most, .int .i64 ohm, .slice tA tn tc] 73)) := by (repeat' (first | (with_reducible exact Below.refl _ _) | (with_reducible assumption) | (with_reducible refine below_drewN ?_ _) | (with_reducible refine below_after (by assumption) ?_ ?_) | (with_reducible refine Below.drew ?_) | (with_reducible refine Below.alloc ?_ ?_ _) | (with_reducible refine Below.setCell ?_ ?_ _) | omega | (simp; omega) | (simp; done)))
  clear hX
  have hloop : (0 : Int) < (tn : Int) ∧ 0 < tn ∧ kind = 3 ∨ ¬ (0 : Int) < (tn : Int) ∧ ¬ 0 < tn := by omega
  go_enter Tryz.func56, Tryz.ntmps56
  rcases hloop with ⟨t0, t0', rfl⟩ | ⟨t0, t0'⟩
  · go_wp2
    go_loopw [5] (fun i wr => ∃ k : Nat, k ≤ tn ∧ i = .int .i64 k ∧ Below ((w.alloc (.cells (pBox0 p) 26)).alloc (.cells #[.int .i64 a, .int .i64 b, .int .i64 3, .int .i64 most, .int .i64 ohm, .slice tA tn tc] 73)).heap.size ((w.alloc (.cells (pBox0 p) 26)).alloc (.cells #[.int .i64 a, .int .i64 b, .int .i64 3, .int .i64 most, .int .i64 ohm, .slice tA tn tc] 73)) wr ∧ Hid (∀ i, i < k → tripAt trip i = true)) (fun i _ => tn - (intOf i).toNat)
    case atStart => exact ⟨0, by omega, rfl, Below.refl _ _, fun i hi => absurd hi (by omega)⟩
    case round =>
      obtain ⟨k, hk, rfl, hB, hE⟩ := hrel
      have hz := hB.size
      simp only [World.size_alloc] at hz
      have hBw : Below w.heap.size w wr := hBw0.trans (hB.mono (by simp; omega))
      have x5 : wr.cell? ⟨w.heap.size + 1, 5, none⟩ = some (.slice tA tn tc) := (Blk.below HXB.out hB (Blk.lt HXB.out)).cell 5
      have x5' : ∀ O, (wr.alloc O).cell? ⟨w.heap.size + 1, 5, none⟩ = some (.slice tA tn tc) := fun O => (World.cell?_alloc_past _ _ _ (by omega)).trans x5
      have hlen' := hlen.out
      by_cases hlt : k < tn
      · obtain ⟨bb, off, z, rfl, hbb, hx, hcx⟩ := (HT.out.below hBw).at_ hlt
        obtain ⟨c0, c1⟩ := Trp.cells hcx
        rcases k with _ | k
        · simp only [Nat.zero_mul, Nat.add_zero] at c0 c1
          have HX := Lib.hid hx
          clear hx hcx
          by_cases q1 : z.amps < 1
          · go_wp2
            go_ret
            exact ⟨ret_bool (hbad (0) (by omega) (tripAt_no1 HX.out (by simp [within]; omega))).symm, by (repeat' (first | (with_reducible exact Below.refl _ _) | (with_reducible assumption) | (with_reducible refine below_drewN ?_ _) | (with_reducible refine below_after (by assumption) ?_ ?_) | (with_reducible refine Below.drew ?_) | (with_reducible refine Below.alloc ?_ ?_ _) | (with_reducible refine Below.setCell ?_ ?_ _) | omega | (simp; omega) | (simp; done)))⟩
          by_cases q2 : 1000000 < z.amps
          · go_wp2
            go_ret
            exact ⟨ret_bool (hbad (0) (by omega) (tripAt_no1 HX.out (by simp [within]; omega))).symm, by (repeat' (first | (with_reducible exact Below.refl _ _) | (with_reducible assumption) | (with_reducible refine below_drewN ?_ _) | (with_reducible refine below_after (by assumption) ?_ ?_) | (with_reducible refine Below.drew ?_) | (with_reducible refine Below.alloc ?_ ?_ _) | (with_reducible refine Below.setCell ?_ ?_ _) | omega | (simp; omega) | (simp; done)))⟩
          have w1 := within_yes q1 q2
          by_cases q3 : z.millis < 1
          · go_wp2
            go_ret
            exact ⟨ret_bool (hbad (0) (by omega) (tripAt_no2 HX.out (by simp [within]; omega))).symm, by (repeat' (first | (with_reducible exact Below.refl _ _) | (with_reducible assumption) | (with_reducible refine below_drewN ?_ _) | (with_reducible refine below_after (by assumption) ?_ ?_) | (with_reducible refine Below.drew ?_) | (with_reducible refine Below.alloc ?_ ?_ _) | (with_reducible refine Below.setCell ?_ ?_ _) | omega | (simp; omega) | (simp; done)))⟩
          by_cases q4 : 100000 < z.millis
          · go_wp2
            go_ret
            exact ⟨ret_bool (hbad (0) (by omega) (tripAt_no2 HX.out (by simp [within]; omega))).symm, by (repeat' (first | (with_reducible exact Below.refl _ _) | (with_reducible assumption) | (with_reducible refine below_drewN ?_ _) | (with_reducible refine below_after (by assumption) ?_ ?_) | (with_reducible refine Below.drew ?_) | (with_reducible refine Below.alloc ?_ ?_ _) | (with_reducible refine Below.setCell ?_ ?_ _) | omega | (simp; omega) | (simp; done)))⟩
          have w2 : (!within z.millis 1 100000) = false := by simp [within_yes q3 q4]
          have HW1 := Lib.hid w1
          have HW2 := Lib.hid w2
          clear w1 w2
          have hE' := Lib.hid (upto_succ hE.out (tripAt_yes0 HX.out HW1.out HW2.out))
          clear hE
          go_wp2
          go_quiet (fail)
          go_wp2
          go_roundw
          case rel => exact ⟨1, by omega, by go_num, by (repeat' (first | (with_reducible exact Below.refl _ _) | (with_reducible assumption) | (with_reducible refine below_drewN ?_ _) | (with_reducible refine below_after (by assumption) ?_ ?_) | (with_reducible refine Below.drew ?_) | (with_reducible refine Below.alloc ?_ ?_ _) | (with_reducible refine Below.setCell ?_ ?_ _) | omega | (simp; omega) | (simp; done))), hE'.out⟩
          case measure => simp [intOf]; omega
        · obtain ⟨b', off', y, e, _, hy, hcy⟩ := (HT.out.below hBw).at_ (k := k) (by omega)
          obtain ⟨rfl, rfl⟩ : bb = b' ∧ off = off' := by simpa using e
          obtain ⟨d0, d1⟩ := Trp.cells hcy
          have hwr : IntKind.i64.wrap (k : Int) = k := IntWalk.i64_in _ (by omega)
          have d0' : ∀ O, (wr.alloc O).cell? ⟨bb, off + k * 2, none⟩ = some (.int .i64 y.amps) := fun O => (World.cell?_alloc_past _ _ _ (by omega)).trans d0
          have d1' : ∀ O, (wr.alloc O).cell? ⟨bb, off + k * 2 + 1, none⟩ = some (.int .i64 y.millis) := fun O => (World.cell?_alloc_past _ _ _ (by omega)).trans d1
          have hi0 : (0 : Int) ≤ (k : Int) := by omega
          have hi1 : (k : Int) < (tn : Int) := by omega
          have HY := Lib.hid hy
          clear hy hcy
          have HX := Lib.hid hx
          clear hx hcx
          by_cases q1 : z.amps < 1
          · go_wp2
            go_ret
            exact ⟨ret_bool (hbad (k + 1) (by omega) (tripAt_no1 HX.out (by simp [within]; omega))).symm, by (repeat' (first | (with_reducible exact Below.refl _ _) | (with_reducible assumption) | (with_reducible refine below_drewN ?_ _) | (with_reducible refine below_after (by assumption) ?_ ?_) | (with_reducible refine Below.drew ?_) | (with_reducible refine Below.alloc ?_ ?_ _) | (with_reducible refine Below.setCell ?_ ?_ _) | omega | (simp; omega) | (simp; done)))⟩
          by_cases q2 : 1000000 < z.amps
          · go_wp2
            go_ret
            exact ⟨ret_bool (hbad (k + 1) (by omega) (tripAt_no1 HX.out (by simp [within]; omega))).symm, by (repeat' (first | (with_reducible exact Below.refl _ _) | (with_reducible assumption) | (with_reducible refine below_drewN ?_ _) | (with_reducible refine below_after (by assumption) ?_ ?_) | (with_reducible refine Below.drew ?_) | (with_reducible refine Below.alloc ?_ ?_ _) | (with_reducible refine Below.setCell ?_ ?_ _) | omega | (simp; omega) | (simp; done)))⟩
          have w1 := within_yes q1 q2
          by_cases q3 : z.millis < 1
          · go_wp2
            go_ret
            exact ⟨ret_bool (hbad (k + 1) (by omega) (tripAt_no2 HX.out (by simp [within]; omega))).symm, by (repeat' (first | (with_reducible exact Below.refl _ _) | (with_reducible assumption) | (with_reducible refine below_drewN ?_ _) | (with_reducible refine below_after (by assumption) ?_ ?_) | (with_reducible refine Below.drew ?_) | (with_reducible refine Below.alloc ?_ ?_ _) | (with_reducible refine Below.setCell ?_ ?_ _) | omega | (simp; omega) | (simp; done)))⟩
          by_cases q4 : 100000 < z.millis
          · go_wp2
            go_ret
            exact ⟨ret_bool (hbad (k + 1) (by omega) (tripAt_no2 HX.out (by simp [within]; omega))).symm, by (repeat' (first | (with_reducible exact Below.refl _ _) | (with_reducible assumption) | (with_reducible refine below_drewN ?_ _) | (with_reducible refine below_after (by assumption) ?_ ?_) | (with_reducible refine Below.drew ?_) | (with_reducible refine Below.alloc ?_ ?_ _) | (with_reducible refine Below.setCell ?_ ?_ _) | omega | (simp; omega) | (simp; done)))⟩
          have w2 : (!within z.millis 1 100000) = false := by simp [within_yes q3 q4]
          have HW1 := Lib.hid w1
          have HW2 := Lib.hid w2
          clear w1 w2
          by_cases g1 : z.amps ≤ y.amps
          · go_wp2
            go_quiet (fail)
            go_wp2
            go_ret
            exact ⟨ret_bool (hbad (k + 1) (by omega) (tripAt_no3 HX.out HY.out g1)).symm, by (repeat' (first | (with_reducible exact Below.refl _ _) | (with_reducible assumption) | (with_reducible refine below_drewN ?_ _) | (with_reducible refine below_after (by assumption) ?_ ?_) | (with_reducible refine Below.drew ?_) | (with_reducible refine Below.alloc ?_ ?_ _) | (with_reducible refine Below.setCell ?_ ?_ _) | omega | (simp; omega) | (simp; done)))⟩
          by_cases g2 : y.millis ≤ z.millis
          · go_wp2
            go_quiet (fail)
            go_wp2
            go_ret
            exact ⟨ret_bool (hbad (k + 1) (by omega) (tripAt_no4 HX.out HY.out g2)).symm, by (repeat' (first | (with_reducible exact Below.refl _ _) | (with_reducible assumption) | (with_reducible refine below_drewN ?_ _) | (with_reducible refine below_after (by assumption) ?_ ?_) | (with_reducible refine Below.drew ?_) | (with_reducible refine Below.alloc ?_ ?_ _) | (with_reducible refine Below.setCell ?_ ?_ _) | omega | (simp; omega) | (simp; done)))⟩
          have hE' := Lib.hid (upto_succ hE.out (tripAt_yes1 HX.out HY.out HW1.out HW2.out (by omega) (by omega)))
          clear hE
          go_wp2
          go_quiet (fail)
          go_wp2
          go_roundw
          case rel => exact ⟨k + 2, by omega, by go_num, by (repeat' (first | (with_reducible exact Below.refl _ _) | (with_reducible assumption) | (with_reducible refine below_drewN ?_ _) | (with_reducible refine below_after (by assumption) ?_ ?_) | (with_reducible refine Below.drew ?_) | (with_reducible refine Below.alloc ?_ ?_ _) | (with_reducible refine Below.setCell ?_ ?_ _) | omega | (simp; omega) | (simp; done))), hE'.out⟩
          case measure => simp [intOf]; omega
      · go_wp2
        go_ret
        exact ⟨ret_bool (hgood (fun i hi => hE.out i (by omega))).symm, by (repeat' (first | (with_reducible exact Below.refl _ _) | (with_reducible assumption) | (with_reducible refine below_drewN ?_ _) | (with_reducible refine below_after (by assumption) ?_ ?_) | (with_reducible refine Below.drew ?_) | (with_reducible refine Below.alloc ?_ ?_ _) | (with_reducible refine Below.setCell ?_ ?_ _) | omega | (simp; omega) | (simp; done)))⟩
  · go_wp2
    go_loopw [5] (fun i wr => i = .int .i64 0 ∧ wr = ((w.alloc (.cells (pBox0 p) 26)).alloc (.cells #[.int .i64 a, .int .i64 b, .int .i64 kind, .int .i64 most, .int .i64 ohm, .slice tA tn tc] 73))) (fun i _ => 0)
    case atStart => exact ⟨rfl, rfl⟩
    case round =>
      obtain ⟨rfl, rfl⟩ := hrel
      have x5 : ((w.alloc (.cells (pBox0 p) 26)).alloc (.cells #[.int .i64 a, .int .i64 b, .int .i64 kind, .int .i64 most, .int .i64 ohm, .slice tA tn tc] 73)).cell? ⟨w.heap.size + 1, 5, none⟩ = some (.slice tA tn tc) := HXB.out.cell 5
      go_wp2
      go_ret
      exact ⟨ret_bool (hgood (fun i hi => absurd hi (by rw [hlen.out]; omega))).symm, by (repeat' (first | (with_reducible exact Below.refl _ _) | (with_reducible assumption) | (with_reducible refine below_drewN ?_ _) | (with_reducible refine below_after (by assumption) ?_ ?_) | (with_reducible refine Below.drew ?_) | (with_reducible refine Below.alloc ?_ ?_ _) | (with_reducible refine Below.setCell ?_ ?_ _) | omega | (simp; omega) | (simp; done)))⟩
end Go.Proofs.YtnngdcidopaabaaGreatDoor

/- The reference's Check, whole. -/
namespace Go.Proofs.YtnngdcidopaabaaGreatDoor
open Go.RowKit

structure ChkIs (buses : Int) (sn ln rn : Nat) (srcs : List Src) (lnks : List Lnk) (rcks : List Rck) (cv : Int) : Prop where
  h10 : within buses 1 24 = false → cv = 10
  h11a : within buses 1 24 = true → 8 < sn → cv = 11
  h11 : within buses 1 24 = true → ∀ (k : Nat) x, srcs[k]? = some x → srcOk buses x = false → cv = 11
  h12a : within buses 1 24 = true → sn ≤ 8 → (∀ (k : Nat) x, srcs[k]? = some x → srcOk buses x = true) → 40 < ln → cv = 12
  h12 : within buses 1 24 = true → sn ≤ 8 → (∀ (k : Nat) x, srcs[k]? = some x → srcOk buses x = true) → ∀ (k : Nat) x, lnks[k]? = some x → lnkOk buses x = false → cv = 12
  h13a : within buses 1 24 = true → sn ≤ 8 → (∀ (k : Nat) x, srcs[k]? = some x → srcOk buses x = true) → ln ≤ 40 → (∀ (k : Nat) x, lnks[k]? = some x → lnkOk buses x = true) → 24 < rn → cv = 13
  h13 : within buses 1 24 = true → sn ≤ 8 → (∀ (k : Nat) x, srcs[k]? = some x → srcOk buses x = true) → ln ≤ 40 → (∀ (k : Nat) x, lnks[k]? = some x → lnkOk buses x = true) → ∀ (k : Nat) x, rcks[k]? = some x → rckOk buses x = false → cv = 13
  h0 : within buses 1 24 = true → sn ≤ 8 → (∀ (k : Nat) x, srcs[k]? = some x → srcOk buses x = true) → ln ≤ 40 → (∀ (k : Nat) x, lnks[k]? = some x → lnkOk buses x = true) → rn ≤ 24 → (∀ (k : Nat) x, rcks[k]? = some x → rckOk buses x = true) → cv = 0
theorem all_no {α : Type} {q : α → Bool} {l : List α} {k : Nat} {x : α} (h : l[k]? = some x) (hq : q x = false) : l.all q = false := by
  rw [List.all_eq_false]
  exact ⟨x, List.mem_of_getElem? h, by simp [hq]⟩
theorem all_yes {α : Type} {q : α → Bool} {l : List α} (h : ∀ (k : Nat) x, l[k]? = some x → q x = true) : l.all q = true := by
  rw [List.all_eq_true]
  intro x hx
  obtain ⟨k, hk⟩ := List.getElem?_of_mem hx
  exact h k x hk
theorem check_is (p : Plt) (h1 : p.srcs.length = p.sn) (h2 : p.lnks.length = p.ln) (h3 : p.rcks.length = p.rn) : ChkIs p.buses p.sn p.ln p.rn p.srcs p.lnks p.rcks (check p) := by
  have a1 : p.sn ≤ 8 → (∀ (k : Nat) x, p.srcs[k]? = some x → srcOk p.buses x = true) → srcsOk p = true := fun a b => by unfold srcsOk; rw [all_yes b]; simp; omega
  have a2 : p.ln ≤ 40 → (∀ (k : Nat) x, p.lnks[k]? = some x → lnkOk p.buses x = true) → lnksOk p = true := fun a b => by unfold lnksOk; rw [all_yes b]; simp; omega
  have a3 : p.rn ≤ 24 → (∀ (k : Nat) x, p.rcks[k]? = some x → rckOk p.buses x = true) → rcksOk p = true := fun a b => by unfold rcksOk; rw [all_yes b]; simp; omega
  refine ⟨fun a => ?_, fun a b => ?_, fun a k x b c => ?_, fun a b c d => ?_, fun a b c k x d e => ?_, fun a b c d e f => ?_, fun a b c d e k x f g => ?_, fun a b c d e f g => ?_⟩
  · simp [check, a]
  · have : srcsOk p = false := by unfold srcsOk; simp; omega
    simp [check, a, this]
  · have : srcsOk p = false := by unfold srcsOk; rw [all_no b c]; simp
    simp [check, a, this]
  · have : lnksOk p = false := by unfold lnksOk; simp; omega
    simp [check, a, a1 b c, this]
  · have : lnksOk p = false := by unfold lnksOk; rw [all_no d e]; simp
    simp [check, a, a1 b c, this]
  · have : rcksOk p = false := by unfold rcksOk; simp; omega
    simp [check, a, a1 b c, a2 d e, this]
  · have : rcksOk p = false := by unfold rcksOk; rw [all_no f g]; simp
    simp [check, a, a1 b c, a2 d e, this]
  · simp [check, a, a1 b c, a2 d e, a3 f g]
theorem upto_all {α : Type} {q : α → Bool} {l : List α} {n : Nat} (hl : l.length = n) (h : ∀ (k : Nat) x, k < n → l[k]? = some x → q x = true) : ∀ (k : Nat) x, l[k]? = some x → q x = true :=
  fun k x hx => h k x (by rw [← hl]; exact (List.getElem?_eq_some_iff.1 hx).1) hx
theorem upto_next {α : Type} {q : α → Bool} {l : List α} {k : Nat} {x : α} (h : ∀ (i : Nat) y, i < k → l[i]? = some y → q y = true) (hx : l[k]? = some x) (hq : q x = true) : ∀ (i : Nat) y, i < k + 1 → l[i]? = some y → q y = true := by
  intro i y hi hy
  rcases Nat.lt_or_ge i k with h' | h'
  · exact h i y h' hy
  · obtain rfl : i = k := by omega
    rw [hx] at hy
    cases hy
    exact hq
set_option maxRecDepth 100000 in
set_option maxHeartbeats 8000000 in
theorem refCheck_any (p : Plt) (w : World) (hp : PltIn w w.heap.size p) :
    Calls Tryz.prog 10 #[p.val] w fun e w' => e = .returned (.int .i64 (check p)) ∧ Below w.heap.size w w' := by
  have HC := Lib.hid (check_is p hp.src.1 hp.lnk.1 hp.rck.1)
  have LK := Lib.hid (fun x W ht hn => refLink_any p x W ht hn)
  obtain ⟨cv, hcv⟩ : ∃ q, check p = q := ⟨_, rfl⟩
  rw [hcv] at HC ⊢
  clear hcv
  unfold Plt.val at LK ⊢
  unfold Lnk.val at LK
  obtain ⟨buses, sA, sn, sc, lA, ln, lc, rA, rn, rc, srcs, lnks, rcks⟩ := p
  dsimp only at HC LK ⊢
  have HS := Lib.hid hp.src
  have HL := Lib.hid hp.lnk
  have HR := Lib.hid hp.rck
  have HT := Lib.hid hp.trip
  have HTN := Lib.hid hp.ht
  have e1 := Lib.hid hp.src.1
  have e2 := Lib.hid hp.lnk.1
  have e3 := Lib.hid hp.rck.1
  have b1 : sn ≤ 9223372036854775807 := hp.hs
  have b2 : ln ≤ 9223372036854775807 := hp.hl
  have b3 : rn ≤ 9223372036854775807 := hp.hr
  clear hp
  dsimp only at HS HL HR HT HTN e1 e2 e3
  have HXB : Hid (Blk (w.alloc (.cells #[.int .i64 buses, .slice sA sn sc, .slice lA ln lc, .slice rA rn rc] 26)) w.heap.size 26 #[.int .i64 buses, .slice sA sn sc, .slice lA ln lc, .slice rA rn rc]) := heap_alloc_new w _
  have hBw0 : Below w.heap.size w (w.alloc (.cells #[.int .i64 buses, .slice sA sn sc, .slice lA ln lc, .slice rA rn rc] 26)) := by (repeat' (first | (with_reducible exact Below.refl _ _) | (with_reducible assumption) | (with_reducible refine below_drewN ?_ _) | (with_reducible refine below_after (by assumption) ?_ ?_) | (with_reducible refine Below.drew ?_) | (with_reducible refine Below.alloc ?_ ?_ _) | (with_reducible refine Below.setCell ?_ ?_ _) | omega | (simp; omega) | (simp; done)))
  go_enter Tryz.func10, Tryz.ntmps10
  by_cases q1 : buses < 1
  · go_wp2
    go_ret
    exact ⟨ret_int (HC.out.h10 (by simp [within]; omega)).symm, by (repeat' (first | (with_reducible exact Below.refl _ _) | (with_reducible assumption) | (with_reducible refine below_drewN ?_ _) | (with_reducible refine below_after (by assumption) ?_ ?_) | (with_reducible refine Below.drew ?_) | (with_reducible refine Below.alloc ?_ ?_ _) | (with_reducible refine Below.setCell ?_ ?_ _) | omega | (simp; omega) | (simp; done)))⟩
  by_cases q2 : 24 < buses
  · go_wp2
    go_ret
    exact ⟨ret_int (HC.out.h10 (by simp [within]; omega)).symm, by (repeat' (first | (with_reducible exact Below.refl _ _) | (with_reducible assumption) | (with_reducible refine below_drewN ?_ _) | (with_reducible refine below_after (by assumption) ?_ ?_) | (with_reducible refine Below.drew ?_) | (with_reducible refine Below.alloc ?_ ?_ _) | (with_reducible refine Below.setCell ?_ ?_ _) | omega | (simp; omega) | (simp; done)))⟩
  have hw := Lib.hid (within_yes q1 q2)
  by_cases q3 : (8 : Int) < (sn : Int)
  · go_wp2
    go_ret
    exact ⟨ret_int (HC.out.h11a hw.out (by omega)).symm, by (repeat' (first | (with_reducible exact Below.refl _ _) | (with_reducible assumption) | (with_reducible refine below_drewN ?_ _) | (with_reducible refine below_after (by assumption) ?_ ?_) | (with_reducible refine Below.drew ?_) | (with_reducible refine Below.alloc ?_ ?_ _) | (with_reducible refine Below.setCell ?_ ?_ _) | omega | (simp; omega) | (simp; done)))⟩
  have hs8 : sn ≤ 8 := by omega
  have q3' : (sn : Int) ≤ 8 := by omega
  go_wp2
  clear q1 q2 q3
  go_loopw [3] (fun i wr => ∃ k : Nat, k ≤ sn ∧ i = .int .i64 k ∧ Below (w.alloc (.cells #[.int .i64 buses, .slice sA sn sc, .slice lA ln lc, .slice rA rn rc] 26)).heap.size (w.alloc (.cells #[.int .i64 buses, .slice sA sn sc, .slice lA ln lc, .slice rA rn rc] 26)) wr ∧ Hid (∀ (i : Nat) y, i < k → srcs[i]? = some y → srcOk buses y = true)) (fun i _ => sn - (intOf i).toNat)
  case atStart => exact ⟨0, by omega, rfl, Below.refl _ _, fun i y hi => absurd hi (by omega)⟩
  obtain ⟨k, hk, rfl, hB, hE⟩ := hrel
  have hz := hB.size
  simp only [World.size_alloc] at hz
  have hBw : Below w.heap.size w wr := hBw0.trans (hB.mono (by simp))
  have hXB := Blk.below HXB.out hB (Blk.lt HXB.out)
  have x0 : wr.cell? ⟨w.heap.size, 0, none⟩ = some (.int .i64 buses) := hXB.cell 0
  have x1 : wr.cell? ⟨w.heap.size, 1, none⟩ = some (.slice sA sn sc) := hXB.cell 1
  have x2 : wr.cell? ⟨w.heap.size, 2, none⟩ = some (.slice lA ln lc) := hXB.cell 2
  have x0' : ∀ O, (wr.alloc O).cell? ⟨w.heap.size, 0, none⟩ = some (.int .i64 buses) := fun O => (hXB.alloc O).cell 0
  have HXr := Lib.hid hXB
  clear hXB
  have h11 := HC.out.h11 hw.out
  by_cases hlt : k < sn
  · obtain ⟨b, off, z, rfl, hb, hx, hcx⟩ := (HS.out.below hBw).at_ hlt
    obtain ⟨c0, c1, c2, c3, c4⟩ := Src.cells hcx
    have hk0 : (0 : Int) ≤ (k : Int) := by omega
    have hkn : (k : Int) < (sn : Int) := by omega
    have HX := Lib.hid hx
    clear hx hcx
    by_cases q1 : z.bus < 0
    · go_wp2
      go_ret
      exact ⟨ret_int (h11 k z HX.out (by simp [srcOk, isBus, within]; omega)).symm, by (repeat' (first | (with_reducible exact Below.refl _ _) | (with_reducible assumption) | (with_reducible refine below_drewN ?_ _) | (with_reducible refine below_after (by assumption) ?_ ?_) | (with_reducible refine Below.drew ?_) | (with_reducible refine Below.alloc ?_ ?_ _) | (with_reducible refine Below.setCell ?_ ?_ _) | omega | (simp; omega) | (simp; done)))⟩
    by_cases q2 : buses ≤ z.bus
    · go_wp2
      go_ret
      exact ⟨ret_int (h11 k z HX.out (by simp [srcOk, isBus, within]; omega)).symm, by (repeat' (first | (with_reducible exact Below.refl _ _) | (with_reducible assumption) | (with_reducible refine below_drewN ?_ _) | (with_reducible refine below_after (by assumption) ?_ ?_) | (with_reducible refine Below.drew ?_) | (with_reducible refine Below.alloc ?_ ?_ _) | (with_reducible refine Below.setCell ?_ ?_ _) | omega | (simp; omega) | (simp; done)))⟩
    by_cases q3 : z.kind < 1
    · go_wp2
      go_ret
      exact ⟨ret_int (h11 k z HX.out (by simp [srcOk, isBus, within]; omega)).symm, by (repeat' (first | (with_reducible exact Below.refl _ _) | (with_reducible assumption) | (with_reducible refine below_drewN ?_ _) | (with_reducible refine below_after (by assumption) ?_ ?_) | (with_reducible refine Below.drew ?_) | (with_reducible refine Below.alloc ?_ ?_ _) | (with_reducible refine Below.setCell ?_ ?_ _) | omega | (simp; omega) | (simp; done)))⟩
    by_cases q4 : 3 < z.kind
    · go_wp2
      go_ret
      exact ⟨ret_int (h11 k z HX.out (by simp [srcOk, isBus, within]; omega)).symm, by (repeat' (first | (with_reducible exact Below.refl _ _) | (with_reducible assumption) | (with_reducible refine below_drewN ?_ _) | (with_reducible refine below_after (by assumption) ?_ ?_) | (with_reducible refine Below.drew ?_) | (with_reducible refine Below.alloc ?_ ?_ _) | (with_reducible refine Below.setCell ?_ ?_ _) | omega | (simp; omega) | (simp; done)))⟩
    by_cases q5 : z.power < 1
    · go_wp2
      go_ret
      exact ⟨ret_int (h11 k z HX.out (by simp [srcOk, isBus, within]; omega)).symm, by (repeat' (first | (with_reducible exact Below.refl _ _) | (with_reducible assumption) | (with_reducible refine below_drewN ?_ _) | (with_reducible refine below_after (by assumption) ?_ ?_) | (with_reducible refine Below.drew ?_) | (with_reducible refine Below.alloc ?_ ?_ _) | (with_reducible refine Below.setCell ?_ ?_ _) | omega | (simp; omega) | (simp; done)))⟩
    by_cases q6 : 100000 < z.power
    · go_wp2
      go_ret
      exact ⟨ret_int (h11 k z HX.out (by simp [srcOk, isBus, within]; omega)).symm, by (repeat' (first | (with_reducible exact Below.refl _ _) | (with_reducible assumption) | (with_reducible refine below_drewN ?_ _) | (with_reducible refine below_after (by assumption) ?_ ?_) | (with_reducible refine Below.drew ?_) | (with_reducible refine Below.alloc ?_ ?_ _) | (with_reducible refine Below.setCell ?_ ?_ _) | omega | (simp; omega) | (simp; done)))⟩
    by_cases q7 : z.sync < 0
    · go_wp2
      go_ret
      exact ⟨ret_int (h11 k z HX.out (by simp [srcOk, isBus, within]; omega)).symm, by (repeat' (first | (with_reducible exact Below.refl _ _) | (with_reducible assumption) | (with_reducible refine below_drewN ?_ _) | (with_reducible refine below_after (by assumption) ?_ ?_) | (with_reducible refine Below.drew ?_) | (with_reducible refine Below.alloc ?_ ?_ _) | (with_reducible refine Below.setCell ?_ ?_ _) | omega | (simp; omega) | (simp; done)))⟩
    by_cases q8 : 8 < z.sync
    · go_wp2
      go_ret
      exact ⟨ret_int (h11 k z HX.out (by simp [srcOk, isBus, within]; omega)).symm, by (repeat' (first | (with_reducible exact Below.refl _ _) | (with_reducible assumption) | (with_reducible refine below_drewN ?_ _) | (with_reducible refine below_after (by assumption) ?_ ?_) | (with_reducible refine Below.drew ?_) | (with_reducible refine Below.alloc ?_ ?_ _) | (with_reducible refine Below.setCell ?_ ?_ _) | omega | (simp; omega) | (simp; done)))⟩
    by_cases q9 : z.ohm < 10
    · go_wp2
      go_ret
      exact ⟨ret_int (h11 k z HX.out (by simp [srcOk, isBus, within]; omega)).symm, by (repeat' (first | (with_reducible exact Below.refl _ _) | (with_reducible assumption) | (with_reducible refine below_drewN ?_ _) | (with_reducible refine below_after (by assumption) ?_ ?_) | (with_reducible refine Below.drew ?_) | (with_reducible refine Below.alloc ?_ ?_ _) | (with_reducible refine Below.setCell ?_ ?_ _) | omega | (simp; omega) | (simp; done)))⟩
    by_cases q10 : 100000 < z.ohm
    · go_wp2
      go_ret
      exact ⟨ret_int (h11 k z HX.out (by simp [srcOk, isBus, within]; omega)).symm, by (repeat' (first | (with_reducible exact Below.refl _ _) | (with_reducible assumption) | (with_reducible refine below_drewN ?_ _) | (with_reducible refine below_after (by assumption) ?_ ?_) | (with_reducible refine Below.drew ?_) | (with_reducible refine Below.alloc ?_ ?_ _) | (with_reducible refine Below.setCell ?_ ?_ _) | omega | (simp; omega) | (simp; done)))⟩
    have hE' := Lib.hid (upto_next hE.out HX.out (by simp [srcOk, isBus, within]; omega))
    clear hE
    go_wp2
    go_roundw
    case rel => exact ⟨k + 1, by omega, by go_num, by (repeat' (first | (with_reducible exact Below.refl _ _) | (with_reducible assumption) | (with_reducible refine below_drewN ?_ _) | (with_reducible refine below_after (by assumption) ?_ ?_) | (with_reducible refine Below.drew ?_) | (with_reducible refine Below.alloc ?_ ?_ _) | (with_reducible refine Below.setCell ?_ ?_ _) | omega | (simp; omega) | (simp; done))), hE'.out⟩
    case measure => simp [intOf]; omega
  obtain rfl : sn = k := by omega
  have hS := Lib.hid (upto_all e1.out hE.out)
  clear hE h11 hk hlt
  by_cases q3 : (40 : Int) < (ln : Int)
  · go_wp2
    go_ret
    exact ⟨ret_int (HC.out.h12a hw.out hs8 hS.out (by omega)).symm, by (repeat' (first | (with_reducible exact Below.refl _ _) | (with_reducible assumption) | (with_reducible refine below_drewN ?_ _) | (with_reducible refine below_after (by assumption) ?_ ?_) | (with_reducible refine Below.drew ?_) | (with_reducible refine Below.alloc ?_ ?_ _) | (with_reducible refine Below.setCell ?_ ?_ _) | omega | (simp; omega) | (simp; done)))⟩
  have hl40 : ln ≤ 40 := by omega
  have q4' : (ln : Int) ≤ 40 := by omega
  go_wp2
  clear x0 x1 x2 x0' q3
  obtain ⟨W1, e⟩ : ∃ x, x = wr := ⟨wr, rfl⟩
  subst e
  go_loopw [5] (fun i wr => ∃ k : Nat, k ≤ ln ∧ i = .int .i64 k ∧ Below W1.heap.size W1 wr ∧ Hid (∀ (i : Nat) y, i < k → lnks[i]? = some y → lnkOk buses y = true)) (fun i _ => ln - (intOf i).toNat)
  case atStart => exact ⟨0, by omega, rfl, Below.refl _ _, fun i y hi => absurd hi (by omega)⟩
  obtain ⟨k, hk, rfl, hB1, hE⟩ := hrel
  have hz1 := hB1.size
  have hBw1 : Below w.heap.size w wr := hBw.trans (hB1.mono (by omega))
  have hXB := Blk.below HXr.out hB1 (Blk.lt HXr.out)
  have x0 : wr.cell? ⟨w.heap.size, 0, none⟩ = some (.int .i64 buses) := hXB.cell 0
  have x1 : wr.cell? ⟨w.heap.size, 1, none⟩ = some (.slice sA sn sc) := hXB.cell 1
  have x2 : wr.cell? ⟨w.heap.size, 2, none⟩ = some (.slice lA ln lc) := hXB.cell 2
  have x3 : wr.cell? ⟨w.heap.size, 3, none⟩ = some (.slice rA rn rc) := hXB.cell 3
  have HXr1 := Lib.hid hXB
  clear hXB
  have h12 := HC.out.h12 hw.out hs8 hS.out
  by_cases hlt : k < ln
  · obtain ⟨b, off, z, rfl, hb, hx, hcx⟩ := (HL.out.below hBw1).at_ hlt
    obtain ⟨c0, c1, c2, c3, c4, c5⟩ := Lnk.cells hcx
    have hk0 : (0 : Int) ≤ (k : Int) := by omega
    have hkn : (k : Int) < (ln : Int) := by omega
    have HX := Lib.hid hx
    have hz' := List.mem_of_getElem? hx
    have LK' := Lib.hid (fun d os => LK.out z (Go.Sort.grow (redrawn wr d) os) ((((HT.out z hz').below hBw1).more (show w.heap.size ≤ wr.heap.size by omega)).next (below_regrown wr d os)) (HTN.out z hz'))
    clear hx hcx hz'
    have g0 := cell_regrown x0
    have g1 := cell_regrown x1
    have g2 := cell_regrown x2
    have g3 := cell_regrown x3
    have k0 := cell_regrown c0
    have k1 := cell_regrown c1
    have k2 := cell_regrown c2
    have k3 := cell_regrown c3
    have k4 := cell_regrown c4
    have k5 := cell_regrown c5
    clear c0 c1 c2 c3 c4 c5
    cases hq : lnkOk buses z
    · simp only [hq] at LK'
      have hbad := h12 k z HX.out hq
      clear hq
      go_wp2
      refine wp_region_quiet_below (by kernel_rfl) (by kernel_rfl) ?_
      repeat (go_big_quiet_step (exact Calls.regrown_of (LK'.out _ _)))
      refine wpQuiet_nil ?_
      intro _ hw'
      obtain ⟨⟨dq, osq⟩, hw''⟩ := hw'
      subst hw''
      have hg3 := below_regrown wr dq osq
      clear g0 g1 g2 g3 k0 k1 k2 k3 k4 k5 LK'
      go_wp2
      go_ret
      exact ⟨ret_int hbad.symm, hBw1.trans (hg3.mono (by omega))⟩
    · simp only [hq] at LK'
      have hE' := Lib.hid (upto_next hE.out HX.out hq)
      clear hE hq
      go_wp2
      refine wp_region_quiet_below (by kernel_rfl) (by kernel_rfl) ?_
      repeat (go_big_quiet_step (exact Calls.regrown_of (LK'.out _ _)))
      refine wpQuiet_nil ?_
      intro _ hw'
      obtain ⟨⟨dq, osq⟩, hw''⟩ := hw'
      subst hw''
      have hg3 := below_regrown wr dq osq
      clear g0 g1 g2 g3 k0 k1 k2 k3 k4 k5 LK'
      go_wp2
      go_roundw
      case rel => exact ⟨k + 1, by omega, by go_num, hB1.trans (hg3.mono hz1), hE'.out⟩
      case measure => simp [intOf]; omega
  obtain rfl : ln = k := by omega
  have hL := Lib.hid (upto_all e2.out hE.out)
  clear hE h12 hk hlt
  by_cases q3 : (24 : Int) < (rn : Int)
  · go_wp2
    go_ret
    exact ⟨ret_int (HC.out.h13a hw.out hs8 hS.out hl40 hL.out (by omega)).symm, by (repeat' (first | (with_reducible exact Below.refl _ _) | (with_reducible assumption) | (with_reducible refine below_drewN ?_ _) | (with_reducible refine below_after (by assumption) ?_ ?_) | (with_reducible refine Below.drew ?_) | (with_reducible refine Below.alloc ?_ ?_ _) | (with_reducible refine Below.setCell ?_ ?_ _) | omega | (simp; omega) | (simp; done)))⟩
  have hr24 : rn ≤ 24 := by omega
  have q5' : (rn : Int) ≤ 24 := by omega
  go_wp2
  clear x0 x1 x2 x3 q3
  obtain ⟨W2, e⟩ : ∃ x, x = wr := ⟨wr, rfl⟩
  subst e
  go_loopw [6] (fun i wr => ∃ k : Nat, k ≤ rn ∧ i = .int .i64 k ∧ Below W2.heap.size W2 wr ∧ Hid (∀ (i : Nat) y, i < k → rcks[i]? = some y → rckOk buses y = true)) (fun i _ => rn - (intOf i).toNat)
  case atStart => exact ⟨0, by omega, rfl, Below.refl _ _, fun i y hi => absurd hi (by omega)⟩
  obtain ⟨k, hk, rfl, hB2, hE⟩ := hrel
  have hz2 := hB2.size
  have hBw2 : Below w.heap.size w wr := hBw1.trans (hB2.mono (by omega))
  have hXB := Blk.below HXr1.out hB2 (Blk.lt HXr1.out)
  have x0 : wr.cell? ⟨w.heap.size, 0, none⟩ = some (.int .i64 buses) := hXB.cell 0
  have x3 : wr.cell? ⟨w.heap.size, 3, none⟩ = some (.slice rA rn rc) := hXB.cell 3
  have x0' : ∀ O, (wr.alloc O).cell? ⟨w.heap.size, 0, none⟩ = some (.int .i64 buses) := fun O => (hXB.alloc O).cell 0
  clear hXB
  have h13 := HC.out.h13 hw.out hs8 hS.out hl40 hL.out
  by_cases hlt : k < rn
  · obtain ⟨b, off, z, rfl, hb, hx, hcx⟩ := (HR.out.below hBw2).at_ hlt
    obtain ⟨c0, c1, c2, c3⟩ := Rck.cells hcx
    have hk0 : (0 : Int) ≤ (k : Int) := by omega
    have hkn : (k : Int) < (rn : Int) := by omega
    have HX := Lib.hid hx
    clear hx hcx
    go_wp2
    go_quiet (fail)
    by_cases qm : z.f1 = -1
    · have r5 : ¬ z.f1 < -1 := by omega
      have hb1 : 1 ≤ buses := by have := hw.out; simp [within] at this; omega
      have r6 : ¬ buses ≤ z.f1 := by omega
      rw [qm] at r5 r6
      by_cases r0 : z.f0 < 0
      · go_wp2
        go_ret
        exact ⟨ret_int (h13 k z HX.out (by simp [rckOk, isBus, within]; omega)).symm, by (repeat' (first | (with_reducible exact Below.refl _ _) | (with_reducible assumption) | (with_reducible refine below_drewN ?_ _) | (with_reducible refine below_after (by assumption) ?_ ?_) | (with_reducible refine Below.drew ?_) | (with_reducible refine Below.alloc ?_ ?_ _) | (with_reducible refine Below.setCell ?_ ?_ _) | omega | (simp; omega) | (simp; done)))⟩
      by_cases r1 : buses ≤ z.f0
      · go_wp2
        go_ret
        exact ⟨ret_int (h13 k z HX.out (by simp [rckOk, isBus, within]; omega)).symm, by (repeat' (first | (with_reducible exact Below.refl _ _) | (with_reducible assumption) | (with_reducible refine below_drewN ?_ _) | (with_reducible refine below_after (by assumption) ?_ ?_) | (with_reducible refine Below.drew ?_) | (with_reducible refine Below.alloc ?_ ?_ _) | (with_reducible refine Below.setCell ?_ ?_ _) | omega | (simp; omega) | (simp; done)))⟩
      have r7 : ¬ z.f0 = -1 := by omega
      by_cases t0 : z.power < 1
      · go_wp2
        go_ret
        exact ⟨ret_int (h13 k z HX.out (by simp [rckOk, isBus, within]; omega)).symm, by (repeat' (first | (with_reducible exact Below.refl _ _) | (with_reducible assumption) | (with_reducible refine below_drewN ?_ _) | (with_reducible refine below_after (by assumption) ?_ ?_) | (with_reducible refine Below.drew ?_) | (with_reducible refine Below.alloc ?_ ?_ _) | (with_reducible refine Below.setCell ?_ ?_ _) | omega | (simp; omega) | (simp; done)))⟩
      by_cases t1 : 100000 < z.power
      · go_wp2
        go_ret
        exact ⟨ret_int (h13 k z HX.out (by simp [rckOk, isBus, within]; omega)).symm, by (repeat' (first | (with_reducible exact Below.refl _ _) | (with_reducible assumption) | (with_reducible refine below_drewN ?_ _) | (with_reducible refine below_after (by assumption) ?_ ?_) | (with_reducible refine Below.drew ?_) | (with_reducible refine Below.alloc ?_ ?_ _) | (with_reducible refine Below.setCell ?_ ?_ _) | omega | (simp; omega) | (simp; done)))⟩
      by_cases t2 : z.paths < 0
      · go_wp2
        go_ret
        exact ⟨ret_int (h13 k z HX.out (by simp [rckOk, isBus, within]; omega)).symm, by (repeat' (first | (with_reducible exact Below.refl _ _) | (with_reducible assumption) | (with_reducible refine below_drewN ?_ _) | (with_reducible refine below_after (by assumption) ?_ ?_) | (with_reducible refine Below.drew ?_) | (with_reducible refine Below.alloc ?_ ?_ _) | (with_reducible refine Below.setCell ?_ ?_ _) | omega | (simp; omega) | (simp; done)))⟩
      by_cases t3 : 1 < z.paths
      · go_wp2
        go_ret
        exact ⟨ret_int (h13 k z HX.out (by simp [rckOk, isBus, within]; omega)).symm, by (repeat' (first | (with_reducible exact Below.refl _ _) | (with_reducible assumption) | (with_reducible refine below_drewN ?_ _) | (with_reducible refine below_after (by assumption) ?_ ?_) | (with_reducible refine Below.drew ?_) | (with_reducible refine Below.alloc ?_ ?_ _) | (with_reducible refine Below.setCell ?_ ?_ _) | omega | (simp; omega) | (simp; done)))⟩
      have hE' := Lib.hid (upto_next hE.out HX.out (show rckOk buses z = true by simp [rckOk, isBus, within, qm]; omega))
      clear hE
      go_wp2
      go_roundw
      case rel => exact ⟨k + 1, by omega, by go_num, by (repeat' (first | (with_reducible exact Below.refl _ _) | (with_reducible assumption) | (with_reducible refine below_drewN ?_ _) | (with_reducible refine below_after (by assumption) ?_ ?_) | (with_reducible refine Below.drew ?_) | (with_reducible refine Below.alloc ?_ ?_ _) | (with_reducible refine Below.setCell ?_ ?_ _) | omega | (simp; omega) | (simp; done))), hE'.out⟩
      case measure => simp [intOf]; omega
    · by_cases r0 : z.f0 < 0
      · go_wp2
        go_ret
        exact ⟨ret_int (h13 k z HX.out (by simp [rckOk, isBus, within]; omega)).symm, by (repeat' (first | (with_reducible exact Below.refl _ _) | (with_reducible assumption) | (with_reducible refine below_drewN ?_ _) | (with_reducible refine below_after (by assumption) ?_ ?_) | (with_reducible refine Below.drew ?_) | (with_reducible refine Below.alloc ?_ ?_ _) | (with_reducible refine Below.setCell ?_ ?_ _) | omega | (simp; omega) | (simp; done)))⟩
      by_cases r1 : buses ≤ z.f0
      · go_wp2
        go_ret
        exact ⟨ret_int (h13 k z HX.out (by simp [rckOk, isBus, within]; omega)).symm, by (repeat' (first | (with_reducible exact Below.refl _ _) | (with_reducible assumption) | (with_reducible refine below_drewN ?_ _) | (with_reducible refine below_after (by assumption) ?_ ?_) | (with_reducible refine Below.drew ?_) | (with_reducible refine Below.alloc ?_ ?_ _) | (with_reducible refine Below.setCell ?_ ?_ _) | omega | (simp; omega) | (simp; done)))⟩
      by_cases r2 : z.f1 < -1
      · go_wp2
        go_ret
        exact ⟨ret_int (h13 k z HX.out (by simp [rckOk, isBus, within]; omega)).symm, by (repeat' (first | (with_reducible exact Below.refl _ _) | (with_reducible assumption) | (with_reducible refine below_drewN ?_ _) | (with_reducible refine below_after (by assumption) ?_ ?_) | (with_reducible refine Below.drew ?_) | (with_reducible refine Below.alloc ?_ ?_ _) | (with_reducible refine Below.setCell ?_ ?_ _) | omega | (simp; omega) | (simp; done)))⟩
      by_cases r3 : buses ≤ z.f1
      · go_wp2
        go_ret
        exact ⟨ret_int (h13 k z HX.out (by simp [rckOk, isBus, within]; omega)).symm, by (repeat' (first | (with_reducible exact Below.refl _ _) | (with_reducible assumption) | (with_reducible refine below_drewN ?_ _) | (with_reducible refine below_after (by assumption) ?_ ?_) | (with_reducible refine Below.drew ?_) | (with_reducible refine Below.alloc ?_ ?_ _) | (with_reducible refine Below.setCell ?_ ?_ _) | omega | (simp; omega) | (simp; done)))⟩
      by_cases r4 : z.f0 = z.f1
      · go_wp2
        go_ret
        exact ⟨ret_int (h13 k z HX.out (by simp [rckOk, isBus, within]; omega)).symm, by (repeat' (first | (with_reducible exact Below.refl _ _) | (with_reducible assumption) | (with_reducible refine below_drewN ?_ _) | (with_reducible refine below_after (by assumption) ?_ ?_) | (with_reducible refine Below.drew ?_) | (with_reducible refine Below.alloc ?_ ?_ _) | (with_reducible refine Below.setCell ?_ ?_ _) | omega | (simp; omega) | (simp; done)))⟩
      by_cases r5 : z.power < 1
      · go_wp2
        go_ret
        exact ⟨ret_int (h13 k z HX.out (by simp [rckOk, isBus, within]; omega)).symm, by (repeat' (first | (with_reducible exact Below.refl _ _) | (with_reducible assumption) | (with_reducible refine below_drewN ?_ _) | (with_reducible refine below_after (by assumption) ?_ ?_) | (with_reducible refine Below.drew ?_) | (with_reducible refine Below.alloc ?_ ?_ _) | (with_reducible refine Below.setCell ?_ ?_ _) | omega | (simp; omega) | (simp; done)))⟩
      by_cases r6 : 100000 < z.power
      · go_wp2
        go_ret
        exact ⟨ret_int (h13 k z HX.out (by simp [rckOk, isBus, within]; omega)).symm, by (repeat' (first | (with_reducible exact Below.refl _ _) | (with_reducible assumption) | (with_reducible refine below_drewN ?_ _) | (with_reducible refine below_after (by assumption) ?_ ?_) | (with_reducible refine Below.drew ?_) | (with_reducible refine Below.alloc ?_ ?_ _) | (with_reducible refine Below.setCell ?_ ?_ _) | omega | (simp; omega) | (simp; done)))⟩
      by_cases r7 : z.paths < 0
      · go_wp2
        go_ret
        exact ⟨ret_int (h13 k z HX.out (by simp [rckOk, isBus, within]; omega)).symm, by (repeat' (first | (with_reducible exact Below.refl _ _) | (with_reducible assumption) | (with_reducible refine below_drewN ?_ _) | (with_reducible refine below_after (by assumption) ?_ ?_) | (with_reducible refine Below.drew ?_) | (with_reducible refine Below.alloc ?_ ?_ _) | (with_reducible refine Below.setCell ?_ ?_ _) | omega | (simp; omega) | (simp; done)))⟩
      by_cases r8 : 2 < z.paths
      · go_wp2
        go_ret
        exact ⟨ret_int (h13 k z HX.out (by simp [rckOk, isBus, within]; omega)).symm, by (repeat' (first | (with_reducible exact Below.refl _ _) | (with_reducible assumption) | (with_reducible refine below_drewN ?_ _) | (with_reducible refine below_after (by assumption) ?_ ?_) | (with_reducible refine Below.drew ?_) | (with_reducible refine Below.alloc ?_ ?_ _) | (with_reducible refine Below.setCell ?_ ?_ _) | omega | (simp; omega) | (simp; done)))⟩
      have hE' := Lib.hid (upto_next hE.out HX.out (show rckOk buses z = true by simp [rckOk, isBus, within, qm]; omega))
      clear hE
      go_wp2
      go_roundw
      case rel => exact ⟨k + 1, by omega, by go_num, by (repeat' (first | (with_reducible exact Below.refl _ _) | (with_reducible assumption) | (with_reducible refine below_drewN ?_ _) | (with_reducible refine below_after (by assumption) ?_ ?_) | (with_reducible refine Below.drew ?_) | (with_reducible refine Below.alloc ?_ ?_ _) | (with_reducible refine Below.setCell ?_ ?_ _) | omega | (simp; omega) | (simp; done))), hE'.out⟩
      case measure => simp [intOf]; omega
  obtain rfl : rn = k := by omega
  have hR := Lib.hid (upto_all e3.out hE.out)
  have h0 := HC.out.h0 hw.out hs8 hS.out hl40 hL.out hr24 hR.out
  clear hE h13 hk hlt
  go_wp2
  go_ret
  exact ⟨ret_int h0.symm, by (repeat' (first | (with_reducible exact Below.refl _ _) | (with_reducible assumption) | (with_reducible refine below_drewN ?_ _) | (with_reducible refine below_after (by assumption) ?_ ?_) | (with_reducible refine Below.drew ?_) | (with_reducible refine Below.alloc ?_ ?_ _) | (with_reducible refine Below.setCell ?_ ?_ _) | omega | (simp; omega) | (simp; done)))⟩
end Go.Proofs.YtnngdcidopaabaaGreatDoor

/- The reference's Valid and CheckState. -/
namespace Go.Proofs.YtnngdcidopaabaaGreatDoor
open Go.RowKit

def sBox0 (s : Stt) : Array Value := #[.slice s.closed.A s.closed.n s.closed.c, .slice s.locked.A s.locked.n s.locked.c, .slice s.badLink.A s.badLink.n s.badLink.c, .slice s.on.A s.on.n s.on.c, .slice s.badSource.A s.badSource.n s.badSource.c, .slice s.earthed.A s.earthed.n s.earthed.c, .slice s.badBus.A s.badBus.n s.badBus.c]
set_option maxRecDepth 100000 in
set_option maxHeartbeats 8000000 in
theorem refValid_any (p : Plt) (s : Stt) (w : World) (hp : PltIn w w.heap.size p) (hs : SttIn w w.heap.size s) :
    Calls Tryz.prog 63 #[p.val, s.val] w fun e w' => e = .returned (.bool (stateOk p s)) ∧ Below w.heap.size w w' := by
  have h1 := hp.hl
  have h2 := hp.hs
  have HP := Lib.hid hp.lnk
  have hlen := Lib.hid hp.lnk.1
  have HC := Lib.hid hs.closed.1
  have HL := Lib.hid hs.locked.1
  have b0 := hs.closed.2
  have b1 := hs.locked.2
  have b2 := hs.badLink.2
  have b3 := hs.on.2
  have b4 := hs.badSource.2
  have b5 := hs.earthed.2
  have b6 := hs.badBus.2
  clear hp hs
  have hno : ∀ x, stateOk p s = x → x = false ∨ (s.closed.n = p.ln ∧ s.locked.n = p.ln ∧ s.badLink.n = p.ln ∧ s.on.n = p.sn ∧ s.badSource.n = p.sn ∧ (s.earthed.n : Int) = p.buses ∧ (s.badBus.n : Int) = p.buses) := by
    intro x hx
    cases x
    · exact .inl rfl
    · right
      simp [stateOk, linkLists, sourceLists, busLists] at hx
      omega
  have hyes : s.closed.n = p.ln → s.locked.n = p.ln → s.badLink.n = p.ln → s.on.n = p.sn → s.badSource.n = p.sn → (s.earthed.n : Int) = p.buses → (s.badBus.n : Int) = p.buses → stateOk p s = cablesOk p s := by
    intro a b c d e f g
    simp [stateOk, linkLists, sourceLists, busLists, a, b, c, d, e, f, g]
  have cno : ∀ k, k < p.lnks.length → cableAt p s k = false → cablesOk p s = false := fun k hk h => cablesOk_no hk h
  have cyes : (∀ k, k < p.lnks.length → cableAt p s k = true) → cablesOk p s = true := cablesOk_yes
  have cat : Hid (∀ (k : Nat) (x : Lnk) (u v : Bool), p.lnks[k]? = some x → s.closed.l[k]? = some u → s.locked.l[k]? = some v → cableAt p s k = (!decide (x.kind = 1) || (u && !v))) := by
    intro k x u v hx hu hv
    unfold cableAt
    rw [hx, hu, hv]
    rfl
  obtain ⟨st, hst⟩ : ∃ q, stateOk p s = q := ⟨_, rfl⟩
  obtain ⟨cb, hcb⟩ : ∃ q, cablesOk p s = q := ⟨_, rfl⟩
  obtain ⟨ca, hca⟩ : ∃ q, cableAt p s = q := ⟨_, rfl⟩
  have hno := hno st hst
  rw [hst] at hyes ⊢
  rw [hcb, hca] at cno cyes
  rw [hcb] at hyes
  simp only [hca] at cat
  clear hst hcb hca
  unfold Plt.val Stt.val
  obtain ⟨buses, sA, sn, sc, lA, ln, lc, rA, rn, rc, srcs, lnks, rcks⟩ := p
  obtain ⟨⟨A0, n0, k0, l0⟩, ⟨A1, n1, k1, l1⟩, ⟨A2, n2, k2, l2⟩, ⟨A3, n3, k3, l3⟩, ⟨A4, n4, k4, l4⟩, ⟨A5, n5, k5, l5⟩, ⟨A6, n6, k6, l6⟩⟩ := s
  dsimp only at *
  go_enter Tryz.func63, Tryz.ntmps63
  go_wp2
  go_quiet (fail)
  obtain ⟨W1, hW1⟩ : ∃ W, (((w.alloc (.cells #[.int .i64 buses, .slice sA sn sc, .slice lA ln lc, .slice rA rn rc] 26)).alloc (.cells #[.slice A0 n0 k0, .slice A1 n1 k1, .slice A2 n2 k2, .slice A3 n3 k3, .slice A4 n4 k4, .slice A5 n5 k5, .slice A6 n6 k6] 29)).drewN nq) = W := ⟨_, rfl⟩
  rw [hW1]
  have HPB : Hid (Blk W1 w.heap.size 26 #[.int .i64 buses, .slice sA sn sc, .slice lA ln lc, .slice rA rn rc]) := by
    rw [← hW1]
    exact (show Blk _ _ _ _ from heap_alloc_new w (.cells #[.int .i64 buses, .slice sA sn sc, .slice lA ln lc, .slice rA rn rc] 26)).alloc (.cells #[.slice A0 n0 k0, .slice A1 n1 k1, .slice A2 n2 k2, .slice A3 n3 k3, .slice A4 n4 k4, .slice A5 n5 k5, .slice A6 n6 k6] 29)
  have HSB : Hid (Blk W1 (w.heap.size + 1) 29 #[.slice A0 n0 k0, .slice A1 n1 k1, .slice A2 n2 k2, .slice A3 n3 k3, .slice A4 n4 k4, .slice A5 n5 k5, .slice A6 n6 k6]) := by
    have := heap_alloc_new (w.alloc (.cells #[.int .i64 buses, .slice sA sn sc, .slice lA ln lc, .slice rA rn rc] 26)) (.cells #[.slice A0 n0 k0, .slice A1 n1 k1, .slice A2 n2 k2, .slice A3 n3 k3, .slice A4 n4 k4, .slice A5 n5 k5, .slice A6 n6 k6] 29)
    rw [World.size_alloc] at this
    rw [← hW1]
    exact this
  have hBW : Below w.heap.size w W1 := by rw [← hW1]; (repeat' (first | (with_reducible exact Below.refl _ _) | (with_reducible assumption) | (with_reducible refine below_drewN ?_ _) | (with_reducible refine below_after (by assumption) ?_ ?_) | (with_reducible refine Below.drew ?_) | (with_reducible refine Below.alloc ?_ ?_ _) | (with_reducible refine Below.setCell ?_ ?_ _) | omega | (simp; omega) | (simp; done)))
  clear hW1
  have x0 : W1.cell? ⟨w.heap.size, 0, none⟩ = some (.int .i64 buses) := HPB.out.cell 0
  have x2 : W1.cell? ⟨w.heap.size, 2, none⟩ = some (.slice lA ln lc) := HPB.out.cell 2
  have y0 : W1.cell? ⟨w.heap.size + 1, 0, none⟩ = some (.slice A0 n0 k0) := HSB.out.cell 0
  have y1 : W1.cell? ⟨w.heap.size + 1, 1, none⟩ = some (.slice A1 n1 k1) := HSB.out.cell 1
  have y2 : W1.cell? ⟨w.heap.size + 1, 2, none⟩ = some (.slice A2 n2 k2) := HSB.out.cell 2
  have y3 : W1.cell? ⟨w.heap.size + 1, 3, none⟩ = some (.slice A3 n3 k3) := HSB.out.cell 3
  have y4 : W1.cell? ⟨w.heap.size + 1, 4, none⟩ = some (.slice A4 n4 k4) := HSB.out.cell 4
  have y5 : W1.cell? ⟨w.heap.size + 1, 5, none⟩ = some (.slice A5 n5 k5) := HSB.out.cell 5
  have y6 : W1.cell? ⟨w.heap.size + 1, 6, none⟩ = some (.slice A6 n6 k6) := HSB.out.cell 6
  by_cases q0 : n0 = ln
  case neg =>
    have q0' : ¬ (n0 : Int) = (ln : Int) := by omega
    have hf : st = false := by rcases hno with h | h; exact h; exact absurd h.1 q0
    go_wp2
    go_ret
    exact ⟨ret_bool hf.symm, by (repeat' (first | (with_reducible exact Below.refl _ _) | (with_reducible assumption) | (with_reducible refine below_drewN ?_ _) | (with_reducible refine below_after (by assumption) ?_ ?_) | (with_reducible refine Below.drew ?_) | (with_reducible refine Below.alloc ?_ ?_ _) | (with_reducible refine Below.setCell ?_ ?_ _) | omega | (simp; omega) | (simp; done)))⟩
  by_cases q1 : n1 = ln
  case neg =>
    have q1' : ¬ (n1 : Int) = (ln : Int) := by omega
    have hf : st = false := by rcases hno with h | h; exact h; exact absurd h.2.1 q1
    go_wp2
    go_ret
    exact ⟨ret_bool hf.symm, by (repeat' (first | (with_reducible exact Below.refl _ _) | (with_reducible assumption) | (with_reducible refine below_drewN ?_ _) | (with_reducible refine below_after (by assumption) ?_ ?_) | (with_reducible refine Below.drew ?_) | (with_reducible refine Below.alloc ?_ ?_ _) | (with_reducible refine Below.setCell ?_ ?_ _) | omega | (simp; omega) | (simp; done)))⟩
  by_cases q2 : n2 = ln
  case neg =>
    have q2' : ¬ (n2 : Int) = (ln : Int) := by omega
    have hf : st = false := by rcases hno with h | h; exact h; exact absurd h.2.2.1 q2
    go_wp2
    go_ret
    exact ⟨ret_bool hf.symm, by (repeat' (first | (with_reducible exact Below.refl _ _) | (with_reducible assumption) | (with_reducible refine below_drewN ?_ _) | (with_reducible refine below_after (by assumption) ?_ ?_) | (with_reducible refine Below.drew ?_) | (with_reducible refine Below.alloc ?_ ?_ _) | (with_reducible refine Below.setCell ?_ ?_ _) | omega | (simp; omega) | (simp; done)))⟩
  by_cases q3 : n3 = sn
  case neg =>
    have q3' : ¬ (n3 : Int) = (sn : Int) := by omega
    have hf : st = false := by rcases hno with h | h; exact h; exact absurd h.2.2.2.1 q3
    go_wp2
    go_ret
    exact ⟨ret_bool hf.symm, by (repeat' (first | (with_reducible exact Below.refl _ _) | (with_reducible assumption) | (with_reducible refine below_drewN ?_ _) | (with_reducible refine below_after (by assumption) ?_ ?_) | (with_reducible refine Below.drew ?_) | (with_reducible refine Below.alloc ?_ ?_ _) | (with_reducible refine Below.setCell ?_ ?_ _) | omega | (simp; omega) | (simp; done)))⟩
  by_cases q4 : n4 = sn
  case neg =>
    have q4' : ¬ (n4 : Int) = (sn : Int) := by omega
    have hf : st = false := by rcases hno with h | h; exact h; exact absurd h.2.2.2.2.1 q4
    go_wp2
    go_ret
    exact ⟨ret_bool hf.symm, by (repeat' (first | (with_reducible exact Below.refl _ _) | (with_reducible assumption) | (with_reducible refine below_drewN ?_ _) | (with_reducible refine below_after (by assumption) ?_ ?_) | (with_reducible refine Below.drew ?_) | (with_reducible refine Below.alloc ?_ ?_ _) | (with_reducible refine Below.setCell ?_ ?_ _) | omega | (simp; omega) | (simp; done)))⟩
  by_cases q5 : (n5 : Int) = buses
  case neg =>
    have hf : st = false := by rcases hno with h | h; exact h; exact absurd h.2.2.2.2.2.1 q5
    go_wp2
    go_ret
    exact ⟨ret_bool hf.symm, by (repeat' (first | (with_reducible exact Below.refl _ _) | (with_reducible assumption) | (with_reducible refine below_drewN ?_ _) | (with_reducible refine below_after (by assumption) ?_ ?_) | (with_reducible refine Below.drew ?_) | (with_reducible refine Below.alloc ?_ ?_ _) | (with_reducible refine Below.setCell ?_ ?_ _) | omega | (simp; omega) | (simp; done)))⟩
  by_cases q6 : (n6 : Int) = buses
  case neg =>
    have hf : st = false := by rcases hno with h | h; exact h; exact absurd h.2.2.2.2.2.2 q6
    go_wp2
    go_ret
    exact ⟨ret_bool hf.symm, by (repeat' (first | (with_reducible exact Below.refl _ _) | (with_reducible assumption) | (with_reducible refine below_drewN ?_ _) | (with_reducible refine below_after (by assumption) ?_ ?_) | (with_reducible refine Below.drew ?_) | (with_reducible refine Below.alloc ?_ ?_ _) | (with_reducible refine Below.setCell ?_ ?_ _) | omega | (simp; omega) | (simp; done)))⟩
  have hs := hyes q0 q1 q2 q3 q4 q5 q6
  clear hyes hno
  subst hs
  subst q0 q1 q2 q3 q4
  go_wp2
  go_loopw [8] (fun i wr => ∃ k : Nat, k ≤ n2 ∧ i = .int .i64 k ∧ wr = W1 ∧ Hid (∀ i, i < k → ca i = true)) (fun i _ => n2 - (intOf i).toNat)
  case atStart => exact ⟨0, by omega, rfl, rfl, fun i hi => absurd hi (by omega)⟩
  obtain ⟨k, hk, rfl, rfl, hE⟩ := hrel
  by_cases hlt : k < n2
  · obtain ⟨b, off, x, rfl, hb, hx, hcx⟩ := (HP.out.below hBW).at_ hlt
    obtain ⟨c0, c1, c2, c3, c4, c5⟩ := Lnk.cells hcx
    obtain ⟨b1, off1, u, rfl, hb1, hu, hcu⟩ := (HC.out.below hBW).at_ (k := k) (by omega)
    obtain ⟨b2, off2, v, rfl, hb2, hv, hcv⟩ := (HL.out.below hBW).at_ (k := k) (by omega)
    have d1 := cellB hcu
    have d2 := cellB hcv
    have hat := cat.out k x u v hx hu hv
    have HX := Lib.hid hat
    have hll := hlen.out
    have hk0 : (0 : Int) ≤ (k : Int) := by omega
    have hkn : (k : Int) < (n2 : Int) := by omega
    clear hat hx hu hv hcx hcu hcv
    by_cases hkd : x.kind = 1
    · cases u
      · go_wp2
        go_ret
        exact ⟨ret_bool (cno k (by omega) (by rw [HX.out, decide_eq_true hkd]; rfl)).symm, hBW⟩
      · cases v
        · have hE' := Lib.hid (upto_succ hE.out (by rw [HX.out]; simp))
          clear hE HX
          go_wp2
          go_roundw
          case rel => exact ⟨k + 1, by omega, by go_num, by simp, hE'.out⟩
          case measure => simp [intOf]; omega
        · go_wp2
          go_ret
          exact ⟨ret_bool (cno k (by omega) (by rw [HX.out, decide_eq_true hkd]; rfl)).symm, hBW⟩
    · have hE' := Lib.hid (upto_succ hE.out (by rw [HX.out, decide_eq_false hkd]; simp))
      clear hE HX
      go_wp2
      go_roundw
      case rel => exact ⟨k + 1, by omega, by go_num, by simp, hE'.out⟩
      case measure => simp [intOf]; omega
  obtain rfl : n2 = k := by omega
  have h := cyes (fun i hi => hE.out i (by rw [hlen.out] at hi; omega))
  go_wp2
  go_ret
  exact ⟨ret_bool h.symm, hBW⟩
set_option maxRecDepth 100000 in
set_option maxHeartbeats 4000000 in
theorem refCheckState_any (p : Plt) (s : Stt) (w : World) (hp : PltIn w w.heap.size p) (hs : SttIn w w.heap.size s) :
    Calls Tryz.prog 12 #[p.val, s.val] w fun e w' => e = .returned (.int .i64 (checkState p s)) ∧ Below w.heap.size w w' := by
  have C := Lib.hid (fun W hp => refCheck_any p W hp)
  have V := Lib.hid (fun W hp hs => refValid_any p s W hp hs)
  have HP := Lib.hid hp
  have HS := Lib.hid hs
  clear hp hs
  obtain ⟨cv, hcv⟩ : ∃ q, checkState p s = q := ⟨_, rfl⟩
  rw [hcv]
  unfold Plt.val at C V ⊢
  unfold Stt.val at V ⊢
  have hB0 : Below w.heap.size w ((w.alloc (.cells (pBox0 p) 26)).alloc (.cells (sBox0 s) 29)) := by (repeat' (first | (with_reducible exact Below.refl _ _) | (with_reducible assumption) | (with_reducible refine below_drewN ?_ _) | (with_reducible refine below_after (by assumption) ?_ ?_) | (with_reducible refine Below.drew ?_) | (with_reducible refine Below.alloc ?_ ?_ _) | (with_reducible refine Below.setCell ?_ ?_ _) | omega | (simp; omega) | (simp; done)))
  have HPB : Hid (Blk ((w.alloc (.cells (pBox0 p) 26)).alloc (.cells (sBox0 s) 29)) w.heap.size 26 (pBox0 p)) := (show Blk _ _ _ _ from heap_alloc_new w (.cells (pBox0 p) 26)).alloc _
  have HSB : Hid (Blk ((w.alloc (.cells (pBox0 p) 26)).alloc (.cells (sBox0 s) 29)) (w.heap.size + 1) 29 (sBox0 s)) := by
    have := heap_alloc_new (w.alloc (.cells (pBox0 p) 26)) (.cells (sBox0 s) 29)
    rwa [World.size_alloc] at this
  go_enter Tryz.func12, Tryz.ntmps12
  go_wp2_with fail
  refine (C.out _ (HP.out.next hB0)).mono ?_
  rintro e w1 ⟨rfl, hB1⟩
  have hBw : Below w.heap.size w w1 := hB0.trans (hB1.mono (by simp; omega))
  have HPB1 := Lib.hid (HPB.out.below hB1 (Blk.lt HPB.out))
  have HSB1 := Lib.hid (HSB.out.below hB1 (Blk.lt HSB.out))
  clear hB0 HPB HSB hB1
  have x0 : w1.cell? ⟨w.heap.size, 0, none⟩ = some (.int .i64 p.buses) := HPB1.out.cell 0
  have x1 : w1.cell? ⟨w.heap.size, 1, none⟩ = some (.slice p.sA p.sn p.sc) := HPB1.out.cell 1
  have x2 : w1.cell? ⟨w.heap.size, 2, none⟩ = some (.slice p.lA p.ln p.lc) := HPB1.out.cell 2
  have x3 : w1.cell? ⟨w.heap.size, 3, none⟩ = some (.slice p.rA p.rn p.rc) := HPB1.out.cell 3
  have y0 : w1.cell? ⟨w.heap.size + 1, 0, none⟩ = some (.slice s.closed.A s.closed.n s.closed.c) := HSB1.out.cell 0
  have y1 : w1.cell? ⟨w.heap.size + 1, 1, none⟩ = some (.slice s.locked.A s.locked.n s.locked.c) := HSB1.out.cell 1
  have y2 : w1.cell? ⟨w.heap.size + 1, 2, none⟩ = some (.slice s.badLink.A s.badLink.n s.badLink.c) := HSB1.out.cell 2
  have y3 : w1.cell? ⟨w.heap.size + 1, 3, none⟩ = some (.slice s.on.A s.on.n s.on.c) := HSB1.out.cell 3
  have y4 : w1.cell? ⟨w.heap.size + 1, 4, none⟩ = some (.slice s.badSource.A s.badSource.n s.badSource.c) := HSB1.out.cell 4
  have y5 : w1.cell? ⟨w.heap.size + 1, 5, none⟩ = some (.slice s.earthed.A s.earthed.n s.earthed.c) := HSB1.out.cell 5
  have y6 : w1.cell? ⟨w.heap.size + 1, 6, none⟩ = some (.slice s.badBus.A s.badBus.n s.badBus.c) := HSB1.out.cell 6
  by_cases hc : check p = 0
  · have hr : Hid (cv = if stateOk p s then 0 else 9) := by
      show cv = _
      rw [← hcv]
      unfold checkState
      rw [if_pos hc]
    simp only [hc]
    clear hc hcv
    go_wp2_with fail
    refine (V.out _ (HP.out.next hBw) (HS.out.next hBw)).mono ?_
    rintro e w2 ⟨rfl, hB2⟩
    have hBw2 : Below w.heap.size w w2 := hBw.trans (hB2.mono hBw.size)
    obtain ⟨st, hst⟩ : ∃ q, stateOk p s = q := ⟨_, rfl⟩
    rw [hst] at hr ⊢
    clear hst
    cases st
    · go_wp2_with fail
      go_ret
      exact ⟨ret_int (by have := hr.out; simpa using this.symm), hBw2⟩
    · go_wp2_with fail
      go_ret
      exact ⟨ret_int (by have := hr.out; simpa using this.symm), hBw2⟩
  · have hr : cv = check p := by
      rw [← hcv]
      unfold checkState
      rw [if_neg hc]
    clear hcv
    go_wp2_with fail
    go_ret
    exact ⟨ret_int hr.symm, hBw⟩
end Go.Proofs.YtnngdcidopaabaaGreatDoor
