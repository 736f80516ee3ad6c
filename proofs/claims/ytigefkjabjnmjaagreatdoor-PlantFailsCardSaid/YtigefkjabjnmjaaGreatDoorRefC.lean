/- The reference's Check. -/
import Derived.Test.YtigefkjabjnmjaaGreatDoorCheck4
import Derived.Test.YtigefkjabjnmjaaGreatDoorFree
namespace Go.Proofs.YtigefkjabjnmjaaGreatDoor
open Go.RowKit

def pBox0 (p : Plt) : Array Value := #[.int .i64 p.buses, .slice p.sA p.sn p.sc, .slice p.lA p.ln p.lc, .slice p.rA p.rn p.rc]
def lnkBase (buses : Int) (x : Lnk) : Bool := isBus buses x.a && isBus buses x.b && decide (x.a ≠ x.b) && within x.kind 1 3 && within x.most 1 100000 && within x.ohm 10 100000
theorem lnkOk_base (buses : Int) (x : Lnk) : lnkOk buses x = (lnkBase buses x && (decide (x.kind = 3) || decide (x.tn = 0)) && tripsOk x.trip) := rfl
theorem within_yes {n lo hi : Int} (h1 : ¬ n < lo) (h2 : ¬ hi < n) : within n lo hi = true := by
  simp [within]
  omega
set_option maxRecDepth 100000 in
set_option maxHeartbeats 4000000 in
theorem refLink_no (p : Plt) (x : Lnk) (w : World) (hb : lnkBase p.buses x = false) :
    Calls Tryz.prog 56 #[p.val, x.val] w fun e w' => e = .returned (.bool false) ∧ Below w.heap.size w w' := by
  unfold Plt.val Lnk.val
  by_cases q1 : x.a < 0
  · go_enter Tryz.func56, Tryz.ntmps56
    go_wp2
    go_ret
    exact ⟨rfl, by (repeat' (first | (with_reducible exact Below.refl _ _) | (with_reducible assumption) | (with_reducible refine below_drewN ?_ _) | (with_reducible refine below_after (by assumption) ?_ ?_) | (with_reducible refine Below.drew ?_) | (with_reducible refine Below.alloc ?_ ?_ _) | (with_reducible refine Below.setCell ?_ ?_ _) | omega | (simp; omega) | (simp; done)))⟩
  by_cases q2 : p.buses ≤ x.a
  · go_enter Tryz.func56, Tryz.ntmps56
    go_wp2
    go_ret
    exact ⟨rfl, by (repeat' (first | (with_reducible exact Below.refl _ _) | (with_reducible assumption) | (with_reducible refine below_drewN ?_ _) | (with_reducible refine below_after (by assumption) ?_ ?_) | (with_reducible refine Below.drew ?_) | (with_reducible refine Below.alloc ?_ ?_ _) | (with_reducible refine Below.setCell ?_ ?_ _) | omega | (simp; omega) | (simp; done)))⟩
  by_cases q3 : x.b < 0
  · go_enter Tryz.func56, Tryz.ntmps56
    go_wp2
    go_ret
    exact ⟨rfl, by (repeat' (first | (with_reducible exact Below.refl _ _) | (with_reducible assumption) | (with_reducible refine below_drewN ?_ _) | (with_reducible refine below_after (by assumption) ?_ ?_) | (with_reducible refine Below.drew ?_) | (with_reducible refine Below.alloc ?_ ?_ _) | (with_reducible refine Below.setCell ?_ ?_ _) | omega | (simp; omega) | (simp; done)))⟩
  by_cases q4 : p.buses ≤ x.b
  · go_enter Tryz.func56, Tryz.ntmps56
    go_wp2
    go_ret
    exact ⟨rfl, by (repeat' (first | (with_reducible exact Below.refl _ _) | (with_reducible assumption) | (with_reducible refine below_drewN ?_ _) | (with_reducible refine below_after (by assumption) ?_ ?_) | (with_reducible refine Below.drew ?_) | (with_reducible refine Below.alloc ?_ ?_ _) | (with_reducible refine Below.setCell ?_ ?_ _) | omega | (simp; omega) | (simp; done)))⟩
  by_cases q5 : x.a = x.b
  · go_enter Tryz.func56, Tryz.ntmps56
    go_wp2
    go_ret
    exact ⟨rfl, by (repeat' (first | (with_reducible exact Below.refl _ _) | (with_reducible assumption) | (with_reducible refine below_drewN ?_ _) | (with_reducible refine below_after (by assumption) ?_ ?_) | (with_reducible refine Below.drew ?_) | (with_reducible refine Below.alloc ?_ ?_ _) | (with_reducible refine Below.setCell ?_ ?_ _) | omega | (simp; omega) | (simp; done)))⟩
  by_cases q6 : x.kind < 1
  · go_enter Tryz.func56, Tryz.ntmps56
    go_wp2
    go_ret
    exact ⟨rfl, by (repeat' (first | (with_reducible exact Below.refl _ _) | (with_reducible assumption) | (with_reducible refine below_drewN ?_ _) | (with_reducible refine below_after (by assumption) ?_ ?_) | (with_reducible refine Below.drew ?_) | (with_reducible refine Below.alloc ?_ ?_ _) | (with_reducible refine Below.setCell ?_ ?_ _) | omega | (simp; omega) | (simp; done)))⟩
  by_cases q7 : 3 < x.kind
  · go_enter Tryz.func56, Tryz.ntmps56
    go_wp2
    go_ret
    exact ⟨rfl, by (repeat' (first | (with_reducible exact Below.refl _ _) | (with_reducible assumption) | (with_reducible refine below_drewN ?_ _) | (with_reducible refine below_after (by assumption) ?_ ?_) | (with_reducible refine Below.drew ?_) | (with_reducible refine Below.alloc ?_ ?_ _) | (with_reducible refine Below.setCell ?_ ?_ _) | omega | (simp; omega) | (simp; done)))⟩
  by_cases q8 : x.most < 1
  · go_enter Tryz.func56, Tryz.ntmps56
    go_wp2
    go_ret
    exact ⟨rfl, by (repeat' (first | (with_reducible exact Below.refl _ _) | (with_reducible assumption) | (with_reducible refine below_drewN ?_ _) | (with_reducible refine below_after (by assumption) ?_ ?_) | (with_reducible refine Below.drew ?_) | (with_reducible refine Below.alloc ?_ ?_ _) | (with_reducible refine Below.setCell ?_ ?_ _) | omega | (simp; omega) | (simp; done)))⟩
  by_cases q9 : 100000 < x.most
  · go_enter Tryz.func56, Tryz.ntmps56
    go_wp2
    go_ret
    exact ⟨rfl, by (repeat' (first | (with_reducible exact Below.refl _ _) | (with_reducible assumption) | (with_reducible refine below_drewN ?_ _) | (with_reducible refine below_after (by assumption) ?_ ?_) | (with_reducible refine Below.drew ?_) | (with_reducible refine Below.alloc ?_ ?_ _) | (with_reducible refine Below.setCell ?_ ?_ _) | omega | (simp; omega) | (simp; done)))⟩
  by_cases q10 : x.ohm < 10
  · go_enter Tryz.func56, Tryz.ntmps56
    go_wp2
    go_ret
    exact ⟨rfl, by (repeat' (first | (with_reducible exact Below.refl _ _) | (with_reducible assumption) | (with_reducible refine below_drewN ?_ _) | (with_reducible refine below_after (by assumption) ?_ ?_) | (with_reducible refine Below.drew ?_) | (with_reducible refine Below.alloc ?_ ?_ _) | (with_reducible refine Below.setCell ?_ ?_ _) | omega | (simp; omega) | (simp; done)))⟩
  by_cases q11 : 100000 < x.ohm
  · go_enter Tryz.func56, Tryz.ntmps56
    go_wp2
    go_ret
    exact ⟨rfl, by (repeat' (first | (with_reducible exact Below.refl _ _) | (with_reducible assumption) | (with_reducible refine below_drewN ?_ _) | (with_reducible refine below_after (by assumption) ?_ ?_) | (with_reducible refine Below.drew ?_) | (with_reducible refine Below.alloc ?_ ?_ _) | (with_reducible refine Below.setCell ?_ ?_ _) | omega | (simp; omega) | (simp; done)))⟩
  exfalso
  have : lnkBase p.buses x = true := by
    simp [lnkBase, isBus, within_yes q6 q7, within_yes q8 q9, within_yes q10 q11, q5]
    omega
  rw [this] at hb
  cases hb
set_option maxRecDepth 100000 in
set_option maxHeartbeats 4000000 in
theorem refLink_any (p : Plt) (x : Lnk) (w : World) (ht : Rd w w.heap.size 2 Trp.enc x.tA x.tn x.trip) (hn : x.tn ≤ 9223372036854775807) :
    Calls Tryz.prog 56 #[p.val, x.val] w fun e w' => e = .returned (.bool (lnkOk p.buses x)) ∧ Below w.heap.size w w' := by
  by_cases hb : lnkBase p.buses x = true
  case neg =>
    have hb : lnkBase p.buses x = false := by simpa using hb
    rw [lnkOk_base, hb]
    simpa using refLink_no p x w hb
  have hlen := Lib.hid ht.1
  have HB := Lib.hid hb
  have HT := Lib.hid ht
  simp only [lnkBase, isBus, within, Bool.and_eq_true, decide_eq_true_eq] at hb
  obtain ⟨⟨⟨⟨⟨⟨a0, a1⟩, b0, b1⟩, ne0⟩, k1, k2⟩, m1, m2⟩, o1, o2⟩ := hb
  have ne : ¬ x.a = x.b := ne0
  have g0 : ¬ x.a < 0 := by omega
  have g1 : ¬ p.buses ≤ x.a := by omega
  have g2 : ¬ x.b < 0 := by omega
  have g3 : ¬ p.buses ≤ x.b := by omega
  have g4 : ¬ x.kind < 1 := by omega
  have g5 : ¬ 3 < x.kind := by omega
  have g6 : ¬ x.most < 1 := by omega
  have g7 : ¬ 100000 < x.most := by omega
  have g8 : ¬ x.ohm < 10 := by omega
  have g9 : ¬ 100000 < x.ohm := by omega
  clear ne0 a0 a1 b0 b1 k1 k2 m1 m2 o1 o2 ht
  by_cases t6 : (6 : Int) < (x.tn : Int)
  · unfold Plt.val Lnk.val
    go_enter Tryz.func56, Tryz.ntmps56
    go_wp2
    go_ret
    exact ⟨ret_bool (by rw [lnkOk_base]; simp [tripsOk, hlen.out]; omega), by (repeat' (first | (with_reducible exact Below.refl _ _) | (with_reducible assumption) | (with_reducible refine below_drewN ?_ _) | (with_reducible refine below_after (by assumption) ?_ ?_) | (with_reducible refine Below.drew ?_) | (with_reducible refine Below.alloc ?_ ?_ _) | (with_reducible refine Below.setCell ?_ ?_ _) | omega | (simp; omega) | (simp; done)))⟩
  by_cases tk : (0 : Int) < (x.tn : Int) ∧ ¬ x.kind = 3
  · obtain ⟨t0, k3⟩ := tk
    have t0' : 0 < x.tn := by omega
    unfold Plt.val Lnk.val
    go_enter Tryz.func56, Tryz.ntmps56
    go_wp2
    go_ret
    exact ⟨ret_bool (by rw [lnkOk_base]; simp [k3]; omega), by (repeat' (first | (with_reducible exact Below.refl _ _) | (with_reducible assumption) | (with_reducible refine below_drewN ?_ _) | (with_reducible refine below_after (by assumption) ?_ ?_) | (with_reducible refine Below.drew ?_) | (with_reducible refine Below.alloc ?_ ?_ _) | (with_reducible refine Below.setCell ?_ ?_ _) | omega | (simp; omega) | (simp; done)))⟩
  have hk3 : (decide (x.kind = 3) || decide (x.tn = 0)) = true := by
    simp only [Bool.or_eq_true, decide_eq_true_eq]
    omega
  have hbad : ∀ k, k < x.trip.length → tripAt x.trip k = false → lnkOk p.buses x = false := fun k hk h => by rw [lnkOk_base, tripsOk_no hk h]; simp
  have hgood : (∀ i, i < x.trip.length → tripAt x.trip i = true) → lnkOk p.buses x = true := fun h => by
    rw [lnkOk_base, HB.out, hk3, tripsOk_yes (by rw [hlen.out]; omega) h]
    rfl
  obtain ⟨lk, hlk⟩ : ∃ q, lnkOk p.buses x = q := ⟨_, rfl⟩
  rw [hlk] at hbad hgood ⊢
  unfold Plt.val Lnk.val
  obtain ⟨a, b, kind, most, ohm, tA, tn, tc, trip⟩ := x
  dsimp only at *
  clear hlk HB hk3
  have t6' : (tn : Int) ≤ 6 := by omega
  have hX : Blk ((w.alloc (.cells (pBox0 p) 26)).alloc (.cells #[.int .i64 a, .int .i64 b, .int .i64 kind, .int .i64 most, .int .i64 ohm, .slice tA tn tc] 73)) (w.heap.size + 1) 73 #[.int .i64 a, .int .i64 b, .int .i64 kind, .int .i64 most, .int .i64 ohm, .slice tA tn tc] := by
    have := heap_alloc_new (w.alloc (.cells (pBox0 p) 26)) (.cells #[.int .i64 a, .int .i64 b, .int .i64 kind, .int .i64 most, .int .i64 ohm, .slice tA tn tc] 73)
    rwa [World.size_alloc] at this
  have HXB := Lib.hid hX
  have hBw0 : Below w.heap.size w ((w.alloc (.cells (pBox0 p) 26)).alloc (.cells #[.int .i64 a, .int .i64 b, .int .i64 kind, .int .i64 most, .int .i64 ohm, .slice tA tn tc] 73)) := by (repeat' (first | (with_reducible exact Below.refl _ _) | (with_reducible assumption) | (with_reducible refine below_drewN ?_ _) | (with_reducible refine below_after (by assumption) ?_ ?_) | (with_reducible refine Below.drew ?_) | (with_reducible refine Below.alloc ?_ ?_ _) | (with_reducible refine Below.setCell ?_ ?_ _) | omega | (simp; omega) | (simp; done)))
  clear hX
  have hloop : (0 : Int) < (tn : Int) ∧ 0 < tn ∧ kind = 3 ∨ ¬ (0 : Int) < (tn : Int) ∧ ¬ 0 < tn := by omega
  go_enter Tryz.func56, Tryz.ntmps56
  rcases hloop with ⟨t0, t0', rfl⟩ | ⟨t0, t0'⟩
  · go_wp2
    go_loopw [5] (fun i wr => ∃ k : Nat, k ≤ tn ∧ i = .int .i64 k ∧ Below ((w.alloc (.cells (pBox0 p) 26)).alloc (.cells #[.int .i64 a, .int .i64 b, .int .i64 3, .int .i64 most, .int .i64 ohm, .slice tA tn tc] 73)).heap.size ((w.alloc (.cells (pBox0 p) 26)).alloc (.cells #[.int .i64 a, .int .i64 b, .int .i64 3, .int .i64 most, .int .i64 ohm, .slice tA tn tc] 73)) wr ∧ Hid (∀ i, i < k → tripAt trip i = true)) (fun i _ => tn - (intOf i).toNat)
    case atStart => exact ⟨0, by omega, rfl, Below.refl _ _, fun i hi => absurd hi (by omega)⟩
    case round =>
      obtain ⟨k, hk, rfl, hB, hE⟩ := hrel
      have hz := hB.size
      simp only [World.size_alloc] at hz
      have hBw : Below w.heap.size w wr := hBw0.trans (hB.mono (by simp; omega))
      have x5 : wr.cell? ⟨w.heap.size + 1, 5, none⟩ = some (.slice tA tn tc) := (Blk.below HXB.out hB (Blk.lt HXB.out)).cell 5
      have x5' : ∀ O, (wr.alloc O).cell? ⟨w.heap.size + 1, 5, none⟩ = some (.slice tA tn tc) := fun O => (World.cell?_alloc_past _ _ _ (by omega)).trans x5
      have hlen' := hlen.out
      by_cases hlt : k < tn
      · obtain ⟨bb, off, z, rfl, hbb, hx, hcx⟩ := (HT.out.below hBw).at_ hlt
        obtain ⟨c0, c1⟩ := Trp.cells hcx
        rcases k with _ | k
        · simp only [Nat.zero_mul, Nat.add_zero] at c0 c1
          have HX := Lib.hid hx
          clear hx hcx
          by_cases q1 : z.amps < 1
          · go_wp2
            go_ret
            exact ⟨ret_bool (hbad (0) (by omega) (tripAt_no1 HX.out (by simp [within]; omega))).symm, by (repeat' (first | (with_reducible exact Below.refl _ _) | (with_reducible assumption) | (with_reducible refine below_drewN ?_ _) | (with_reducible refine below_after (by assumption) ?_ ?_) | (with_reducible refine Below.drew ?_) | (with_reducible refine Below.alloc ?_ ?_ _) | (with_reducible refine Below.setCell ?_ ?_ _) | omega | (simp; omega) | (simp; done)))⟩
          by_cases q2 : 1000000 < z.amps
          · go_wp2
            go_ret
            exact ⟨ret_bool (hbad (0) (by omega) (tripAt_no1 HX.out (by simp [within]; omega))).symm, by (repeat' (first | (with_reducible exact Below.refl _ _) | (with_reducible assumption) | (with_reducible refine below_drewN ?_ _) | (with_reducible refine below_after (by assumption) ?_ ?_) | (with_reducible refine Below.drew ?_) | (with_reducible refine Below.alloc ?_ ?_ _) | (with_reducible refine Below.setCell ?_ ?_ _) | omega | (simp; omega) | (simp; done)))⟩
          have w1 := within_yes q1 q2
          by_cases q3 : z.millis < 1
          · go_wp2
            go_ret
            exact ⟨ret_bool (hbad (0) (by omega) (tripAt_no2 HX.out (by simp [within]; omega))).symm, by (repeat' (first | (with_reducible exact Below.refl _ _) | (with_reducible assumption) | (with_reducible refine below_drewN ?_ _) | (with_reducible refine below_after (by assumption) ?_ ?_) | (with_reducible refine Below.drew ?_) | (with_reducible refine Below.alloc ?_ ?_ _) | (with_reducible refine Below.setCell ?_ ?_ _) | omega | (simp; omega) | (simp; done)))⟩
          by_cases q4 : 100000 < z.millis
          · go_wp2
            go_ret
            exact ⟨ret_bool (hbad (0) (by omega) (tripAt_no2 HX.out (by simp [within]; omega))).symm, by (repeat' (first | (with_reducible exact Below.refl _ _) | (with_reducible assumption) | (with_reducible refine below_drewN ?_ _) | (with_reducible refine below_after (by assumption) ?_ ?_) | (with_reducible refine Below.drew ?_) | (with_reducible refine Below.alloc ?_ ?_ _) | (with_reducible refine Below.setCell ?_ ?_ _) | omega | (simp; omega) | (simp; done)))⟩
          have w2 : (!within z.millis 1 100000) = false := by simp [within_yes q3 q4]
          have HW1 := Lib.hid w1
          have HW2 := Lib.hid w2
          clear w1 w2
          have hE' := Lib.hid (upto_succ hE.out (tripAt_yes0 HX.out HW1.out HW2.out))
          clear hE
          go_wp2
          go_quiet (fail)
          go_wp2
          go_roundw
          case rel => exact ⟨1, by omega, by go_num, by (repeat' (first | (with_reducible exact Below.refl _ _) | (with_reducible assumption) | (with_reducible refine below_drewN ?_ _) | (with_reducible refine below_after (by assumption) ?_ ?_) | (with_reducible refine Below.drew ?_) | (with_reducible refine Below.alloc ?_ ?_ _) | (with_reducible refine Below.setCell ?_ ?_ _) | omega | (simp; omega) | (simp; done))), hE'.out⟩
          case measure => simp [intOf]; omega
        · obtain ⟨b', off', y, e, _, hy, hcy⟩ := (HT.out.below hBw).at_ (k := k) (by omega)
          obtain ⟨rfl, rfl⟩ : bb = b' ∧ off = off' := by simpa using e
          obtain ⟨d0, d1⟩ := Trp.cells hcy
          have hwr : IntKind.i64.wrap (k : Int) = k := IntWalk.i64_in _ (by omega)
          have d0' : ∀ O, (wr.alloc O).cell? ⟨bb, off + k * 2, none⟩ = some (.int .i64 y.amps) := fun O => (World.cell?_alloc_past _ _ _ (by omega)).trans d0
          have d1' : ∀ O, (wr.alloc O).cell? ⟨bb, off + k * 2 + 1, none⟩ = some (.int .i64 y.millis) := fun O => (World.cell?_alloc_past _ _ _ (by omega)).trans d1
          have hi0 : (0 : Int) ≤ (k : Int) := by omega
          have hi1 : (k : Int) < (tn : Int) := by omega
          have HY := Lib.hid hy
          clear hy hcy
          have HX := Lib.hid hx
          clear hx hcx
          by_cases q1 : z.amps < 1
          · go_wp2
            go_ret
            exact ⟨ret_bool (hbad (k + 1) (by omega) (tripAt_no1 HX.out (by simp [within]; omega))).symm, by (repeat' (first | (with_reducible exact Below.refl _ _) | (with_reducible assumption) | (with_reducible refine below_drewN ?_ _) | (with_reducible refine below_after (by assumption) ?_ ?_) | (with_reducible refine Below.drew ?_) | (with_reducible refine Below.alloc ?_ ?_ _) | (with_reducible refine Below.setCell ?_ ?_ _) | omega | (simp; omega) | (simp; done)))⟩
          by_cases q2 : 1000000 < z.amps
          · go_wp2
            go_ret
            exact ⟨ret_bool (hbad (k + 1) (by omega) (tripAt_no1 HX.out (by simp [within]; omega))).symm, by (repeat' (first | (with_reducible exact Below.refl _ _) | (with_reducible assumption) | (with_reducible refine below_drewN ?_ _) | (with_reducible refine below_after (by assumption) ?_ ?_) | (with_reducible refine Below.drew ?_) | (with_reducible refine Below.alloc ?_ ?_ _) | (with_reducible refine Below.setCell ?_ ?_ _) | omega | (simp; omega) | (simp; done)))⟩
          have w1 := within_yes q1 q2
          by_cases q3 : z.millis < 1
          · go_wp2
            go_ret
            exact ⟨ret_bool (hbad (k + 1) (by omega) (tripAt_no2 HX.out (by simp [within]; omega))).symm, by (repeat' (first | (with_reducible exact Below.refl _ _) | (with_reducible assumption) | (with_reducible refine below_drewN ?_ _) | (with_reducible refine below_after (by assumption) ?_ ?_) | (with_reducible refine Below.drew ?_) | (with_reducible refine Below.alloc ?_ ?_ _) | (with_reducible refine Below.setCell ?_ ?_ _) | omega | (simp; omega) | (simp; done)))⟩
          by_cases q4 : 100000 < z.millis
          · go_wp2
            go_ret
            exact ⟨ret_bool (hbad (k + 1) (by omega) (tripAt_no2 HX.out (by simp [within]; omega))).symm, by (repeat' (first | (with_reducible exact Below.refl _ _) | (with_reducible assumption) | (with_reducible refine below_drewN ?_ _) | (with_reducible refine below_after (by assumption) ?_ ?_) | (with_reducible refine Below.drew ?_) | (with_reducible refine Below.alloc ?_ ?_ _) | (with_reducible refine Below.setCell ?_ ?_ _) | omega | (simp; omega) | (simp; done)))⟩
          have w2 : (!within z.millis 1 100000) = false := by simp [within_yes q3 q4]
          have HW1 := Lib.hid w1
          have HW2 := Lib.hid w2
          clear w1 w2
          by_cases g1 : z.amps ≤ y.amps
          · go_wp2
            go_quiet (fail)
            go_wp2
            go_ret
            exact ⟨ret_bool (hbad (k + 1) (by omega) (tripAt_no3 HX.out HY.out g1)).symm, by (repeat' (first | (with_reducible exact Below.refl _ _) | (with_reducible assumption) | (with_reducible refine below_drewN ?_ _) | (with_reducible refine below_after (by assumption) ?_ ?_) | (with_reducible refine Below.drew ?_) | (with_reducible refine Below.alloc ?_ ?_ _) | (with_reducible refine Below.setCell ?_ ?_ _) | omega | (simp; omega) | (simp; done)))⟩
          by_cases g2 : y.millis ≤ z.millis
          · go_wp2
            go_quiet (fail)
            go_wp2
            go_ret
            exact ⟨ret_bool (hbad (k + 1) (by omega) (tripAt_no4 HX.out HY.out g2)).symm, by (repeat' (first | (with_reducible exact Below.refl _ _) | (with_reducible assumption) | (with_reducible refine below_drewN ?_ _) | (with_reducible refine below_after (by assumption) ?_ ?_) | (with_reducible refine Below.drew ?_) | (with_reducible refine Below.alloc ?_ ?_ _) | (with_reducible refine Below.setCell ?_ ?_ _) | omega | (simp; omega) | (simp; done)))⟩
          have hE' := Lib.hid (upto_succ hE.out (tripAt_yes1 HX.out HY.out HW1.out HW2.out (by omega) (by omega)))
          clear hE
          go_wp2
          go_quiet (fail)
          go_wp2
          go_roundw
          case rel => exact ⟨k + 2, by omega, by go_num, by (repeat' (first | (with_reducible exact Below.refl _ _) | (with_reducible assumption) | (with_reducible refine below_drewN ?_ _) | (with_reducible refine below_after (by assumption) ?_ ?_) | (with_reducible refine Below.drew ?_) | (with_reducible refine Below.alloc ?_ ?_ _) | (with_reducible refine Below.setCell ?_ ?_ _) | omega | (simp; omega) | (simp; done))), hE'.out⟩
          case measure => simp [intOf]; omega
      · go_wp2
        go_ret
        exact ⟨ret_bool (hgood (fun i hi => hE.out i (by omega))).symm, by (repeat' (first | (with_reducible exact Below.refl _ _) | (with_reducible assumption) | (with_reducible refine below_drewN ?_ _) | (with_reducible refine below_after (by assumption) ?_ ?_) | (with_reducible refine Below.drew ?_) | (with_reducible refine Below.alloc ?_ ?_ _) | (with_reducible refine Below.setCell ?_ ?_ _) | omega | (simp; omega) | (simp; done)))⟩
  · go_wp2
    go_loopw [5] (fun i wr => i = .int .i64 0 ∧ wr = ((w.alloc (.cells (pBox0 p) 26)).alloc (.cells #[.int .i64 a, .int .i64 b, .int .i64 kind, .int .i64 most, .int .i64 ohm, .slice tA tn tc] 73))) (fun i _ => 0)
    case atStart => exact ⟨rfl, rfl⟩
    case round =>
      obtain ⟨rfl, rfl⟩ := hrel
      have x5 : ((w.alloc (.cells (pBox0 p) 26)).alloc (.cells #[.int .i64 a, .int .i64 b, .int .i64 kind, .int .i64 most, .int .i64 ohm, .slice tA tn tc] 73)).cell? ⟨w.heap.size + 1, 5, none⟩ = some (.slice tA tn tc) := HXB.out.cell 5
      go_wp2
      go_ret
      exact ⟨ret_bool (hgood (fun i hi => absurd hi (by rw [hlen.out]; omega))).symm, by (repeat' (first | (with_reducible exact Below.refl _ _) | (with_reducible assumption) | (with_reducible refine below_drewN ?_ _) | (with_reducible refine below_after (by assumption) ?_ ?_) | (with_reducible refine Below.drew ?_) | (with_reducible refine Below.alloc ?_ ?_ _) | (with_reducible refine Below.setCell ?_ ?_ _) | omega | (simp; omega) | (simp; done)))⟩
end Go.Proofs.YtigefkjabjnmjaaGreatDoor
