/- What Check asks of one number, one source: the closures and small functions of package plant. -/
import Derived.Test.YtcnmfblbfpcghaaGreatDoorProg
import Derived.Test.YtcnmfblbfpcghaaGreatDoorData
import Derived.WalkSpells
import Derived.WalkLawsBesides
import Derived.BigQuiet
import Derived.BigGuardPart
import Derived.Lib.Hide
import Derived.Deep.QuietTactic

set_option linter.unusedSimpArgs false
set_option linter.unusedVariables false
namespace Go.Proofs.YtcnmfblbfpcghaaGreatDoor
open Go.RowKit

def within (n lo hi : Int) : Bool := decide (lo ≤ n) && decide (n ≤ hi)
theorem within_any (n lo hi : Int) (w : World) : Calls Tryz.prog 82 #[.int .i64 n, .int .i64 lo, .int .i64 hi] w fun e w' => e = .returned (.bool (within n lo hi)) ∧ w = w' := by
  by_cases h1 : lo ≤ n
  · go_enter Tryz.func82, Tryz.ntmps82
    go_wp2
    go_ret
    exact ⟨ret_bool (by simp [within, h1]), rfl⟩
  · go_enter Tryz.func82, Tryz.ntmps82
    go_wp2
    go_ret
    exact ⟨ret_bool (by simp [within, h1]; omega), rfl⟩

/-- Is a number a bus? -/
def isBus (buses n : Int) : Bool := decide (0 ≤ n) && decide (n < buses)
theorem isBus_any (n buses : Int) (bp : Nat) (w : World) (hc : w.cell? ⟨bp, 0, none⟩ = some (.int .i64 buses)) :
    Calls Tryz.prog 74 #[.int .i64 n, .pointer (some ⟨bp, 0, none⟩)] w fun e w' => e = .returned (.bool (isBus buses n)) ∧ w = w' := by
  by_cases h1 : 0 ≤ n
  · go_enter Tryz.func74, Tryz.ntmps74
    go_wp2
    go_ret
    exact ⟨ret_bool (by simp [isBus, h1]), rfl⟩
  · go_enter Tryz.func74, Tryz.ntmps74
    go_wp2
    go_ret
    exact ⟨ret_bool (by simp [isBus, h1]; omega), rfl⟩

def srcOk (buses : Int) (x : Src) : Bool := isBus buses x.bus && within x.kind 1 3 && within x.power 1 100000 && within x.sync 0 8 && within x.ohm 10 100000
set_option maxHeartbeats 1000000 in
theorem rightSource_any (x : Src) (buses : Int) (bp : Nat) (w : World) (hb : bp < w.heap.size) (hc : w.cell? ⟨bp, 0, none⟩ = some (.int .i64 buses)) :
    Calls Tryz.prog 76 #[.agg #[.int .i64 x.bus, .int .i64 x.kind, .int .i64 x.power, .int .i64 x.sync, .int .i64 x.ohm], .func (.func 74) #[] #[.pointer (some ⟨bp, 0, none⟩)]] w
      fun e w' => e = .returned (.bool (srcOk buses x)) ∧ Below w.heap.size w w' := by
  go_enter Tryz.func76, Tryz.ntmps76
  go_wp2_with (first
    | (go_at_call 74; refine (isBus_any _ buses bp _ (by simpa [World.cell?_alloc_past _ _ _ hb] using hc)).mono ?_; rintro e w' ⟨rfl, rfl⟩)
    | (go_at_call 82; refine (within_any _ _ _ _).mono ?_; rintro e w' ⟨rfl, rfl⟩))
  all_goals (go_ret; exact ⟨ret_bool (by simp [srcOk, *]), by (repeat' (first | (with_reducible exact Below.refl _ _) | (with_reducible assumption) | (with_reducible refine below_drewN ?_ _) | (with_reducible refine below_after (by assumption) ?_ ?_) | (with_reducible refine Below.drew ?_) | (with_reducible refine Below.alloc ?_ ?_ _) | (with_reducible refine Below.setCell ?_ ?_ _) | omega | (simp; omega) | (simp; done)))⟩)

/-- Is the trip at a place right, and behind the one before it? -/
def tripAt (l : List Trp) (i : Nat) : Bool :=
  match l[i]? with
  | none => true
  | some x => within x.amps 1 1000000 && within x.millis 1 100000 && match i with
    | 0 => true
    | j + 1 => match l[j]? with
      | none => true
      | some y => decide (y.amps < x.amps) && decide (x.millis < y.millis)
def tripsOk (l : List Trp) : Bool := decide (l.length ≤ 6) && (List.range l.length).all (tripAt l)
theorem tripsOk_no {l : List Trp} {k : Nat} (hk : k < l.length) (h : tripAt l k = false) : tripsOk l = false := by
  unfold tripsOk
  rw [Bool.and_eq_false_iff]
  right
  rw [List.all_eq_false]
  exact ⟨k, by simpa using hk, by simp [h]⟩
theorem tripsOk_yes {l : List Trp} (hn : l.length ≤ 6) (h : ∀ i, i < l.length → tripAt l i = true) : tripsOk l = true := by
  simp [tripsOk, hn]
  exact h
section
variable {l : List Trp} {k : Nat} {x y : Trp}
theorem tripAt_no1 (hx : l[k]? = some x) (h : within x.amps 1 1000000 = false) : tripAt l k = false := by unfold tripAt; rw [hx]; simp only [h, Bool.false_and]
theorem tripAt_no2 (hx : l[k]? = some x) (h : (!within x.millis 1 100000) = true) : tripAt l k = false := by
  have h : within x.millis 1 100000 = false := by simpa using h
  unfold tripAt; rw [hx]; simp only [h, Bool.and_false, Bool.false_and]
theorem tripAt_no3 (hx : l[k + 1]? = some x) (hy : l[k]? = some y) (h : x.amps ≤ y.amps) : tripAt l (k + 1) = false := by
  have h : decide (y.amps < x.amps) = false := by simpa using h
  unfold tripAt; rw [hx]; simp only [hy, h, Bool.and_false, Bool.false_and]
theorem tripAt_no4 (hx : l[k + 1]? = some x) (hy : l[k]? = some y) (h : y.millis ≤ x.millis) : tripAt l (k + 1) = false := by
  have h : decide (x.millis < y.millis) = false := by simpa using h
  unfold tripAt; rw [hx]; simp only [hy, h, Bool.and_false]
theorem tripAt_yes0 (hx : l[0]? = some x) (h1 : within x.amps 1 1000000 = true) (h2 : (!within x.millis 1 100000) = false) : tripAt l 0 = true := by
  have h2 : within x.millis 1 100000 = true := by simpa using h2
  unfold tripAt; rw [hx]; simp only [h1, h2, Bool.and_true]
theorem tripAt_yes1 (hx : l[k + 1]? = some x) (hy : l[k]? = some y) (h1 : within x.amps 1 1000000 = true) (h2 : (!within x.millis 1 100000) = false) (h3 : y.amps < x.amps) (h4 : x.millis < y.millis) : tripAt l (k + 1) = true := by
  have h2 : within x.millis 1 100000 = true := by simpa using h2
  unfold tripAt; rw [hx]; simp only [hy, h1, h2, h3, h4, decide_true, Bool.and_true]
end
theorem upto_succ {p : Nat → Bool} {k : Nat} (h : ∀ i, i < k → p i = true) (hk : p k = true) : ∀ i, i < k + 1 → p i = true := by
  intro i hi
  rcases Nat.lt_or_ge i k with h' | h'
  · exact h i h'
  · obtain rfl : i = k := by omega
    exact hk
set_option maxHeartbeats 1000000 in
theorem rightTrips_any (A : Option Addr) (n c : Nat) (l : List Trp) (w : World) (hl : Rd w w.heap.size 2 Trp.enc A n l) (hn : n ≤ 9223372036854775807) :
    Calls Tryz.prog 117 #[.slice A n c] w fun e w' => e = .returned (.bool (tripsOk l)) ∧ Below w.heap.size w w' := by
  have hlen := hl.1
  by_cases h6 : n ≤ 6
  · go_enter Tryz.func117, Tryz.ntmps117
    go_wp2
    go_loopw [10] (fun i wr => ∃ k : Nat, k ≤ n ∧ i = .int .i64 k ∧ Below w.heap.size w wr ∧ Hid (∀ i, i < k → tripAt l i = true)) (fun i _ => n - (intOf i).toNat)
    case atStart => exact ⟨0, by omega, rfl, Below.refl _ _, fun i hi => absurd hi (by omega)⟩
    case round =>
      obtain ⟨k, hk, rfl, hB, hE⟩ := hrel
      have hz := hB.size
      by_cases hlt : k < n
      · obtain ⟨b, off, x, rfl, hb, hx, hcx⟩ := (hl.below hB).at_ hlt
        obtain ⟨c0, c1⟩ := Trp.cells hcx
        rcases k with _ | k
        · simp only [Nat.zero_mul, Nat.add_zero] at c0 c1
          go_wp2_with (go_at_call 82; refine (within_any _ _ _ _).mono ?_; rintro e w' ⟨rfl, rfl⟩)
          · go_ret
            exact ⟨ret_bool (tripsOk_no (k := 0) (by omega) (tripAt_no1 hx (by assumption))).symm, by (repeat' (first | (with_reducible exact Below.refl _ _) | (with_reducible assumption) | (with_reducible refine below_drewN ?_ _) | (with_reducible refine below_after (by assumption) ?_ ?_) | (with_reducible refine Below.drew ?_) | (with_reducible refine Below.alloc ?_ ?_ _) | (with_reducible refine Below.setCell ?_ ?_ _) | omega | (simp; omega) | (simp; done)))⟩
          · go_ret
            exact ⟨ret_bool (tripsOk_no (k := 0) (by omega) (tripAt_no2 hx (by assumption))).symm, by (repeat' (first | (with_reducible exact Below.refl _ _) | (with_reducible assumption) | (with_reducible refine below_drewN ?_ _) | (with_reducible refine below_after (by assumption) ?_ ?_) | (with_reducible refine Below.drew ?_) | (with_reducible refine Below.alloc ?_ ?_ _) | (with_reducible refine Below.setCell ?_ ?_ _) | omega | (simp; omega) | (simp; done)))⟩
          · have hE' := Lib.hid (upto_succ hE.out (tripAt_yes0 hx (by assumption) (by assumption)))
            clear hE
            go_quiet (fail)
            go_wp2
            go_roundw
            case rel => exact ⟨1, by omega, by go_num, by (repeat' (first | (with_reducible exact Below.refl _ _) | (with_reducible assumption) | (with_reducible refine below_drewN ?_ _) | (with_reducible refine below_after (by assumption) ?_ ?_) | (with_reducible refine Below.drew ?_) | (with_reducible refine Below.alloc ?_ ?_ _) | (with_reducible refine Below.setCell ?_ ?_ _) | omega | (simp; omega) | (simp; done))), hE'.out⟩
            case measure => simp [intOf]; omega
        · obtain ⟨b', off', y, e, _, hy, hcy⟩ := (hl.below hB).at_ (k := k) (by omega)
          obtain ⟨rfl, rfl⟩ : b = b' ∧ off = off' := by simpa using e
          obtain ⟨d0, d1⟩ := Trp.cells hcy
          have hwr : IntKind.i64.wrap (k : Int) = k := IntWalk.i64_in _ (by omega)
          have d0' : ∀ O, (wr.alloc O).cell? ⟨b, off + k * 2, none⟩ = some (.int .i64 y.amps) := fun O => (World.cell?_alloc_past _ _ _ (by omega)).trans d0
          have d1' : ∀ O, (wr.alloc O).cell? ⟨b, off + k * 2 + 1, none⟩ = some (.int .i64 y.millis) := fun O => (World.cell?_alloc_past _ _ _ (by omega)).trans d1
          have hi0 : (0 : Int) ≤ (k : Int) := by omega
          have hi1 : (k : Int) < (n : Int) := by omega
          go_wp2_with (go_at_call 82; refine (within_any _ _ _ _).mono ?_; rintro e w' ⟨rfl, rfl⟩)
          · go_ret
            exact ⟨ret_bool (tripsOk_no (k := k + 1) (by omega) (tripAt_no1 hx (by assumption))).symm, by (repeat' (first | (with_reducible exact Below.refl _ _) | (with_reducible assumption) | (with_reducible refine below_drewN ?_ _) | (with_reducible refine below_after (by assumption) ?_ ?_) | (with_reducible refine Below.drew ?_) | (with_reducible refine Below.alloc ?_ ?_ _) | (with_reducible refine Below.setCell ?_ ?_ _) | omega | (simp; omega) | (simp; done)))⟩
          · go_ret
            exact ⟨ret_bool (tripsOk_no (k := k + 1) (by omega) (tripAt_no2 hx (by assumption))).symm, by (repeat' (first | (with_reducible exact Below.refl _ _) | (with_reducible assumption) | (with_reducible refine below_drewN ?_ _) | (with_reducible refine below_after (by assumption) ?_ ?_) | (with_reducible refine Below.drew ?_) | (with_reducible refine Below.alloc ?_ ?_ _) | (with_reducible refine Below.setCell ?_ ?_ _) | omega | (simp; omega) | (simp; done)))⟩
          · by_cases g1 : x.amps ≤ y.amps
            · go_quiet (fail)
              go_wp2
              go_ret
              exact ⟨ret_bool (tripsOk_no (k := k + 1) (by omega) (tripAt_no3 hx hy (by assumption))).symm, by (repeat' (first | (with_reducible exact Below.refl _ _) | (with_reducible assumption) | (with_reducible refine below_drewN ?_ _) | (with_reducible refine below_after (by assumption) ?_ ?_) | (with_reducible refine Below.drew ?_) | (with_reducible refine Below.alloc ?_ ?_ _) | (with_reducible refine Below.setCell ?_ ?_ _) | omega | (simp; omega) | (simp; done)))⟩
            · by_cases g2 : y.millis ≤ x.millis
              · go_quiet (fail)
                go_wp2
                go_ret
                exact ⟨ret_bool (tripsOk_no (k := k + 1) (by omega) (tripAt_no4 hx hy (by assumption))).symm, by (repeat' (first | (with_reducible exact Below.refl _ _) | (with_reducible assumption) | (with_reducible refine below_drewN ?_ _) | (with_reducible refine below_after (by assumption) ?_ ?_) | (with_reducible refine Below.drew ?_) | (with_reducible refine Below.alloc ?_ ?_ _) | (with_reducible refine Below.setCell ?_ ?_ _) | omega | (simp; omega) | (simp; done)))⟩
              · have hE' := Lib.hid (upto_succ hE.out (tripAt_yes1 hx hy (by assumption) (by assumption) (by omega) (by omega)))
                clear hE
                go_quiet (fail)
                go_wp2
                go_roundw
                case rel => exact ⟨k + 2, by omega, by go_num, by (repeat' (first | (with_reducible exact Below.refl _ _) | (with_reducible assumption) | (with_reducible refine below_drewN ?_ _) | (with_reducible refine below_after (by assumption) ?_ ?_) | (with_reducible refine Below.drew ?_) | (with_reducible refine Below.alloc ?_ ?_ _) | (with_reducible refine Below.setCell ?_ ?_ _) | omega | (simp; omega) | (simp; done))), hE'.out⟩
                case measure => simp [intOf]; omega
      · go_wp2
        go_ret
        exact ⟨ret_bool (tripsOk_yes (by omega) (fun i hi => hE.out i (by omega))).symm, hB⟩
  · go_enter Tryz.func117, Tryz.ntmps117
    go_wp2
    go_ret
    exact ⟨ret_bool (by simp [tripsOk, hlen]; omega), Below.refl _ _⟩
end Go.Proofs.YtcnmfblbfpcghaaGreatDoor
