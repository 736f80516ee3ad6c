/- What Check asks of a link, of a rack; the closures that Check hands on. -/
import Derived.Test.YtcnmfblbfpcghaaGreatDoorCheck1

set_option linter.unusedSimpArgs false
set_option linter.unusedVariables false
namespace Go.Proofs.YtcnmfblbfpcghaaGreatDoor
open Go.RowKit

def lnkOk (buses : Int) (x : Lnk) : Bool :=
  isBus buses x.a && isBus buses x.b && decide (x.a ≠ x.b) && within x.kind 1 3 && within x.most 1 100000 && within x.ohm 10 100000 && (decide (x.kind = 3) || decide (x.tn = 0)) && tripsOk x.trip
def Lnk.val (x : Lnk) : Value := .agg #[.int .i64 x.a, .int .i64 x.b, .int .i64 x.kind, .int .i64 x.most, .int .i64 x.ohm, .slice x.tA x.tn x.tc]
set_option maxRecDepth 100000 in
set_option maxHeartbeats 2000000 in
theorem rightLink_any (x : Lnk) (buses : Int) (bp : Nat) (w : World) (hb : bp < w.heap.size) (hc : w.cell? ⟨bp, 0, none⟩ = some (.int .i64 buses))
    (ht : Rd w w.heap.size 2 Trp.enc x.tA x.tn x.trip) (hn : x.tn ≤ 9223372036854775807) :
    Calls Tryz.prog 78 #[x.val, .func (.func 74) #[] #[.pointer (some ⟨bp, 0, none⟩)]] w
      fun e w' => e = .returned (.bool (lnkOk buses x)) ∧ Below w.heap.size w w' := by
  unfold Lnk.val
  have HT := Lib.hid ht
  clear ht
  go_enter Tryz.func78, Tryz.ntmps78
  go_wp2_with (first
    | (go_at_call 74; refine (isBus_any _ buses bp _ (by simpa [World.cell?_alloc_past _ _ _ hb] using hc)).mono ?_; rintro e w' ⟨rfl, rfl⟩)
    | (go_at_call 82; refine (within_any _ _ _ _).mono ?_; rintro e w' ⟨rfl, rfl⟩)
    | (go_at_call 117; refine (rightTrips_any _ _ _ x.trip _ (HT.out.next (by (repeat' (first | (with_reducible exact Below.refl _ _) | (with_reducible assumption) | (with_reducible refine below_drewN ?_ _) | (with_reducible refine below_after (by assumption) ?_ ?_) | (with_reducible refine Below.drew ?_) | (with_reducible refine Below.alloc ?_ ?_ _) | (with_reducible refine Below.setCell ?_ ?_ _) | omega | (simp; omega) | (simp; done))))) hn).mono ?_; rintro e w' ⟨rfl, hB1⟩))
  all_goals (go_ret; refine ⟨ret_bool ?_, by (repeat' (first | (with_reducible exact Below.refl _ _) | (with_reducible assumption) | (with_reducible refine below_drewN ?_ _) | (with_reducible refine below_after (by assumption) ?_ ?_) | (with_reducible refine Below.drew ?_) | (with_reducible refine Below.alloc ?_ ?_ _) | (with_reducible refine Below.setCell ?_ ?_ _) | omega | (simp; omega) | (simp; done)))⟩; simp_all [lnkOk])

def rckOk (buses : Int) (x : Rck) : Bool :=
  isBus buses x.f0 && (decide (x.f1 = -1) || isBus buses x.f1 && decide (x.f1 ≠ x.f0)) && within x.power 1 100000 && within x.paths 0 (if x.f1 = -1 then 1 else 2)
def Rck.val (x : Rck) : Value := .agg #[.int .i64 x.f0, .int .i64 x.f1, .int .i64 x.power, .int .i64 x.paths]
set_option maxRecDepth 100000 in
set_option maxHeartbeats 2000000 in
theorem rightRack_any (x : Rck) (buses : Int) (bp : Nat) (w : World) (hb : bp < w.heap.size) (hc : w.cell? ⟨bp, 0, none⟩ = some (.int .i64 buses)) :
    Calls Tryz.prog 80 #[x.val, .func (.func 74) #[] #[.pointer (some ⟨bp, 0, none⟩)]] w
      fun e w' => e = .returned (.bool (rckOk buses x)) ∧ Below w.heap.size w w' := by
  unfold Rck.val
  go_enter Tryz.func80, Tryz.ntmps80
  go_wp2_with (first
    | (go_at_call 74; refine (isBus_any _ buses bp _ (by simpa [World.cell?_alloc_past _ _ _ hb] using hc)).mono ?_; rintro e w' ⟨rfl, rfl⟩)
    | (go_at_call 82; refine (within_any _ _ _ _).mono ?_; rintro e w' ⟨rfl, rfl⟩))
  all_goals (go_ret; refine ⟨ret_bool ?_, by (repeat' (first | (with_reducible exact Below.refl _ _) | (with_reducible assumption) | (with_reducible refine below_drewN ?_ _) | (with_reducible refine below_after (by assumption) ?_ ?_) | (with_reducible refine Below.drew ?_) | (with_reducible refine Below.alloc ?_ ?_ _) | (with_reducible refine Below.setCell ?_ ?_ _) | omega | (simp; omega) | (simp; done)))⟩; simp_all [rckOk])

/-! The closures isSource, isLink, isRack: each hands its element on, with isBus out of the variable that it captured. -/
def busFn (bp : Nat) : Value := .func (.func 74) #[] #[.pointer (some ⟨bp, 0, none⟩)]
def Src.val (x : Src) : Value := .agg #[.int .i64 x.bus, .int .i64 x.kind, .int .i64 x.power, .int .i64 x.sync, .int .i64 x.ohm]
/-- Where isBus lies: the plant's block, and the block of the variable that holds isBus. -/
structure BusAt (w : World) (buses : Int) (bp bi : Nat) : Prop where
  hp : bp < w.heap.size
  hi : bi < w.heap.size
  cp : w.cell? ⟨bp, 0, none⟩ = some (.int .i64 buses)
  ci : w.cell? ⟨bi, 0, none⟩ = some (.func (.func 74) #[] #[.pointer (some ⟨bp, 0, none⟩)])
theorem BusAt.next {w w' : World} {buses : Int} {bp bi : Nat} (h : BusAt w buses bp bi) (hb : Below w.heap.size w w') : BusAt w' buses bp bi :=
  ⟨Nat.lt_of_lt_of_le h.hp hb.size, Nat.lt_of_lt_of_le h.hi hb.size, (hb.cell h.hp).trans h.cp, (hb.cell h.hi).trans h.ci⟩
theorem isSource_any (x : Src) (buses : Int) (bp bi : Nat) (w : World) (h : BusAt w buses bp bi) :
    Calls Tryz.prog 75 #[x.val, .pointer (some ⟨bi, 0, none⟩)] w fun e w' => e = .returned (.bool (srcOk buses x)) ∧ Below w.heap.size w w' := by
  obtain ⟨hp, hi, cp, ci⟩ := h
  unfold Src.val
  go_enter Tryz.func75, Tryz.ntmps75
  go_wp2_with (go_at_call 76; refine (rightSource_any x buses bp _ (by simp; omega) (by simpa [World.cell?_alloc_past _ _ _ hp] using cp)).mono ?_; rintro e w' ⟨rfl, hB⟩)
  go_ret
  exact ⟨rfl, (Below.alloc (Below.refl _ _) (Nat.le_refl _) _).trans (hB.mono (by simp))⟩
theorem isLink_any (x : Lnk) (buses : Int) (bp bi : Nat) (w : World) (h : BusAt w buses bp bi) (ht : Rd w w.heap.size 2 Trp.enc x.tA x.tn x.trip) (hn : x.tn ≤ 9223372036854775807) :
    Calls Tryz.prog 77 #[x.val, .pointer (some ⟨bi, 0, none⟩)] w fun e w' => e = .returned (.bool (lnkOk buses x)) ∧ Below w.heap.size w w' := by
  obtain ⟨hp, hi, cp, ci⟩ := h
  have HT := Lib.hid ht
  clear ht
  unfold Lnk.val
  go_enter Tryz.func77, Tryz.ntmps77
  go_wp2_with (go_at_call 78; refine (rightLink_any x buses bp _ (by simp; omega) (by simpa [World.cell?_alloc_past _ _ _ hp] using cp) (HT.out.next (by (repeat' (first | (with_reducible exact Below.refl _ _) | (with_reducible assumption) | (with_reducible refine below_drewN ?_ _) | (with_reducible refine below_after (by assumption) ?_ ?_) | (with_reducible refine Below.drew ?_) | (with_reducible refine Below.alloc ?_ ?_ _) | (with_reducible refine Below.setCell ?_ ?_ _) | omega | (simp; omega) | (simp; done))))) hn).mono ?_; rintro e w' ⟨rfl, hB⟩)
  go_ret
  exact ⟨rfl, (Below.alloc (Below.refl _ _) (Nat.le_refl _) _).trans (hB.mono (by simp))⟩
theorem isRack_any (x : Rck) (buses : Int) (bp bi : Nat) (w : World) (h : BusAt w buses bp bi) :
    Calls Tryz.prog 79 #[x.val, .pointer (some ⟨bi, 0, none⟩)] w fun e w' => e = .returned (.bool (rckOk buses x)) ∧ Below w.heap.size w w' := by
  obtain ⟨hp, hi, cp, ci⟩ := h
  unfold Rck.val
  go_enter Tryz.func79, Tryz.ntmps79
  go_wp2_with (go_at_call 80; refine (rightRack_any x buses bp _ (by simp; omega) (by simpa [World.cell?_alloc_past _ _ _ hp] using cp)).mono ?_; rintro e w' ⟨rfl, hB⟩)
  go_ret
  exact ⟨rfl, (Below.alloc (Below.refl _ _) (Nat.le_refl _) _).trans (hB.mono (by simp))⟩
end Go.Proofs.YtcnmfblbfpcghaaGreatDoor
