/- plant.Check. -/
import Derived.Test.YtcnmfblbfpcghaaGreatDoorCheck3
import Derived.Laws.EntriesVeiled

set_option linter.unusedSimpArgs false
set_option linter.unusedVariables false
namespace Go.Proofs.YtcnmfblbfpcghaaGreatDoor
open Go.RowKit

def srcsOk (p : Plt) : Bool := decide ((p.srcs.length : Int) ≤ 8) && p.srcs.all (srcOk p.buses)
def lnksOk (p : Plt) : Bool := decide ((p.lnks.length : Int) ≤ 40) && p.lnks.all (lnkOk p.buses)
def rcksOk (p : Plt) : Bool := decide ((p.rcks.length : Int) ≤ 24) && p.rcks.all (rckOk p.buses)
theorem ruleBuses_any (buses : Int) (bp : Nat) (w : World) (hc : w.cell? ⟨bp, 0, none⟩ = some (.int .i64 buses)) :
    Calls Tryz.prog 81 #[.pointer (some ⟨bp, 0, none⟩)] w fun e w' => e = .returned (.bool (within buses 1 24)) ∧ w = w' := by
  go_enter Tryz.func81, Tryz.ntmps81
  go_wp2_with (go_at_call 82; refine (within_any _ _ _ _).mono ?_; rintro e w' ⟨rfl, rfl⟩)
  go_ret
  exact ⟨rfl, rfl⟩
theorem ruleSources_any (p : Plt) (bp bi bs : Nat) (w : World) (hp : PltIn w w.heap.size p) (h : BusAt w p.buses bp bi) (c1 : w.cell? ⟨bp, 1, none⟩ = some (.slice p.sA p.sn p.sc))
    (cs : w.cell? ⟨bs, 0, none⟩ = some (.func (.func 75) #[] #[.pointer (some ⟨bi, 0, none⟩)])) :
    Calls Tryz.prog 83 #[.pointer (some ⟨bp, 0, none⟩), .pointer (some ⟨bs, 0, none⟩)] w fun e w' => e = .returned (.bool (srcsOk p)) ∧ Below w.heap.size w w' := by
  have C := Lib.hid (allSrc_any p.sA p.sn p.sc 8 p.srcs p.buses bp bi w hp.src hp.hs h)
  clear hp h
  go_enter Tryz.func83, Tryz.ntmps83
  go_wp2_with (go_at_call 84; refine C.out.mono ?_; rintro e w' ⟨rfl, hB⟩)
  go_ret
  exact ⟨rfl, hB⟩
theorem ruleLinks_any (p : Plt) (bp bi bs : Nat) (w : World) (hp : PltIn w w.heap.size p) (h : BusAt w p.buses bp bi) (c1 : w.cell? ⟨bp, 2, none⟩ = some (.slice p.lA p.ln p.lc))
    (cs : w.cell? ⟨bs, 0, none⟩ = some (.func (.func 77) #[] #[.pointer (some ⟨bi, 0, none⟩)])) :
    Calls Tryz.prog 85 #[.pointer (some ⟨bp, 0, none⟩), .pointer (some ⟨bs, 0, none⟩)] w fun e w' => e = .returned (.bool (lnksOk p)) ∧ Below w.heap.size w w' := by
  have C := Lib.hid (allLnk_any p.lA p.ln p.lc 40 p.lnks p.buses bp bi w hp.lnk hp.hl h (fun x hx => ⟨hp.trip x hx, hp.ht x hx⟩))
  clear hp h
  go_enter Tryz.func85, Tryz.ntmps85
  go_wp2_with (go_at_call 86; refine C.out.mono ?_; rintro e w' ⟨rfl, hB⟩)
  go_ret
  exact ⟨rfl, hB⟩
theorem ruleRacks_any (p : Plt) (bp bi bs : Nat) (w : World) (hp : PltIn w w.heap.size p) (h : BusAt w p.buses bp bi) (c1 : w.cell? ⟨bp, 3, none⟩ = some (.slice p.rA p.rn p.rc))
    (cs : w.cell? ⟨bs, 0, none⟩ = some (.func (.func 79) #[] #[.pointer (some ⟨bi, 0, none⟩)])) :
    Calls Tryz.prog 87 #[.pointer (some ⟨bp, 0, none⟩), .pointer (some ⟨bs, 0, none⟩)] w fun e w' => e = .returned (.bool (rcksOk p)) ∧ Below w.heap.size w w' := by
  have C := Lib.hid (allRck_any p.rA p.rn p.rc 24 p.rcks p.buses bp bi w hp.rck hp.hr h)
  clear hp h
  go_enter Tryz.func87, Tryz.ntmps87
  go_wp2_with (go_at_call 88; refine C.out.mono ?_; rintro e w' ⟨rfl, hB⟩)
  go_ret
  exact ⟨rfl, hB⟩

/-- The error of a plant. -/
def check (p : Plt) : Int := if within p.buses 1 24 then if srcsOk p then if lnksOk p then if rcksOk p then 0 else 13 else 12 else 11 else 10
/-- The blocks that Check has made when its loop begins. -/
def chkCells (n : Nat) (p : Plt) : List (Nat × Nat × Value) :=
  [(n, 0, .int .i64 p.buses), (n, 1, .slice p.sA p.sn p.sc), (n, 2, .slice p.lA p.ln p.lc), (n, 3, .slice p.rA p.rn p.rc),
   (n + 1, 0, .func (.func 74) #[] #[.pointer (some ⟨n, 0, none⟩)]),
   (n + 1 + 1, 0, .func (.func 75) #[] #[.pointer (some ⟨n + 1, 0, none⟩)]),
   (n + 1 + 1 + 1, 0, .func (.func 77) #[] #[.pointer (some ⟨n + 1, 0, none⟩)]),
   (n + 1 + 1 + 1 + 1, 0, .func (.func 79) #[] #[.pointer (some ⟨n + 1, 0, none⟩)]),
   (n + 1 + 1 + 1 + 1 + 1, 0, .int .i64 10), (n + 1 + 1 + 1 + 1 + 1, 1, .func (.func 81) #[] #[.pointer (some ⟨n, 0, none⟩)]),
   (n + 1 + 1 + 1 + 1 + 1, 2, .int .i64 11), (n + 1 + 1 + 1 + 1 + 1, 3, .func (.func 83) #[] #[.pointer (some ⟨n, 0, none⟩), .pointer (some ⟨n + 1 + 1, 0, none⟩)]),
   (n + 1 + 1 + 1 + 1 + 1, 4, .int .i64 12), (n + 1 + 1 + 1 + 1 + 1, 5, .func (.func 85) #[] #[.pointer (some ⟨n, 0, none⟩), .pointer (some ⟨n + 1 + 1 + 1, 0, none⟩)]),
   (n + 1 + 1 + 1 + 1 + 1, 6, .int .i64 13), (n + 1 + 1 + 1 + 1 + 1, 7, .func (.func 87) #[] #[.pointer (some ⟨n, 0, none⟩), .pointer (some ⟨n + 1 + 1 + 1 + 1, 0, none⟩)])]
def chkUpto (p : Plt) (k : Nat) : Prop := (1 ≤ k → within p.buses 1 24 = true) ∧ (2 ≤ k → srcsOk p = true) ∧ (3 ≤ k → lnksOk p = true) ∧ (4 ≤ k → rcksOk p = true)
set_option maxRecDepth 100000 in
set_option maxHeartbeats 4000000 in
theorem check_any (p : Plt) (w : World) (hp : PltIn w w.heap.size p) :
    Calls Tryz.prog 30 #[p.val] w fun e w' => e = .returned (.int .i64 (check p)) ∧ Below w.heap.size w w' := by
  have HP := Lib.hid hp
  clear hp
  unfold Plt.val
  go_enter Tryz.func30, Tryz.ntmps30
  go_wp2
  go_loopw [25] (fun i wr => ∃ k : Nat, k ≤ 4 ∧ i = .int .i64 k ∧ Below w.heap.size w wr ∧ Has wr (chkCells w.heap.size p) ∧ chkUpto p k) (fun i _ => 4 - (intOf i).toNat)
  case atStart =>
    refine ⟨0, by omega, rfl, by (repeat' (first | (with_reducible exact Below.refl _ _) | (with_reducible assumption) | (with_reducible refine below_drewN ?_ _) | (with_reducible refine below_after (by assumption) ?_ ?_) | (with_reducible refine Below.drew ?_) | (with_reducible refine Below.alloc ?_ ?_ _) | (with_reducible refine Below.setCell ?_ ?_ _) | omega | (simp; omega) | (simp; done))), ?_, ⟨by omega, by omega, by omega, by omega⟩⟩
    unfold chkCells
    repeat' (first | exact Has.nil _ | refine Has.cons ?_ ?_ ?_)
    all_goals (first | (simp; done) | (simp; omega) | (simp [go_sem]; done))
  case round =>
    obtain ⟨k, hk, rfl, hB, hH, hU⟩ := hrel
    have HU := Lib.hid hU
    have hz := hB.size
    have HH := Lib.hid hH
    unfold chkCells at hH
    obtain ⟨z0, p0, hH⟩ := hH.head
    obtain ⟨-, p1, hH⟩ := hH.head
    obtain ⟨-, p2, hH⟩ := hH.head
    obtain ⟨-, p3, hH⟩ := hH.head
    obtain ⟨z1, ci, hH⟩ := hH.head
    obtain ⟨z2, cs, hH⟩ := hH.head
    obtain ⟨z3, cl, hH⟩ := hH.head
    obtain ⟨z4, cr, hH⟩ := hH.head
    obtain ⟨z5, r0, hH⟩ := hH.head
    obtain ⟨-, r1, hH⟩ := hH.head
    obtain ⟨-, r2, hH⟩ := hH.head
    obtain ⟨-, r3, hH⟩ := hH.head
    obtain ⟨-, r4, hH⟩ := hH.head
    obtain ⟨-, r5, hH⟩ := hH.head
    obtain ⟨-, r6, hH⟩ := hH.head
    obtain ⟨-, r7, hH⟩ := hH.head
    clear hH hU
    have HA : Hid (BusAt wr p.buses w.heap.size (w.heap.size + 1)) := ⟨z0, z1, p0, ci⟩
    have HPr := Lib.hid (HP.out.next hB)
    obtain rfl | rfl | rfl | rfl | rfl : k = 0 ∨ k = 1 ∨ k = 2 ∨ k = 3 ∨ k = 4 := by omega
    · go_wp2_with (go_at_call 81; refine (ruleBuses_any p.buses _ _ ((World.cell?_alloc_past _ _ _ z0).trans p0)).mono ?_; rintro e w' ⟨rfl, rfl⟩)
      · go_ret
        have h : within p.buses 1 24 = false := by simpa using (by assumption : (!within p.buses 1 24) = true)
        exact ⟨ret_int (by unfold check; rw [h]; rfl), by (repeat' (first | (with_reducible exact Below.refl _ _) | (with_reducible assumption) | (with_reducible refine below_drewN ?_ _) | (with_reducible refine below_after (by assumption) ?_ ?_) | (with_reducible refine Below.drew ?_) | (with_reducible refine Below.alloc ?_ ?_ _) | (with_reducible refine Below.setCell ?_ ?_ _) | omega | (simp; omega) | (simp; done)))⟩
      · have h := Lib.hid (show within p.buses 1 24 = true by simpa using (by assumption : (!within p.buses 1 24) = false))
        have HU' : Hid (chkUpto p 1) := ⟨fun _ => h.out, fun h => absurd h (by omega), fun h => absurd h (by omega), fun h => absurd h (by omega)⟩
        clear HU h
        go_roundw
        case rel => exact ⟨1, by omega, by go_num, by (repeat' (first | (with_reducible exact Below.refl _ _) | (with_reducible assumption) | (with_reducible refine below_drewN ?_ _) | (with_reducible refine below_after (by assumption) ?_ ?_) | (with_reducible refine Below.drew ?_) | (with_reducible refine Below.alloc ?_ ?_ _) | (with_reducible refine Below.setCell ?_ ?_ _) | omega | (simp; omega) | (simp; done))), HH.out.next (by (repeat' (first | (with_reducible exact Below.refl _ _) | (with_reducible assumption) | (with_reducible refine below_drewN ?_ _) | (with_reducible refine below_after (by assumption) ?_ ?_) | (with_reducible refine Below.drew ?_) | (with_reducible refine Below.alloc ?_ ?_ _) | (with_reducible refine Below.setCell ?_ ?_ _) | omega | (simp; omega) | (simp; done)))), HU'.out⟩
        case measure => simp [intOf]
    · go_wp2_with (go_at_call 83; refine (ruleSources_any p _ _ _ _ (HPr.out.next (by (repeat' (first | (with_reducible exact Below.refl _ _) | (with_reducible assumption) | (with_reducible refine below_drewN ?_ _) | (with_reducible refine below_after (by assumption) ?_ ?_) | (with_reducible refine Below.drew ?_) | (with_reducible refine Below.alloc ?_ ?_ _) | (with_reducible refine Below.setCell ?_ ?_ _) | omega | (simp; omega) | (simp; done))))) (HA.out.next (by (repeat' (first | (with_reducible exact Below.refl _ _) | (with_reducible assumption) | (with_reducible refine below_drewN ?_ _) | (with_reducible refine below_after (by assumption) ?_ ?_) | (with_reducible refine Below.drew ?_) | (with_reducible refine Below.alloc ?_ ?_ _) | (with_reducible refine Below.setCell ?_ ?_ _) | omega | (simp; omega) | (simp; done))))) ((World.cell?_alloc_past _ _ _ z0).trans p1) ((World.cell?_alloc_past _ _ _ z2).trans cs)).mono ?_; rintro e w' ⟨rfl, hB1⟩; obtain ⟨hc1, hf1⟩ := bcell hB1)
      · go_ret
        have h : srcsOk p = false := by simpa using (by assumption : (!srcsOk p) = true)
        exact ⟨ret_int (by unfold check; rw [HU.out.1 (by omega), h]; rfl), by (repeat' (first | (with_reducible exact Below.refl _ _) | (with_reducible assumption) | (with_reducible refine below_drewN ?_ _) | (with_reducible refine below_after (by assumption) ?_ ?_) | (with_reducible refine Below.drew ?_) | (with_reducible refine Below.alloc ?_ ?_ _) | (with_reducible refine Below.setCell ?_ ?_ _) | omega | (simp; omega) | (simp; done)))⟩
      · have h := Lib.hid (show srcsOk p = true by simpa using (by assumption : (!srcsOk p) = false))
        have HU' : Hid (chkUpto p 2) := ⟨fun _ => HU.out.1 (by omega), fun _ => h.out, fun h => absurd h (by omega), fun h => absurd h (by omega)⟩
        clear HU h
        go_roundw
        case rel => exact ⟨2, by omega, by go_num, by (repeat' (first | (with_reducible exact Below.refl _ _) | (with_reducible assumption) | (with_reducible refine below_drewN ?_ _) | (with_reducible refine below_after (by assumption) ?_ ?_) | (with_reducible refine Below.drew ?_) | (with_reducible refine Below.alloc ?_ ?_ _) | (with_reducible refine Below.setCell ?_ ?_ _) | omega | (simp; omega) | (simp; done))), HH.out.next (by (repeat' (first | (with_reducible exact Below.refl _ _) | (with_reducible assumption) | (with_reducible refine below_drewN ?_ _) | (with_reducible refine below_after (by assumption) ?_ ?_) | (with_reducible refine Below.drew ?_) | (with_reducible refine Below.alloc ?_ ?_ _) | (with_reducible refine Below.setCell ?_ ?_ _) | omega | (simp; omega) | (simp; done)))), HU'.out⟩
        case measure => simp [intOf]
    · go_wp2_with (go_at_call 85; refine (ruleLinks_any p _ _ _ _ (HPr.out.next (by (repeat' (first | (with_reducible exact Below.refl _ _) | (with_reducible assumption) | (with_reducible refine below_drewN ?_ _) | (with_reducible refine below_after (by assumption) ?_ ?_) | (with_reducible refine Below.drew ?_) | (with_reducible refine Below.alloc ?_ ?_ _) | (with_reducible refine Below.setCell ?_ ?_ _) | omega | (simp; omega) | (simp; done))))) (HA.out.next (by (repeat' (first | (with_reducible exact Below.refl _ _) | (with_reducible assumption) | (with_reducible refine below_drewN ?_ _) | (with_reducible refine below_after (by assumption) ?_ ?_) | (with_reducible refine Below.drew ?_) | (with_reducible refine Below.alloc ?_ ?_ _) | (with_reducible refine Below.setCell ?_ ?_ _) | omega | (simp; omega) | (simp; done))))) ((World.cell?_alloc_past _ _ _ z0).trans p2) ((World.cell?_alloc_past _ _ _ z3).trans cl)).mono ?_; rintro e w' ⟨rfl, hB1⟩; obtain ⟨hc1, hf1⟩ := bcell hB1)
      · go_ret
        have h : lnksOk p = false := by simpa using (by assumption : (!lnksOk p) = true)
        exact ⟨ret_int (by unfold check; rw [HU.out.1 (by omega), HU.out.2.1 (by omega), h]; rfl), by (repeat' (first | (with_reducible exact Below.refl _ _) | (with_reducible assumption) | (with_reducible refine below_drewN ?_ _) | (with_reducible refine below_after (by assumption) ?_ ?_) | (with_reducible refine Below.drew ?_) | (with_reducible refine Below.alloc ?_ ?_ _) | (with_reducible refine Below.setCell ?_ ?_ _) | omega | (simp; omega) | (simp; done)))⟩
      · have h := Lib.hid (show lnksOk p = true by simpa using (by assumption : (!lnksOk p) = false))
        have HU' : Hid (chkUpto p 3) := ⟨fun _ => HU.out.1 (by omega), fun _ => HU.out.2.1 (by omega), fun _ => h.out, fun h => absurd h (by omega)⟩
        clear HU h
        go_roundw
        case rel => exact ⟨3, by omega, by go_num, by (repeat' (first | (with_reducible exact Below.refl _ _) | (with_reducible assumption) | (with_reducible refine below_drewN ?_ _) | (with_reducible refine below_after (by assumption) ?_ ?_) | (with_reducible refine Below.drew ?_) | (with_reducible refine Below.alloc ?_ ?_ _) | (with_reducible refine Below.setCell ?_ ?_ _) | omega | (simp; omega) | (simp; done))), HH.out.next (by (repeat' (first | (with_reducible exact Below.refl _ _) | (with_reducible assumption) | (with_reducible refine below_drewN ?_ _) | (with_reducible refine below_after (by assumption) ?_ ?_) | (with_reducible refine Below.drew ?_) | (with_reducible refine Below.alloc ?_ ?_ _) | (with_reducible refine Below.setCell ?_ ?_ _) | omega | (simp; omega) | (simp; done)))), HU'.out⟩
        case measure => simp [intOf]
    · go_wp2_with (go_at_call 87; refine (ruleRacks_any p _ _ _ _ (HPr.out.next (by (repeat' (first | (with_reducible exact Below.refl _ _) | (with_reducible assumption) | (with_reducible refine below_drewN ?_ _) | (with_reducible refine below_after (by assumption) ?_ ?_) | (with_reducible refine Below.drew ?_) | (with_reducible refine Below.alloc ?_ ?_ _) | (with_reducible refine Below.setCell ?_ ?_ _) | omega | (simp; omega) | (simp; done))))) (HA.out.next (by (repeat' (first | (with_reducible exact Below.refl _ _) | (with_reducible assumption) | (with_reducible refine below_drewN ?_ _) | (with_reducible refine below_after (by assumption) ?_ ?_) | (with_reducible refine Below.drew ?_) | (with_reducible refine Below.alloc ?_ ?_ _) | (with_reducible refine Below.setCell ?_ ?_ _) | omega | (simp; omega) | (simp; done))))) ((World.cell?_alloc_past _ _ _ z0).trans p3) ((World.cell?_alloc_past _ _ _ z4).trans cr)).mono ?_; rintro e w' ⟨rfl, hB1⟩; obtain ⟨hc1, hf1⟩ := bcell hB1)
      · go_ret
        have h : rcksOk p = false := by simpa using (by assumption : (!rcksOk p) = true)
        exact ⟨ret_int (by unfold check; rw [HU.out.1 (by omega), HU.out.2.1 (by omega), HU.out.2.2.1 (by omega), h]; rfl), by (repeat' (first | (with_reducible exact Below.refl _ _) | (with_reducible assumption) | (with_reducible refine below_drewN ?_ _) | (with_reducible refine below_after (by assumption) ?_ ?_) | (with_reducible refine Below.drew ?_) | (with_reducible refine Below.alloc ?_ ?_ _) | (with_reducible refine Below.setCell ?_ ?_ _) | omega | (simp; omega) | (simp; done)))⟩
      · have h := Lib.hid (show rcksOk p = true by simpa using (by assumption : (!rcksOk p) = false))
        have HU' : Hid (chkUpto p 4) := ⟨fun _ => HU.out.1 (by omega), fun _ => HU.out.2.1 (by omega), fun _ => HU.out.2.2.1 (by omega), fun _ => h.out⟩
        clear HU h
        go_roundw
        case rel => exact ⟨4, by omega, by go_num, by (repeat' (first | (with_reducible exact Below.refl _ _) | (with_reducible assumption) | (with_reducible refine below_drewN ?_ _) | (with_reducible refine below_after (by assumption) ?_ ?_) | (with_reducible refine Below.drew ?_) | (with_reducible refine Below.alloc ?_ ?_ _) | (with_reducible refine Below.setCell ?_ ?_ _) | omega | (simp; omega) | (simp; done))), HH.out.next (by (repeat' (first | (with_reducible exact Below.refl _ _) | (with_reducible assumption) | (with_reducible refine below_drewN ?_ _) | (with_reducible refine below_after (by assumption) ?_ ?_) | (with_reducible refine Below.drew ?_) | (with_reducible refine Below.alloc ?_ ?_ _) | (with_reducible refine Below.setCell ?_ ?_ _) | omega | (simp; omega) | (simp; done)))), HU'.out⟩
        case measure => simp [intOf]
    · go_wp2
      go_ret
      exact ⟨ret_int (by unfold check; rw [HU.out.1 (by omega), HU.out.2.1 (by omega), HU.out.2.2.1 (by omega), HU.out.2.2.2 (by omega)]; rfl), hB⟩
end Go.Proofs.YtcnmfblbfpcghaaGreatDoor
