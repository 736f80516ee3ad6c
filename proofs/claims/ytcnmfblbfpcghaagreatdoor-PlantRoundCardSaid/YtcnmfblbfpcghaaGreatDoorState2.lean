/- plant.CheckState. -/
import Derived.Test.YtcnmfblbfpcghaaGreatDoorState1

set_option linter.unusedSimpArgs false
set_option linter.unusedVariables false
namespace Go.Proofs.YtcnmfblbfpcghaaGreatDoor
open Go.RowKit

def stateOk (p : Plt) (s : Stt) : Bool := linkLists p s && sourceLists p s && busLists p s && cablesOk p s
/-- The error of a state. -/
def checkState (p : Plt) (s : Stt) : Int := if check p = 0 then (if stateOk p s then 0 else 9) else check p
def cksCells (n m : Nat) (p : Plt) (s : Stt) : List (Nat × Nat × Value) :=
  [(m, 0, .func (.func 102) #[] #[.pointer (some ⟨n, 0, none⟩), .pointer (some ⟨n + 1, 0, none⟩)]), (m, 1, .func (.func 104) #[] #[.pointer (some ⟨n, 0, none⟩), .pointer (some ⟨n + 1, 0, none⟩)]),
   (m, 2, .func (.func 105) #[] #[.pointer (some ⟨n, 0, none⟩), .pointer (some ⟨n + 1, 0, none⟩)]), (m, 3, .func (.func 106) #[] #[.pointer (some ⟨n, 0, none⟩), .pointer (some ⟨n + 1, 0, none⟩)]),
   (n, 0, .int .i64 p.buses), (n, 1, .slice p.sA p.sn p.sc), (n, 2, .slice p.lA p.ln p.lc), (n, 3, .slice p.rA p.rn p.rc),
   bsCell (n + 1) 0 s.closed, bsCell (n + 1) 1 s.locked, bsCell (n + 1) 2 s.badLink, bsCell (n + 1) 3 s.on, bsCell (n + 1) 4 s.badSource, bsCell (n + 1) 5 s.earthed, bsCell (n + 1) 6 s.badBus]
def cksUpto (p : Plt) (s : Stt) (k : Nat) : Prop := (1 ≤ k → linkLists p s = true) ∧ (2 ≤ k → sourceLists p s = true) ∧ (3 ≤ k → busLists p s = true) ∧ (4 ≤ k → cablesOk p s = true)
theorem linkLists_eq {p : Plt} {s : Stt} (h : linkLists p s = true) : s.closed.n = p.ln ∧ s.locked.n = p.ln ∧ s.badLink.n = p.ln := by
  simp [linkLists] at h
  omega
set_option maxRecDepth 100000 in
set_option maxHeartbeats 4000000 in
theorem checkState_any (p : Plt) (s : Stt) (w : World) (hp : PltIn w w.heap.size p) (hs : SttIn w w.heap.size s) :
    Calls Tryz.prog 58 #[p.val, s.val] w fun e w' => e = .returned (.int .i64 (checkState p s)) ∧ Below w.heap.size w w' := by
  have HP := Lib.hid hp
  have HS := Lib.hid hs
  have hl := hp.hl
  have hsn := hp.hs
  clear hp hs
  by_cases hc : check p = 0
  · have hr : Hid (checkState p s = if stateOk p s then 0 else 9) := by unfold checkState; rw [if_pos hc]; exact rfl
    have C := Lib.hid (check_any p)
    rw [hc] at C
    clear hc
    unfold Plt.val at C
    unfold Plt.val Stt.val
    go_enter Tryz.func58, Tryz.ntmps58
    go_wp2_with (go_at_call 30; refine (C.out _ (HP.out.next (by (repeat' (first | (with_reducible exact Below.refl _ _) | (with_reducible assumption) | (with_reducible refine below_drewN ?_ _) | (with_reducible refine below_after (by assumption) ?_ ?_) | (with_reducible refine Below.drew ?_) | (with_reducible refine Below.alloc ?_ ?_ _) | (with_reducible refine Below.setCell ?_ ?_ _) | omega | (simp; omega) | (simp; done)))))).mono ?_; rintro e w1 ⟨rfl, hB1⟩; have hz1 := hB1.size; simp only [World.size_alloc] at hz1; obtain ⟨hc1, hf1⟩ := bcell hB1)
    go_loopw [21] (fun i wr => ∃ k : Nat, k ≤ 4 ∧ i = .int .i64 k ∧ Below w.heap.size w wr ∧ Has wr (cksCells w.heap.size w1.heap.size p s) ∧ cksUpto p s k) (fun i _ => 4 - (intOf i).toNat)
    case atStart =>
      refine ⟨0, by omega, rfl, by (repeat' (first | (with_reducible exact Below.refl _ _) | (with_reducible assumption) | (with_reducible refine below_drewN ?_ _) | (with_reducible refine below_after (by assumption) ?_ ?_) | (with_reducible refine Below.drew ?_) | (with_reducible refine Below.alloc ?_ ?_ _) | (with_reducible refine Below.setCell ?_ ?_ _) | omega | (simp; omega) | (simp; done))), ?_, ⟨by omega, by omega, by omega, by omega⟩⟩
      unfold cksCells bsCell
      repeat' (first | exact Has.nil _ | refine Has.cons ?_ ?_ ?_)
      all_goals (first | (simp; done) | (simp; omega) | (simp [go_sem]; done) | exact (World.cell?_alloc_past _ _ _ (by omega)).trans ((hc1 _ _ (by (try simp); try omega)).trans (by simp [go_sem])))
    case round =>
      obtain ⟨k, hk, rfl, hB, hH, hU⟩ := hrel
      have HU := Lib.hid hU
      have hz := hB.size
      have HH := Lib.hid hH
      have HPr := Lib.hid (HP.out.next hB)
      have HSr := Lib.hid (HS.out.next hB)
      unfold cksCells bsCell at hH
      obtain ⟨-, f0, hH⟩ := hH.head
      obtain ⟨-, f1, hH⟩ := hH.head
      obtain ⟨-, f2, hH⟩ := hH.head
      obtain ⟨-, f3, hH⟩ := hH.head
      have HPc : Hid (Has wr (pltCells w.heap.size p)) := fun x hx => hH x (by simp [pltCells] at hx; rcases hx with rfl | rfl | rfl | rfl <;> simp)
      obtain ⟨-, p0, hH⟩ := hH.head
      obtain ⟨-, p1, hH⟩ := hH.head
      obtain ⟨-, p2, hH⟩ := hH.head
      obtain ⟨-, -, hH⟩ := hH.head
      have HSc : Hid (Has wr (sttCells (w.heap.size + 1) s)) := hH
      obtain ⟨-, s0, hH⟩ := hH.head
      obtain ⟨-, s1, hH⟩ := hH.head
      obtain ⟨-, s2, hH⟩ := hH.head
      obtain ⟨-, s3, hH⟩ := hH.head
      obtain ⟨-, s4, hH⟩ := hH.head
      obtain ⟨-, s5, hH⟩ := hH.head
      obtain ⟨-, s6, hH⟩ := hH.head
      clear hH hU hc1 hf1
      obtain rfl | rfl | rfl | rfl | rfl : k = 0 ∨ k = 1 ∨ k = 2 ∨ k = 3 ∨ k = 4 := by omega
      · go_wp2_with (go_at_call 102; refine (ruleLinkLists_any p s _ _ _ hl p2 s0 s1 s2).mono ?_; rintro e w' ⟨rfl, hB2⟩)
        · go_ret
          have h : linkLists p s = false := by simpa using (by assumption : (!linkLists p s) = true)
          exact ⟨ret_int (by rw [hr.out]; unfold stateOk; simp only [h, Bool.and_false, Bool.false_and]; rfl), by (repeat' (first | (with_reducible exact Below.refl _ _) | (with_reducible assumption) | (with_reducible refine below_drewN ?_ _) | (with_reducible refine below_after (by assumption) ?_ ?_) | (with_reducible refine Below.drew ?_) | (with_reducible refine Below.alloc ?_ ?_ _) | (with_reducible refine Below.setCell ?_ ?_ _) | omega | (simp; omega) | (simp; done)))⟩
        · have h := Lib.hid (show linkLists p s = true by simpa using (by assumption : (!linkLists p s) = false))
          have HU' : Hid (cksUpto p s 1) := ⟨fun _ => h.out, fun h => absurd h (by omega), fun h => absurd h (by omega), fun h => absurd h (by omega)⟩
          clear HU h
          go_roundw
          case rel => exact ⟨1, by omega, by go_num, by (repeat' (first | (with_reducible exact Below.refl _ _) | (with_reducible assumption) | (with_reducible refine below_drewN ?_ _) | (with_reducible refine below_after (by assumption) ?_ ?_) | (with_reducible refine Below.drew ?_) | (with_reducible refine Below.alloc ?_ ?_ _) | (with_reducible refine Below.setCell ?_ ?_ _) | omega | (simp; omega) | (simp; done))), HH.out.next (by (repeat' (first | (with_reducible exact Below.refl _ _) | (with_reducible assumption) | (with_reducible refine below_drewN ?_ _) | (with_reducible refine below_after (by assumption) ?_ ?_) | (with_reducible refine Below.drew ?_) | (with_reducible refine Below.alloc ?_ ?_ _) | (with_reducible refine Below.setCell ?_ ?_ _) | omega | (simp; omega) | (simp; done)))), HU'.out⟩
          case measure => simp [intOf]
      · go_wp2_with (go_at_call 104; refine (ruleSourceLists_any p s _ _ _ hsn p1 s3 s4).mono ?_; rintro e w' ⟨rfl, hB2⟩)
        · go_ret
          have h : sourceLists p s = false := by simpa using (by assumption : (!sourceLists p s) = true)
          exact ⟨ret_int (by rw [hr.out]; unfold stateOk; simp only [h, Bool.and_false, Bool.false_and]; rfl), by (repeat' (first | (with_reducible exact Below.refl _ _) | (with_reducible assumption) | (with_reducible refine below_drewN ?_ _) | (with_reducible refine below_after (by assumption) ?_ ?_) | (with_reducible refine Below.drew ?_) | (with_reducible refine Below.alloc ?_ ?_ _) | (with_reducible refine Below.setCell ?_ ?_ _) | omega | (simp; omega) | (simp; done)))⟩
        · have h := Lib.hid (show sourceLists p s = true by simpa using (by assumption : (!sourceLists p s) = false))
          have HU' : Hid (cksUpto p s 2) := ⟨fun _ => HU.out.1 (by omega), fun _ => h.out, fun h => absurd h (by omega), fun h => absurd h (by omega)⟩
          clear HU h
          go_roundw
          case rel => exact ⟨2, by omega, by go_num, by (repeat' (first | (with_reducible exact Below.refl _ _) | (with_reducible assumption) | (with_reducible refine below_drewN ?_ _) | (with_reducible refine below_after (by assumption) ?_ ?_) | (with_reducible refine Below.drew ?_) | (with_reducible refine Below.alloc ?_ ?_ _) | (with_reducible refine Below.setCell ?_ ?_ _) | omega | (simp; omega) | (simp; done))), HH.out.next (by (repeat' (first | (with_reducible exact Below.refl _ _) | (with_reducible assumption) | (with_reducible refine below_drewN ?_ _) | (with_reducible refine below_after (by assumption) ?_ ?_) | (with_reducible refine Below.drew ?_) | (with_reducible refine Below.alloc ?_ ?_ _) | (with_reducible refine Below.setCell ?_ ?_ _) | omega | (simp; omega) | (simp; done)))), HU'.out⟩
          case measure => simp [intOf]
      · go_wp2_with (go_at_call 105; refine (ruleBusLists_any p s _ _ _ p0 s5 s6).mono ?_; rintro e w' ⟨rfl, hB2⟩)
        · go_ret
          have h : busLists p s = false := by simpa using (by assumption : (!busLists p s) = true)
          exact ⟨ret_int (by rw [hr.out]; unfold stateOk; simp only [h, Bool.and_false, Bool.false_and]; rfl), by (repeat' (first | (with_reducible exact Below.refl _ _) | (with_reducible assumption) | (with_reducible refine below_drewN ?_ _) | (with_reducible refine below_after (by assumption) ?_ ?_) | (with_reducible refine Below.drew ?_) | (with_reducible refine Below.alloc ?_ ?_ _) | (with_reducible refine Below.setCell ?_ ?_ _) | omega | (simp; omega) | (simp; done)))⟩
        · have h := Lib.hid (show busLists p s = true by simpa using (by assumption : (!busLists p s) = false))
          have HU' : Hid (cksUpto p s 3) := ⟨fun _ => HU.out.1 (by omega), fun _ => HU.out.2.1 (by omega), fun _ => h.out, fun h => absurd h (by omega)⟩
          clear HU h
          go_roundw
          case rel => exact ⟨3, by omega, by go_num, by (repeat' (first | (with_reducible exact Below.refl _ _) | (with_reducible assumption) | (with_reducible refine below_drewN ?_ _) | (with_reducible refine below_after (by assumption) ?_ ?_) | (with_reducible refine Below.drew ?_) | (with_reducible refine Below.alloc ?_ ?_ _) | (with_reducible refine Below.setCell ?_ ?_ _) | omega | (simp; omega) | (simp; done))), HH.out.next (by (repeat' (first | (with_reducible exact Below.refl _ _) | (with_reducible assumption) | (with_reducible refine below_drewN ?_ _) | (with_reducible refine below_after (by assumption) ?_ ?_) | (with_reducible refine Below.drew ?_) | (with_reducible refine Below.alloc ?_ ?_ _) | (with_reducible refine Below.setCell ?_ ?_ _) | omega | (simp; omega) | (simp; done)))), HU'.out⟩
          case measure => simp [intOf]
      · go_wp2_with (go_at_call 106; refine (ruleCables_any p s _ _ _ HPr.out HSr.out (linkLists_eq (HU.out.1 (by omega))).1 (linkLists_eq (HU.out.1 (by omega))).2.1 HPc.out HSc.out).mono ?_; rintro e w' ⟨rfl, hB2⟩)
        · go_ret
          have h : cablesOk p s = false := by simpa using (by assumption : (!cablesOk p s) = true)
          exact ⟨ret_int (by rw [hr.out]; unfold stateOk; simp only [h, Bool.and_false, Bool.false_and]; rfl), by (repeat' (first | (with_reducible exact Below.refl _ _) | (with_reducible assumption) | (with_reducible refine below_drewN ?_ _) | (with_reducible refine below_after (by assumption) ?_ ?_) | (with_reducible refine Below.drew ?_) | (with_reducible refine Below.alloc ?_ ?_ _) | (with_reducible refine Below.setCell ?_ ?_ _) | omega | (simp; omega) | (simp; done)))⟩
        · have h := Lib.hid (show cablesOk p s = true by simpa using (by assumption : (!cablesOk p s) = false))
          have HU' : Hid (cksUpto p s 4) := ⟨fun _ => HU.out.1 (by omega), fun _ => HU.out.2.1 (by omega), fun _ => HU.out.2.2.1 (by omega), fun _ => h.out⟩
          clear HU h
          go_roundw
          case rel => exact ⟨4, by omega, by go_num, by (repeat' (first | (with_reducible exact Below.refl _ _) | (with_reducible assumption) | (with_reducible refine below_drewN ?_ _) | (with_reducible refine below_after (by assumption) ?_ ?_) | (with_reducible refine Below.drew ?_) | (with_reducible refine Below.alloc ?_ ?_ _) | (with_reducible refine Below.setCell ?_ ?_ _) | omega | (simp; omega) | (simp; done))), HH.out.next (by (repeat' (first | (with_reducible exact Below.refl _ _) | (with_reducible assumption) | (with_reducible refine below_drewN ?_ _) | (with_reducible refine below_after (by assumption) ?_ ?_) | (with_reducible refine Below.drew ?_) | (with_reducible refine Below.alloc ?_ ?_ _) | (with_reducible refine Below.setCell ?_ ?_ _) | omega | (simp; omega) | (simp; done)))), HU'.out⟩
          case measure => simp [intOf]
      · go_wp2
        go_ret
        exact ⟨ret_int (by rw [hr.out]; unfold stateOk; rw [HU.out.1 (by omega), HU.out.2.1 (by omega), HU.out.2.2.1 (by omega), HU.out.2.2.2 (by omega)]; rfl), hB⟩
  · have hr : Hid (checkState p s = check p) := by unfold checkState; rw [if_neg hc]; exact rfl
    have hq : (check p == 0) = false := by simpa using hc
    unfold Plt.val Stt.val
    go_enter Tryz.func58, Tryz.ntmps58
    go_wp2_with (go_at_call 30; refine (check_any p _ (HP.out.next (by (repeat' (first | (with_reducible exact Below.refl _ _) | (with_reducible assumption) | (with_reducible refine below_drewN ?_ _) | (with_reducible refine below_after (by assumption) ?_ ?_) | (with_reducible refine Below.drew ?_) | (with_reducible refine Below.alloc ?_ ?_ _) | (with_reducible refine Below.setCell ?_ ?_ _) | omega | (simp; omega) | (simp; done)))))).mono ?_; rintro e w1 ⟨rfl, hB1⟩)
    go_ret
    exact ⟨ret_int hr.out.symm, by (repeat' (first | (with_reducible exact Below.refl _ _) | (with_reducible assumption) | (with_reducible refine below_drewN ?_ _) | (with_reducible refine below_after (by assumption) ?_ ?_) | (with_reducible refine Below.drew ?_) | (with_reducible refine Below.alloc ?_ ?_ _) | (with_reducible refine Below.setCell ?_ ?_ _) | omega | (simp; omega) | (simp; done)))⟩
end Go.Proofs.YtcnmfblbfpcghaaGreatDoor
