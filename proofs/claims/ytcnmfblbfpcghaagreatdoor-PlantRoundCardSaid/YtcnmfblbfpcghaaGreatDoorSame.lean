/- The kit's SameState. -/
import Derived.Test.YtcnmfblbfpcghaaGreatDoorKit

set_option linter.unusedSimpArgs false
set_option linter.unusedVariables false
namespace Go.Proofs.YtcnmfblbfpcghaaGreatDoor
open Go.RowKit

/-- Are two states the same? -/
def sameS (s t : Stt) : Bool := sameL s.closed.l t.closed.l && sameL s.locked.l t.locked.l && sameL s.badLink.l t.badLink.l && sameL s.on.l t.on.l && sameL s.badSource.l t.badSource.l && sameL s.earthed.l t.earthed.l && sameL s.badBus.l t.badBus.l
theorem sameBs (x y : Bs) (w : World) (h : BsIn w w.heap.size x) (k : BsIn w w.heap.size y) : Calls Tryz.prog 41 #[.slice x.A x.n x.c, .slice y.A y.n y.c] w fun e w' => e = .returned (.bool (sameL x.l y.l)) ∧ Below w.heap.size w w' :=
  SameTruths_any x.A y.A x.n y.n x.c y.c x.l y.l w h.1 k.1 h.2 k.2
set_option maxRecDepth 100000 in
set_option maxHeartbeats 4000000 in
theorem SameState_any (s t : Stt) (w : World) (hs : SttIn w w.heap.size s) (ht : SttIn w w.heap.size t) :
    Calls Tryz.prog 13 #[s.val, t.val] w fun e w' => e = .returned (.bool (sameS s t)) ∧ Below w.heap.size w w' := by
  have HP := Lib.hid hs
  have HQ := Lib.hid ht
  clear hs ht
  have K0 := Lib.hid (sameBs s.closed t.closed)
  obtain ⟨b0, hb0⟩ : ∃ b, sameL s.closed.l t.closed.l = b := ⟨_, rfl⟩
  rw [hb0] at K0
  have E0 := Lib.hid hb0
  clear hb0
  have K1 := Lib.hid (sameBs s.locked t.locked)
  obtain ⟨b1, hb1⟩ : ∃ b, sameL s.locked.l t.locked.l = b := ⟨_, rfl⟩
  rw [hb1] at K1
  have E1 := Lib.hid hb1
  clear hb1
  have K2 := Lib.hid (sameBs s.badLink t.badLink)
  obtain ⟨b2, hb2⟩ : ∃ b, sameL s.badLink.l t.badLink.l = b := ⟨_, rfl⟩
  rw [hb2] at K2
  have E2 := Lib.hid hb2
  clear hb2
  have K3 := Lib.hid (sameBs s.on t.on)
  obtain ⟨b3, hb3⟩ : ∃ b, sameL s.on.l t.on.l = b := ⟨_, rfl⟩
  rw [hb3] at K3
  have E3 := Lib.hid hb3
  clear hb3
  have K4 := Lib.hid (sameBs s.badSource t.badSource)
  obtain ⟨b4, hb4⟩ : ∃ b, sameL s.badSource.l t.badSource.l = b := ⟨_, rfl⟩
  rw [hb4] at K4
  have E4 := Lib.hid hb4
  clear hb4
  have K5 := Lib.hid (sameBs s.earthed t.earthed)
  obtain ⟨b5, hb5⟩ : ∃ b, sameL s.earthed.l t.earthed.l = b := ⟨_, rfl⟩
  rw [hb5] at K5
  have E5 := Lib.hid hb5
  clear hb5
  have K6 := Lib.hid (sameBs s.badBus t.badBus)
  obtain ⟨b6, hb6⟩ : ∃ b, sameL s.badBus.l t.badBus.l = b := ⟨_, rfl⟩
  rw [hb6] at K6
  have E6 := Lib.hid hb6
  clear hb6
  unfold Stt.val
  go_enter Tryz.func13, Tryz.ntmps13
  go_wp2_with fail
  refine (K0.out _ (HP.out.next (by (repeat' (first | (with_reducible exact Below.refl _ _) | (with_reducible assumption) | (with_reducible refine below_drewN ?_ _) | (with_reducible refine below_after (by assumption) ?_ ?_) | (with_reducible refine Below.drew ?_) | (with_reducible refine Below.alloc ?_ ?_ _) | (with_reducible refine Below.setCell ?_ ?_ _) | omega | (simp; omega) | (simp; done))))).closed (HQ.out.next (by (repeat' (first | (with_reducible exact Below.refl _ _) | (with_reducible assumption) | (with_reducible refine below_drewN ?_ _) | (with_reducible refine below_after (by assumption) ?_ ?_) | (with_reducible refine Below.drew ?_) | (with_reducible refine Below.alloc ?_ ?_ _) | (with_reducible refine Below.setCell ?_ ?_ _) | omega | (simp; omega) | (simp; done))))).closed).mono ?_
  rintro e v0 ⟨rfl, hB0⟩
  obtain ⟨hc0, hf0⟩ := bcell hB0
  have hz0 := hB0.size
  simp only [World.size_alloc] at hz0
  have y0 : w.heap.size < v0.heap.size := by omega
  have x0 : w.heap.size + 1 < v0.heap.size := by omega
  cases b0
  · go_wp2
    go_ret
    exact ⟨ret_bool (by simp [sameS, E0.out]), by (repeat' (first | (with_reducible exact Below.refl _ _) | (with_reducible assumption) | (with_reducible refine below_drewN ?_ _) | (with_reducible refine below_after (by assumption) ?_ ?_) | (with_reducible refine Below.drew ?_) | (with_reducible refine Below.alloc ?_ ?_ _) | (with_reducible refine Below.setCell ?_ ?_ _) | omega | (simp; omega) | (simp; done)))⟩
  · go_wp2_with fail
    refine (K1.out _ (HP.out.next (by (repeat' (first | (with_reducible exact Below.refl _ _) | (with_reducible assumption) | (with_reducible refine below_drewN ?_ _) | (with_reducible refine below_after (by assumption) ?_ ?_) | (with_reducible refine Below.drew ?_) | (with_reducible refine Below.alloc ?_ ?_ _) | (with_reducible refine Below.setCell ?_ ?_ _) | omega | (simp; omega) | (simp; done))))).locked (HQ.out.next (by (repeat' (first | (with_reducible exact Below.refl _ _) | (with_reducible assumption) | (with_reducible refine below_drewN ?_ _) | (with_reducible refine below_after (by assumption) ?_ ?_) | (with_reducible refine Below.drew ?_) | (with_reducible refine Below.alloc ?_ ?_ _) | (with_reducible refine Below.setCell ?_ ?_ _) | omega | (simp; omega) | (simp; done))))).locked).mono ?_
    rintro e v1 ⟨rfl, hB1⟩
    obtain ⟨hc1, hf1⟩ := bcell hB1
    have hz1 := hB1.size
    have y1 : w.heap.size < v1.heap.size := by omega
    have x1 : w.heap.size + 1 < v1.heap.size := by omega
    cases b1
    · go_wp2
      go_ret
      exact ⟨ret_bool (by simp [sameS, E0.out, E1.out]), by (repeat' (first | (with_reducible exact Below.refl _ _) | (with_reducible assumption) | (with_reducible refine below_drewN ?_ _) | (with_reducible refine below_after (by assumption) ?_ ?_) | (with_reducible refine Below.drew ?_) | (with_reducible refine Below.alloc ?_ ?_ _) | (with_reducible refine Below.setCell ?_ ?_ _) | omega | (simp; omega) | (simp; done)))⟩
    · go_wp2_with fail
      refine (K2.out _ (HP.out.next (by (repeat' (first | (with_reducible exact Below.refl _ _) | (with_reducible assumption) | (with_reducible refine below_drewN ?_ _) | (with_reducible refine below_after (by assumption) ?_ ?_) | (with_reducible refine Below.drew ?_) | (with_reducible refine Below.alloc ?_ ?_ _) | (with_reducible refine Below.setCell ?_ ?_ _) | omega | (simp; omega) | (simp; done))))).badLink (HQ.out.next (by (repeat' (first | (with_reducible exact Below.refl _ _) | (with_reducible assumption) | (with_reducible refine below_drewN ?_ _) | (with_reducible refine below_after (by assumption) ?_ ?_) | (with_reducible refine Below.drew ?_) | (with_reducible refine Below.alloc ?_ ?_ _) | (with_reducible refine Below.setCell ?_ ?_ _) | omega | (simp; omega) | (simp; done))))).badLink).mono ?_
      rintro e v2 ⟨rfl, hB2⟩
      obtain ⟨hc2, hf2⟩ := bcell hB2
      have hz2 := hB2.size
      have y2 : w.heap.size < v2.heap.size := by omega
      have x2 : w.heap.size + 1 < v2.heap.size := by omega
      cases b2
      · go_wp2
        go_ret
        exact ⟨ret_bool (by simp [sameS, E0.out, E1.out, E2.out]), by (repeat' (first | (with_reducible exact Below.refl _ _) | (with_reducible assumption) | (with_reducible refine below_drewN ?_ _) | (with_reducible refine below_after (by assumption) ?_ ?_) | (with_reducible refine Below.drew ?_) | (with_reducible refine Below.alloc ?_ ?_ _) | (with_reducible refine Below.setCell ?_ ?_ _) | omega | (simp; omega) | (simp; done)))⟩
      · go_wp2_with fail
        refine (K3.out _ (HP.out.next (by (repeat' (first | (with_reducible exact Below.refl _ _) | (with_reducible assumption) | (with_reducible refine below_drewN ?_ _) | (with_reducible refine below_after (by assumption) ?_ ?_) | (with_reducible refine Below.drew ?_) | (with_reducible refine Below.alloc ?_ ?_ _) | (with_reducible refine Below.setCell ?_ ?_ _) | omega | (simp; omega) | (simp; done))))).on (HQ.out.next (by (repeat' (first | (with_reducible exact Below.refl _ _) | (with_reducible assumption) | (with_reducible refine below_drewN ?_ _) | (with_reducible refine below_after (by assumption) ?_ ?_) | (with_reducible refine Below.drew ?_) | (with_reducible refine Below.alloc ?_ ?_ _) | (with_reducible refine Below.setCell ?_ ?_ _) | omega | (simp; omega) | (simp; done))))).on).mono ?_
        rintro e v3 ⟨rfl, hB3⟩
        obtain ⟨hc3, hf3⟩ := bcell hB3
        have hz3 := hB3.size
        have y3 : w.heap.size < v3.heap.size := by omega
        have x3 : w.heap.size + 1 < v3.heap.size := by omega
        cases b3
        · go_wp2
          go_ret
          exact ⟨ret_bool (by simp [sameS, E0.out, E1.out, E2.out, E3.out]), by (repeat' (first | (with_reducible exact Below.refl _ _) | (with_reducible assumption) | (with_reducible refine below_drewN ?_ _) | (with_reducible refine below_after (by assumption) ?_ ?_) | (with_reducible refine Below.drew ?_) | (with_reducible refine Below.alloc ?_ ?_ _) | (with_reducible refine Below.setCell ?_ ?_ _) | omega | (simp; omega) | (simp; done)))⟩
        · go_wp2_with fail
          refine (K4.out _ (HP.out.next (by (repeat' (first | (with_reducible exact Below.refl _ _) | (with_reducible assumption) | (with_reducible refine below_drewN ?_ _) | (with_reducible refine below_after (by assumption) ?_ ?_) | (with_reducible refine Below.drew ?_) | (with_reducible refine Below.alloc ?_ ?_ _) | (with_reducible refine Below.setCell ?_ ?_ _) | omega | (simp; omega) | (simp; done))))).badSource (HQ.out.next (by (repeat' (first | (with_reducible exact Below.refl _ _) | (with_reducible assumption) | (with_reducible refine below_drewN ?_ _) | (with_reducible refine below_after (by assumption) ?_ ?_) | (with_reducible refine Below.drew ?_) | (with_reducible refine Below.alloc ?_ ?_ _) | (with_reducible refine Below.setCell ?_ ?_ _) | omega | (simp; omega) | (simp; done))))).badSource).mono ?_
          rintro e v4 ⟨rfl, hB4⟩
          obtain ⟨hc4, hf4⟩ := bcell hB4
          have hz4 := hB4.size
          have y4 : w.heap.size < v4.heap.size := by omega
          have x4 : w.heap.size + 1 < v4.heap.size := by omega
          cases b4
          · go_wp2
            go_ret
            exact ⟨ret_bool (by simp [sameS, E0.out, E1.out, E2.out, E3.out, E4.out]), by (repeat' (first | (with_reducible exact Below.refl _ _) | (with_reducible assumption) | (with_reducible refine below_drewN ?_ _) | (with_reducible refine below_after (by assumption) ?_ ?_) | (with_reducible refine Below.drew ?_) | (with_reducible refine Below.alloc ?_ ?_ _) | (with_reducible refine Below.setCell ?_ ?_ _) | omega | (simp; omega) | (simp; done)))⟩
          · go_wp2_with fail
            refine (K5.out _ (HP.out.next (by (repeat' (first | (with_reducible exact Below.refl _ _) | (with_reducible assumption) | (with_reducible refine below_drewN ?_ _) | (with_reducible refine below_after (by assumption) ?_ ?_) | (with_reducible refine Below.drew ?_) | (with_reducible refine Below.alloc ?_ ?_ _) | (with_reducible refine Below.setCell ?_ ?_ _) | omega | (simp; omega) | (simp; done))))).earthed (HQ.out.next (by (repeat' (first | (with_reducible exact Below.refl _ _) | (with_reducible assumption) | (with_reducible refine below_drewN ?_ _) | (with_reducible refine below_after (by assumption) ?_ ?_) | (with_reducible refine Below.drew ?_) | (with_reducible refine Below.alloc ?_ ?_ _) | (with_reducible refine Below.setCell ?_ ?_ _) | omega | (simp; omega) | (simp; done))))).earthed).mono ?_
            rintro e v5 ⟨rfl, hB5⟩
            obtain ⟨hc5, hf5⟩ := bcell hB5
            have hz5 := hB5.size
            have y5 : w.heap.size < v5.heap.size := by omega
            have x5 : w.heap.size + 1 < v5.heap.size := by omega
            cases b5
            · go_wp2
              go_ret
              exact ⟨ret_bool (by simp [sameS, E0.out, E1.out, E2.out, E3.out, E4.out, E5.out]), by (repeat' (first | (with_reducible exact Below.refl _ _) | (with_reducible assumption) | (with_reducible refine below_drewN ?_ _) | (with_reducible refine below_after (by assumption) ?_ ?_) | (with_reducible refine Below.drew ?_) | (with_reducible refine Below.alloc ?_ ?_ _) | (with_reducible refine Below.setCell ?_ ?_ _) | omega | (simp; omega) | (simp; done)))⟩
            · go_wp2_with fail
              refine (K6.out _ (HP.out.next (by (repeat' (first | (with_reducible exact Below.refl _ _) | (with_reducible assumption) | (with_reducible refine below_drewN ?_ _) | (with_reducible refine below_after (by assumption) ?_ ?_) | (with_reducible refine Below.drew ?_) | (with_reducible refine Below.alloc ?_ ?_ _) | (with_reducible refine Below.setCell ?_ ?_ _) | omega | (simp; omega) | (simp; done))))).badBus (HQ.out.next (by (repeat' (first | (with_reducible exact Below.refl _ _) | (with_reducible assumption) | (with_reducible refine below_drewN ?_ _) | (with_reducible refine below_after (by assumption) ?_ ?_) | (with_reducible refine Below.drew ?_) | (with_reducible refine Below.alloc ?_ ?_ _) | (with_reducible refine Below.setCell ?_ ?_ _) | omega | (simp; omega) | (simp; done))))).badBus).mono ?_
              rintro e v6 ⟨rfl, hB6⟩
              obtain ⟨hc6, hf6⟩ := bcell hB6
              have hz6 := hB6.size
              have y6 : w.heap.size < v6.heap.size := by omega
              have x6 : w.heap.size + 1 < v6.heap.size := by omega
              go_wp2
              go_ret
              exact ⟨ret_bool (by simp [sameS, E0.out, E1.out, E2.out, E3.out, E4.out, E5.out, E6.out]), by (repeat' (first | (with_reducible exact Below.refl _ _) | (with_reducible assumption) | (with_reducible refine below_drewN ?_ _) | (with_reducible refine below_after (by assumption) ?_ ?_) | (with_reducible refine Below.drew ?_) | (with_reducible refine Below.alloc ?_ ?_ _) | (with_reducible refine Below.setCell ?_ ?_ _) | omega | (simp; omega) | (simp; done)))⟩
end Go.Proofs.YtcnmfblbfpcghaaGreatDoor
