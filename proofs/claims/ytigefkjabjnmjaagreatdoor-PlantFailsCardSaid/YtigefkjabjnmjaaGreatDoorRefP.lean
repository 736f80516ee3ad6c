/- The reference's Parts; the kit's SameParts; Initial and Parts with an error. -/
import Derived.Test.YtigefkjabjnmjaaGreatDoorRefI
import Derived.Test.YtigefkjabjnmjaaGreatDoorWithE
import Derived.Test.YtigefkjabjnmjaaGreatDoorParts
namespace Go.Proofs.YtigefkjabjnmjaaGreatDoor
open Go.RowKit

def initC (p : Plt) : List (List Bool) := if check p = 0 then initCont p p.buses.toNat else nilS.cont
def partsOf (p : Plt) : List (Int × Int) := if check p = 0 then partL p.buses.toNat p.sn p.ln else []
set_option maxRecDepth 100000 in
set_option maxHeartbeats 4000000 in
theorem initial_bad (p : Plt) (w : World) (hp : PltIn w w.heap.size p) (hc : ¬ check p = 0) :
    Calls Tryz.prog 27 #[p.val] w fun e w' => e = .returned (.tuple #[nilStt, .int .i64 (check p)]) ∧ Below w.heap.size w w' := by
  have HP := Lib.hid hp
  have C := Lib.hid (fun W hp => check_any p W hp)
  obtain ⟨cv, hcv⟩ : ∃ q, check p = q := ⟨_, rfl⟩
  rw [hcv] at C hc ⊢
  clear hp hcv
  have hB0 : Below w.heap.size w ((w.alloc (.cells (pBox0 p) 26)).alloc (.cells #[.slice none 0 0, .slice none 0 0, .slice none 0 0, .slice none 0 0, .slice none 0 0, .slice none 0 0, .slice none 0 0] 29)) := by (repeat' (first | (with_reducible exact Below.refl _ _) | (with_reducible assumption) | (with_reducible refine below_drewN ?_ _) | (with_reducible refine below_after (by assumption) ?_ ?_) | (with_reducible refine Below.drew ?_) | (with_reducible refine Below.alloc ?_ ?_ _) | (with_reducible refine Below.setCell ?_ ?_ _) | omega | (simp; omega) | (simp; done)))
  unfold Plt.val at C ⊢
  go_enter Tryz.func27, Tryz.ntmps27
  go_wp2_with fail
  refine (C.out _ (HP.out.next hB0)).mono ?_
  rintro e w1 ⟨rfl, hB1⟩
  have hz1 := hB1.size
  simp only [World.size_alloc] at hz1
  have hO : Blk w1 (w.heap.size + 1) 29 #[.slice none 0 0, .slice none 0 0, .slice none 0 0, .slice none 0 0, .slice none 0 0, .slice none 0 0, .slice none 0 0] := by
    have h := heap_alloc_new (w.alloc (.cells (pBox0 p) 26)) (.cells #[.slice none 0 0, .slice none 0 0, .slice none 0 0, .slice none 0 0, .slice none 0 0, .slice none 0 0, .slice none 0 0] 29)
    rw [World.size_alloc] at h
    exact (show Blk _ _ _ _ from h).below hB1 (by simp)
  obtain ⟨o0, o1, o2, o3, o4, o5, o6⟩ := cells7 hO
  have fz := hO.frozen
  have z1 : w.heap.size + 1 < w1.heap.size := by omega
  have hBw1 : Below w.heap.size w w1 := hB0.trans (hB1.mono (by simp; omega))
  clear hO hB0 hB1 C
  (dsimp only; repeat' (first | go_values | go_skip | go_guarded | go_step | go_upon))
  refine bodyPost_ret (v := .tuple #[nilStt, .int .i64 cv]) ?_ rfl ⟨rfl, by (repeat' (first | (with_reducible exact Below.refl _ _) | (with_reducible assumption) | (with_reducible refine below_drewN ?_ _) | (with_reducible refine below_after (by assumption) ?_ ?_) | (with_reducible refine Below.drew ?_) | (with_reducible refine Below.alloc ?_ ?_ _) | (with_reducible refine Below.setCell ?_ ?_ _) | omega | (simp; omega) | (simp; done)))⟩
  simp [results, Tryz.results27, go_sem, nilStt, o0, o1, o2, o3, o4, o5, o6, z1]
set_option maxRecDepth 100000 in
set_option maxHeartbeats 4000000 in
theorem refInitial_bad (p : Plt) (w : World) (hp : PltIn w w.heap.size p) (hc : ¬ check p = 0) :
    Calls Tryz.prog 28 #[p.val] w fun e w' => e = .returned (.tuple #[nilStt, .int .i64 (check p)]) ∧ Below w.heap.size w w' := by
  have HP := Lib.hid hp
  have C := Lib.hid (fun W hp => refCheck_any p W hp)
  obtain ⟨cv, hcv⟩ : ∃ q, check p = q := ⟨_, rfl⟩
  rw [hcv] at C hc ⊢
  clear hp hcv
  have hB0 : Below w.heap.size w ((w.alloc (.cells (pBox0 p) 26)).alloc (.cells #[.slice none 0 0, .slice none 0 0, .slice none 0 0, .slice none 0 0, .slice none 0 0, .slice none 0 0, .slice none 0 0] 29)) := by (repeat' (first | (with_reducible exact Below.refl _ _) | (with_reducible assumption) | (with_reducible refine below_drewN ?_ _) | (with_reducible refine below_after (by assumption) ?_ ?_) | (with_reducible refine Below.drew ?_) | (with_reducible refine Below.alloc ?_ ?_ _) | (with_reducible refine Below.setCell ?_ ?_ _) | omega | (simp; omega) | (simp; done)))
  unfold Plt.val at C ⊢
  go_enter Tryz.func28, Tryz.ntmps28
  go_wp2_with fail
  refine (C.out _ (HP.out.next hB0)).mono ?_
  rintro e w1 ⟨rfl, hB1⟩
  have hz1 := hB1.size
  simp only [World.size_alloc] at hz1
  have hO : Blk w1 (w.heap.size + 1) 29 #[.slice none 0 0, .slice none 0 0, .slice none 0 0, .slice none 0 0, .slice none 0 0, .slice none 0 0, .slice none 0 0] := by
    have h := heap_alloc_new (w.alloc (.cells (pBox0 p) 26)) (.cells #[.slice none 0 0, .slice none 0 0, .slice none 0 0, .slice none 0 0, .slice none 0 0, .slice none 0 0, .slice none 0 0] 29)
    rw [World.size_alloc] at h
    exact (show Blk _ _ _ _ from h).below hB1 (by simp)
  obtain ⟨o0, o1, o2, o3, o4, o5, o6⟩ := cells7 hO
  have fz := hO.frozen
  have z1 : w.heap.size + 1 < w1.heap.size := by omega
  have hBw1 : Below w.heap.size w w1 := hB0.trans (hB1.mono (by simp; omega))
  clear hO hB0 hB1 C
  (dsimp only; repeat' (first | go_values | go_skip | go_guarded | go_step | go_upon))
  refine bodyPost_ret (v := .tuple #[nilStt, .int .i64 cv]) ?_ rfl ⟨rfl, by (repeat' (first | (with_reducible exact Below.refl _ _) | (with_reducible assumption) | (with_reducible refine below_drewN ?_ _) | (with_reducible refine below_after (by assumption) ?_ ?_) | (with_reducible refine Below.drew ?_) | (with_reducible refine Below.alloc ?_ ?_ _) | (with_reducible refine Below.setCell ?_ ?_ _) | omega | (simp; omega) | (simp; done)))⟩
  simp [results, Tryz.results28, go_sem, nilStt, o0, o1, o2, o3, o4, o5, o6, z1]
theorem initial_all (p : Plt) (w : World) (hp : PltIn w w.heap.size p) :
    Calls Tryz.prog 27 #[p.val] w fun e w' => ∃ t : Stt, e = .returned (.tuple #[t.val, .int .i64 (check p)]) ∧ Below w.heap.size w w' ∧ SttOwn w' w.heap.size t ∧ t.cont = initC p := by
  by_cases hc : check p = 0
  · obtain ⟨B, hB, h1, h2⟩ := check_buses hc
    have e : initC p = initCont p B := by unfold initC; rw [if_pos hc, hB]; rfl
    rw [hc, e]
    exact initial_any p B w hp hc hB h2
  · refine (initial_bad p w hp hc).mono ?_
    rintro e w' ⟨rfl, hB⟩
    exact ⟨nilS, rfl, hB, nilS_own _ _, by unfold initC; rw [if_neg hc]⟩
theorem refInitial_all (p : Plt) (w : World) (hp : PltIn w w.heap.size p) :
    Calls Tryz.prog 28 #[p.val] w fun e w' => ∃ t : Stt, e = .returned (.tuple #[t.val, .int .i64 (check p)]) ∧ Below w.heap.size w w' ∧ SttOwn w' w.heap.size t ∧ t.cont = initC p := by
  by_cases hc : check p = 0
  · obtain ⟨B, hB, h1, h2⟩ := check_buses hc
    have e : initC p = initCont p B := by unfold initC; rw [if_pos hc, hB]; rfl
    rw [hc, e]
    exact refInitial_ok p B w hp hc hB h2
  · refine (refInitial_bad p w hp hc).mono ?_
    rintro e w' ⟨rfl, hB⟩
    exact ⟨nilS, rfl, hB, nilS_own _ _, by unfold initC; rw [if_neg hc]⟩
set_option maxRecDepth 100000 in
set_option maxHeartbeats 4000000 in
theorem parts_bad (p : Plt) (w : World) (hp : PltIn w w.heap.size p) (hc : ¬ check p = 0) :
    Calls Tryz.prog 29 #[p.val] w fun e w' => e = .returned (.tuple #[.slice none 0 0, .int .i64 (check p)]) ∧ Below w.heap.size w w' := by
  have HP := Lib.hid hp
  have C := Lib.hid (fun W hp => check_any p W hp)
  obtain ⟨cv, hcv⟩ : ∃ q, check p = q := ⟨_, rfl⟩
  rw [hcv] at C hc ⊢
  clear hp hcv
  unfold Plt.val at C ⊢
  go_enter Tryz.func29, Tryz.ntmps29
  go_wp2_with fail
  refine (C.out _ (HP.out.next (by (repeat' (first | (with_reducible exact Below.refl _ _) | (with_reducible assumption) | (with_reducible refine below_drewN ?_ _) | (with_reducible refine below_after (by assumption) ?_ ?_) | (with_reducible refine Below.drew ?_) | (with_reducible refine Below.alloc ?_ ?_ _) | (with_reducible refine Below.setCell ?_ ?_ _) | omega | (simp; omega) | (simp; done)))))).mono ?_
  rintro e w1 ⟨rfl, hB1⟩
  go_wp2
  refine bodyPost_ret (results_tmp2 rfl _ _ _) rfl ⟨rfl, by (repeat' (first | (with_reducible exact Below.refl _ _) | (with_reducible assumption) | (with_reducible refine below_drewN ?_ _) | (with_reducible refine below_after (by assumption) ?_ ?_) | (with_reducible refine Below.drew ?_) | (with_reducible refine Below.alloc ?_ ?_ _) | (with_reducible refine Below.setCell ?_ ?_ _) | omega | (simp; omega) | (simp; done)))⟩
set_option maxRecDepth 100000 in
set_option maxHeartbeats 4000000 in
theorem refParts_bad (p : Plt) (w : World) (hp : PltIn w w.heap.size p) (hc : ¬ check p = 0) :
    Calls Tryz.prog 30 #[p.val] w fun e w' => e = .returned (.tuple #[.slice none 0 0, .int .i64 (check p)]) ∧ Below w.heap.size w w' := by
  have HP := Lib.hid hp
  have C := Lib.hid (fun W hp => refCheck_any p W hp)
  obtain ⟨cv, hcv⟩ : ∃ q, check p = q := ⟨_, rfl⟩
  rw [hcv] at C hc ⊢
  clear hp hcv
  unfold Plt.val at C ⊢
  go_enter Tryz.func30, Tryz.ntmps30
  go_wp2_with fail
  refine (C.out _ (HP.out.next (by (repeat' (first | (with_reducible exact Below.refl _ _) | (with_reducible assumption) | (with_reducible refine below_drewN ?_ _) | (with_reducible refine below_after (by assumption) ?_ ?_) | (with_reducible refine Below.drew ?_) | (with_reducible refine Below.alloc ?_ ?_ _) | (with_reducible refine Below.setCell ?_ ?_ _) | omega | (simp; omega) | (simp; done)))))).mono ?_
  rintro e w1 ⟨rfl, hB1⟩
  go_wp2
  refine bodyPost_ret (results_tmp2 rfl _ _ _) rfl ⟨rfl, by (repeat' (first | (with_reducible exact Below.refl _ _) | (with_reducible assumption) | (with_reducible refine below_drewN ?_ _) | (with_reducible refine below_after (by assumption) ?_ ?_) | (with_reducible refine Below.drew ?_) | (with_reducible refine Below.alloc ?_ ?_ _) | (with_reducible refine Below.setCell ?_ ?_ _) | omega | (simp; omega) | (simp; done)))⟩
set_option maxRecDepth 100000 in
set_option maxHeartbeats 8000000 in
theorem refParts_ok (p : Plt) (B : Nat) (w : World) (hp : PltIn w w.heap.size p) (hc : check p = 0) (hB : p.buses = B) (hB24 : B ≤ 24) :
    Calls Tryz.prog 30 #[p.val] w fun e w' => ∃ A c, e = .returned (.tuple #[.slice A (B + p.sn + p.ln) c, .int .i64 0]) ∧ Below w.heap.size w w' ∧ w'.ownsRow w.heap.size 60 2 (.slice A (B + p.sn + p.ln) c) (B + p.sn + p.ln) (kindCells 1 B ++ kindCells 2 p.sn ++ kindCells 3 p.ln) := by
  obtain ⟨k1, k2, k3⟩ := check_small hc hp
  obtain ⟨i0, hi, hz0, hz1, hz2⟩ := info_parts partInfo
  have HP := Lib.hid hp
  have C := Lib.hid (fun W hp => refCheck_any p W hp)
  rw [hc] at C
  clear hp hc
  have hB0 : Below w.heap.size w (w.alloc (.cells #[.int .i64 B, .slice p.sA p.sn p.sc, .slice p.lA p.ln p.lc, .slice p.rA p.rn p.rc] 26)) := by (repeat' (first | (with_reducible exact Below.refl _ _) | (with_reducible assumption) | (with_reducible refine below_drewN ?_ _) | (with_reducible refine below_after (by assumption) ?_ ?_) | (with_reducible refine Below.drew ?_) | (with_reducible refine Below.alloc ?_ ?_ _) | (with_reducible refine Below.setCell ?_ ?_ _) | omega | (simp; omega) | (simp; done)))
  unfold Plt.val at C ⊢
  rw [hB] at C ⊢
  go_enter Tryz.func30, Tryz.ntmps30
  go_wp2_with fail
  refine (C.out _ (HP.out.next hB0)).mono ?_
  rintro e w1 ⟨rfl, hB1⟩
  have hzw := hB1.size
  simp only [World.size_alloc] at hzw
  have HPB : Hid (Blk w1 w.heap.size 26 #[.int .i64 B, .slice p.sA p.sn p.sc, .slice p.lA p.ln p.lc, .slice p.rA p.rn p.rc]) := (show Blk _ _ _ _ from heap_alloc_new w _).below hB1 (by simp)
  have hBw1 : Below w.heap.size w w1 := hB0.trans (hB1.mono (by simp))
  clear hB0 hB1 C hB
  go_wp2
  go_loopw [5, 6] (fun v i wr => ∃ k : Nat, k ≤ B ∧ i = .int .i64 k ∧ Below w1.heap.size w1 wr ∧ Hid (wr.ownsRow w1.heap.size 60 2 v (0 + k) (([] : List Value) ++ kindCells 1 k))) (fun _ i _ => B - (intOf i).toNat)
  case atStart => exact ⟨0, by omega, rfl, Below.refl _ _, (show World.ownsRow _ _ _ _ _ _ _ by simpa [kindCells] using World.ownsRow_nil w1 _ _ _)⟩
  obtain ⟨k, hk, rfl, hB, hR⟩ := hrel
  have hz := hB.size
  have bP := HPB.out.below hB (Blk.lt HPB.out)
  have x0 : wr.cell? ⟨w.heap.size, 0, none⟩ = some (.int .i64 B) := bP.cell 0
  have x1 : wr.cell? ⟨w.heap.size, 1, none⟩ = some (.slice p.sA p.sn p.sc) := bP.cell 1
  have x2 : wr.cell? ⟨w.heap.size, 2, none⟩ = some (.slice p.lA p.ln p.lc) := bP.cell 2
  clear bP
  by_cases hlt : k < B
  · have hkn : (k : Int) < (B : Int) := by omega
    go_wp2_with (at_builtin; refine wpList_append_own_at _ rfl (.tmp 20) (.tmp 23) 63 rfl w1.heap.size 60 i0 (.agg #[.int .i64 0, .int .i64 0]) 2 16 Tryz.underlying63 hi hz0 hz1 hz2 rfl (by decide) _ (0 + k) (([] : List Value) ++ kindCells 1 k) rfl (hR.out.alloc _) ⟨wr.heap.size, 0, none⟩ 1 1 (partCells 1 k) rfl rfl ?_ ?_ ?_ ?_ ?_ ?_)
    case _ =>
      intro i x hx
      match i, hx with
      | 0, hx =>
        simp only [partCells, List.getElem?_cons_zero, Option.some.injEq] at hx
        subst hx
        simp [Addr.add, go_sem]
      | 1, hx =>
        simp only [partCells, List.getElem?_cons_succ, List.getElem?_cons_zero, Option.some.injEq] at hx
        subst hx
        simp [Addr.add, go_sem]
    case _ =>
      intro x hx
      simp only [partCells, List.mem_cons, List.mem_nil_iff, or_false] at hx
      rcases hx with rfl | rfl <;> rfl
    case _ => simp only [maxLen]; omega
    case _ => omega
    case _ => simp; omega
    intro v' w2 hown hg _ _
    have hB2 : Below w1.heap.size w1 w2 := (hB.alloc hz _).grown hg (by simp; omega) (fun j e => (hR.out.lt j e).1)
    have hR2 : Hid (w2.ownsRow w1.heap.size 60 2 v' (0 + (k + 1)) (([] : List Value) ++ kindCells 1 (k + 1))) := by
      show World.ownsRow _ _ _ _ _ _ _
      simpa [kindCells_succ, Nat.add_assoc, List.append_assoc] using hown
    clear hown hg x0 x1 x2 hR
    go_wp2
    go_roundw
    case rel => exact ⟨k + 1, by omega, by go_num, hB2, hR2⟩
    case measure => simp [intOf]; omega
  obtain rfl : B = k := by omega
  go_wp2
  go_loopw [5, 7] (fun v i wr => ∃ k : Nat, k ≤ p.sn ∧ i = .int .i64 k ∧ Below w1.heap.size w1 wr ∧ Hid (wr.ownsRow w1.heap.size 60 2 v (B + k) (kindCells 1 B ++ kindCells 2 k))) (fun _ i _ => p.sn - (intOf i).toNat)
  case atStart => exact ⟨0, by omega, rfl, hB, (show World.ownsRow _ _ _ _ _ _ _ by simpa [kindCells] using hR.out)⟩
  obtain ⟨k, hk, rfl, hB, hR⟩ := hrel
  have hz := hB.size
  have bP := HPB.out.below hB (Blk.lt HPB.out)
  have x0 : wr.cell? ⟨w.heap.size, 0, none⟩ = some (.int .i64 B) := bP.cell 0
  have x1 : wr.cell? ⟨w.heap.size, 1, none⟩ = some (.slice p.sA p.sn p.sc) := bP.cell 1
  have x2 : wr.cell? ⟨w.heap.size, 2, none⟩ = some (.slice p.lA p.ln p.lc) := bP.cell 2
  clear bP
  by_cases hlt : k < p.sn
  · have hkn : (k : Int) < (p.sn : Int) := by omega
    go_wp2_with (at_builtin; refine wpList_append_own_at _ rfl (.tmp 32) (.tmp 35) 63 rfl w1.heap.size 60 i0 (.agg #[.int .i64 0, .int .i64 0]) 2 16 Tryz.underlying63 hi hz0 hz1 hz2 rfl (by decide) _ (B + k) (kindCells 1 B ++ kindCells 2 k) rfl (hR.out.alloc _) ⟨wr.heap.size, 0, none⟩ 1 1 (partCells 2 k) rfl rfl ?_ ?_ ?_ ?_ ?_ ?_)
    case _ =>
      intro i x hx
      match i, hx with
      | 0, hx =>
        simp only [partCells, List.getElem?_cons_zero, Option.some.injEq] at hx
        subst hx
        simp [Addr.add, go_sem]
      | 1, hx =>
        simp only [partCells, List.getElem?_cons_succ, List.getElem?_cons_zero, Option.some.injEq] at hx
        subst hx
        simp [Addr.add, go_sem]
    case _ =>
      intro x hx
      simp only [partCells, List.mem_cons, List.mem_nil_iff, or_false] at hx
      rcases hx with rfl | rfl <;> rfl
    case _ => simp only [maxLen]; omega
    case _ => omega
    case _ => simp; omega
    intro v' w2 hown hg _ _
    have hB2 : Below w1.heap.size w1 w2 := (hB.alloc hz _).grown hg (by simp; omega) (fun j e => (hR.out.lt j e).1)
    have hR2 : Hid (w2.ownsRow w1.heap.size 60 2 v' (B + (k + 1)) (kindCells 1 B ++ kindCells 2 (k + 1))) := by
      show World.ownsRow _ _ _ _ _ _ _
      simpa [kindCells_succ, Nat.add_assoc, List.append_assoc] using hown
    clear hown hg x0 x1 x2 hR
    go_wp2
    go_roundw
    case rel => exact ⟨k + 1, by omega, by go_num, hB2, hR2⟩
    case measure => simp [intOf]; omega
  obtain rfl : p.sn = k := by omega
  go_wp2
  go_loopw [5, 8] (fun v i wr => ∃ k : Nat, k ≤ p.ln ∧ i = .int .i64 k ∧ Below w1.heap.size w1 wr ∧ Hid (wr.ownsRow w1.heap.size 60 2 v ((B + p.sn) + k) ((kindCells 1 B ++ kindCells 2 p.sn) ++ kindCells 3 k))) (fun _ i _ => p.ln - (intOf i).toNat)
  case atStart => exact ⟨0, by omega, rfl, hB, (show World.ownsRow _ _ _ _ _ _ _ by simpa [kindCells] using hR.out)⟩
  obtain ⟨k, hk, rfl, hB, hR⟩ := hrel
  have hz := hB.size
  have bP := HPB.out.below hB (Blk.lt HPB.out)
  have x0 : wr.cell? ⟨w.heap.size, 0, none⟩ = some (.int .i64 B) := bP.cell 0
  have x1 : wr.cell? ⟨w.heap.size, 1, none⟩ = some (.slice p.sA p.sn p.sc) := bP.cell 1
  have x2 : wr.cell? ⟨w.heap.size, 2, none⟩ = some (.slice p.lA p.ln p.lc) := bP.cell 2
  clear bP
  by_cases hlt : k < p.ln
  · have hkn : (k : Int) < (p.ln : Int) := by omega
    go_wp2_with (at_builtin; refine wpList_append_own_at _ rfl (.tmp 44) (.tmp 47) 63 rfl w1.heap.size 60 i0 (.agg #[.int .i64 0, .int .i64 0]) 2 16 Tryz.underlying63 hi hz0 hz1 hz2 rfl (by decide) _ ((B + p.sn) + k) ((kindCells 1 B ++ kindCells 2 p.sn) ++ kindCells 3 k) rfl (hR.out.alloc _) ⟨wr.heap.size, 0, none⟩ 1 1 (partCells 3 k) rfl rfl ?_ ?_ ?_ ?_ ?_ ?_)
    case _ =>
      intro i x hx
      match i, hx with
      | 0, hx =>
        simp only [partCells, List.getElem?_cons_zero, Option.some.injEq] at hx
        subst hx
        simp [Addr.add, go_sem]
      | 1, hx =>
        simp only [partCells, List.getElem?_cons_succ, List.getElem?_cons_zero, Option.some.injEq] at hx
        subst hx
        simp [Addr.add, go_sem]
    case _ =>
      intro x hx
      simp only [partCells, List.mem_cons, List.mem_nil_iff, or_false] at hx
      rcases hx with rfl | rfl <;> rfl
    case _ => simp only [maxLen]; omega
    case _ => omega
    case _ => simp; omega
    intro v' w2 hown hg _ _
    have hB2 : Below w1.heap.size w1 w2 := (hB.alloc hz _).grown hg (by simp; omega) (fun j e => (hR.out.lt j e).1)
    have hR2 : Hid (w2.ownsRow w1.heap.size 60 2 v' ((B + p.sn) + (k + 1)) ((kindCells 1 B ++ kindCells 2 p.sn) ++ kindCells 3 (k + 1))) := by
      show World.ownsRow _ _ _ _ _ _ _
      simpa [kindCells_succ, Nat.add_assoc, List.append_assoc] using hown
    clear hown hg x0 x1 x2 hR
    go_wp2
    go_roundw
    case rel => exact ⟨k + 1, by omega, by go_num, hB2, hR2⟩
    case measure => simp [intOf]; omega
  obtain rfl : p.ln = k := by omega
  obtain ⟨A, c, e⟩ : ∃ A c, u5 = .slice A (B + p.sn + p.ln) c := by
    rcases hR.out.2 with ⟨e, h0⟩ | ⟨g, cap, cur, e, _⟩
    · exact ⟨none, 0, by rw [e, h0]⟩
    · exact ⟨_, _, e⟩
  subst e
  have HR := Lib.hid hR.out
  clear hR
  go_wp2
  refine bodyPost_ret (results_tmp2 rfl _ _ _) rfl ⟨A, c, rfl, hBw1.trans (hB.mono (by omega)), HR.out.mono_base (by omega)⟩
theorem SameParts_any (A A' : Option Addr) (n n' c c' : Nat) (l m : List (Int × Int)) (w : World) (hl : Rd w w.heap.size 2 encP A n l) (hm : Rd w w.heap.size 2 encP A' n' m) (hn : n ≤ 9223372036854775807) (hn' : n' ≤ 9223372036854775807) :
    Calls Tryz.prog 31 #[.slice A n c, .slice A' n' c'] w fun e w' => e = .returned (.bool (sameL l m)) ∧ Below w.heap.size w w' := by
  have HL := Lib.hid hl
  have HM := Lib.hid hm
  have e1 := Lib.hid hl.1
  have e2 := Lib.hid hm.1
  clear hl hm
  go_enter Tryz.func31, Tryz.ntmps31
  by_cases hq : n = n'
  · subst hq
    go_wp2
    go_loopw [5] (fun i wr => ∃ k : Nat, k ≤ n ∧ i = .int .i64 k ∧ Below w.heap.size w wr ∧ Hid (∀ j, j < k → l[j]? = m[j]?)) (fun i _ => n - (intOf i).toNat)
    case atStart => exact ⟨0, by omega, rfl, Below.refl _ _, fun j hj => absurd hj (by omega)⟩
    case round =>
      obtain ⟨k, hk, rfl, hB, hE⟩ := hrel
      have hz' := hB.size
      by_cases hlt : k < n
      · obtain ⟨b, off, x, rfl, hb, hx, hcx⟩ := (HL.out.below hB).at_ hlt
        obtain ⟨b', off', y, rfl, hb', hy, hcy⟩ := (HM.out.below hB).at_ hlt
        obtain ⟨x1, x2⟩ := x
        obtain ⟨y1, y2⟩ := y
        obtain ⟨c0, c0'⟩ := cellP hcx
        obtain ⟨c1, c1'⟩ := cellP hcy
        have HX := Lib.hid hx
        have HY := Lib.hid hy
        have hk0 : (0 : Int) ≤ (k : Int) := by omega
        have hkn : (k : Int) < (n : Int) := by omega
        have hkw : IntKind.i64.wrap (k : Int) = (k : Int) := IntWalk.i64_in _ (by omega)
        clear hx hy hcx hcy
        by_cases hxy : (x1, x2) = (y1, y2)
        · cases hxy
          have hE' : Hid (∀ j, j < k + 1 → l[j]? = m[j]?) := fun j hj => by
            rcases Nat.lt_or_ge j k with h | h
            · exact hE.out j h
            · obtain rfl : j = k := by omega
              rw [HX.out, HY.out]
          go_wp2
          go_quiet (fail)
          go_wp2
          go_roundw
          case rel => exact ⟨k + 1, by omega, by go_num, by (repeat' (first | (with_reducible exact Below.refl _ _) | (with_reducible assumption) | (with_reducible refine below_drewN ?_ _) | (with_reducible refine below_after (by assumption) ?_ ?_) | (with_reducible refine Below.drew ?_) | (with_reducible refine Below.alloc ?_ ?_ _) | (with_reducible refine Below.setCell ?_ ?_ _) | omega | (simp; omega) | (simp; done))), hE'⟩
          case measure => simp [intOf]; omega
        · have hd : sameL l m = false := by
            unfold sameL
            rw [decide_eq_false_iff_not]
            intro h
            have h1 := HX.out
            rw [h, HY.out] at h1
            simp only [Option.some.injEq] at h1
            exact hxy h1.symm
          by_cases h1 : x1 = y1
          · subst h1
            have h2 : ¬ x2 = y2 := fun h => hxy (by rw [h])
            go_wp2
            go_quiet (fail)
            go_wp2
            all_goals first | (rename_i hz; exfalso; simp at hz; omega) | (go_ret; exact ⟨ret_bool hd.symm, by (repeat' (first | (with_reducible exact Below.refl _ _) | (with_reducible assumption) | (with_reducible refine below_drewN ?_ _) | (with_reducible refine below_after (by assumption) ?_ ?_) | (with_reducible refine Below.drew ?_) | (with_reducible refine Below.alloc ?_ ?_ _) | (with_reducible refine Below.setCell ?_ ?_ _) | omega | (simp; omega) | (simp; done)))⟩)
          · go_wp2
            go_quiet (fail)
            go_wp2
            all_goals first | (rename_i hz; exfalso; simp at hz; omega) | (go_ret; exact ⟨ret_bool hd.symm, by (repeat' (first | (with_reducible exact Below.refl _ _) | (with_reducible assumption) | (with_reducible refine below_drewN ?_ _) | (with_reducible refine below_after (by assumption) ?_ ?_) | (with_reducible refine Below.drew ?_) | (with_reducible refine Below.alloc ?_ ?_ _) | (with_reducible refine Below.setCell ?_ ?_ _) | omega | (simp; omega) | (simp; done)))⟩)
      · have hd : sameL l m = true := by
          unfold sameL
          rw [decide_eq_true_iff]
          apply List.ext_getElem?
          intro j
          rcases Nat.lt_or_ge j k with h | h
          · exact hE.out j h
          · rw [List.getElem?_eq_none (by rw [e1.out]; omega), List.getElem?_eq_none (by rw [e2.out]; omega)]
        go_wp2
        go_ret
        exact ⟨ret_bool hd.symm, hB⟩
  · have hd : sameL l m = false := by
      unfold sameL
      rw [decide_eq_false_iff_not]
      intro h
      apply hq
      rw [← e1.out, ← e2.out, h]
    go_wp2
    go_ret
    exact ⟨ret_bool hd.symm, Below.refl _ _⟩

end Go.Proofs.YtigefkjabjnmjaaGreatDoor
