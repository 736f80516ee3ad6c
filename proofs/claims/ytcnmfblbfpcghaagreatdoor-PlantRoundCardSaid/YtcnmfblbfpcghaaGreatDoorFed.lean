/- plant.Fed. -/
import Derived.Test.YtcnmfblbfpcghaaGreatDoorPairs
import Derived.StillTailTactics

set_option linter.unusedSimpArgs false
set_option linter.unusedVariables false
namespace Go.Proofs.YtcnmfblbfpcghaaGreatDoor
open Go.RowKit

theorem bool2Info : (Tryz.prog.info? 83).map (fun i => (i.zero, i.size, i.bytes)) = some (some (.agg #[.bool false, .bool false]), 2, 2) := by kernel_rfl
theorem madeCells_bool2 (n : Nat) : madeCells (Value.agg #[.bool false, .bool false]).cells (n * 2) = bools (List.replicate (n * 2) false) := by
  unfold madeCells bools
  apply Array.ext
  · simp
  · intro i h1 h2
    have : i % 2 = 0 ∨ i % 2 = 1 := by omega
    rcases this with h | h <;> simp [Value.cells, h]
/-- make([][2]bool, n). -/
theorem run_makeBool2 (n : Nat) (hn : n ≤ 24) (w : World) : (Instr.makeSlice 80 (.int .i64 n) (.int .i64 n)).run Tryz.prog w = .ok (.slice (some ⟨w.heap.size, 0, none⟩) n n) (w.alloc (.cells (bools (List.replicate (n * 2) false)) 83)) := by
  obtain ⟨i, hi, hz, hs, hb⟩ := info_parts bool2Info
  have h := run_make (P := Tryz.prog) w 80 83 i _ Tryz.underlying80 hi hz .i64 .i64 n n (by omega) (by omega) (by rw [hb]; omega) (by omega)
  simp only [Int.toNat_natCast, hs, madeCells_bool2] at h
  exact h
/-- A feed of a rack, by value. -/
@[go_sem] theorem run_feed0 (a b : Int) (w : World) : Sem.run Tryz.prog (Instr.index 86 (.agg #[.int .i64 a, .int .i64 b]) (.int .i64 0)) w = .ok (.int .i64 a) w := by
  simp [Instr.index, run_underlying Tryz.underlying86, asIntOf, part, Tryz.isAgg3, Tryz.sizeOf3, Tryz.underlying3, go_sem]
@[go_sem] theorem run_feed1 (a b : Int) (w : World) : Sem.run Tryz.prog (Instr.index 86 (.agg #[.int .i64 a, .int .i64 b]) (.int .i64 1)) w = .ok (.int .i64 b) w := by
  simp [Instr.index, run_underlying Tryz.underlying86, asIntOf, part, Tryz.isAgg3, Tryz.sizeOf3, Tryz.underlying3, go_sem]
/-- Is a feed live? -/
def feedLive (v : List Bool) (b : Int) : Bool := decide (0 ≤ b) && v[b.toNat]?.getD false
def fedAt (R : List Rck) (v : List Bool) (q : Nat) : Bool := match R[q / 2]? with | some x => feedLive v (if q % 2 = 0 then x.f0 else x.f1) | none => false
def fedTo (R : List Rck) (v : List Bool) (n m : Nat) : List Bool := (List.range (n * 2)).map fun q => if q < m then fedAt R v q else false
theorem fedTo_zero (R : List Rck) (v : List Bool) (n : Nat) : List.replicate (n * 2) false = fedTo R v n 0 := by
  unfold fedTo
  apply List.ext_getElem
  · simp
  · intro i h1 h2
    simp
theorem fedTo_succ (R : List Rck) (v : List Bool) (n m : Nat) : (fedTo R v n m).set m (fedAt R v m) = fedTo R v n (m + 1) := by
  unfold fedTo
  apply List.ext_getElem
  · simp
  · intro i h1 h2
    rw [List.getElem_set]
    split
    · rename_i h
      subst h
      simp
    · simp only [List.getElem_map, List.getElem_range]
      have : i < m + 1 ↔ i < m := by omega
      simp only [this]
/-- Feeds of racks are buses, or -1. -/
def FeedsOk (R : List Rck) (B : Nat) : Prop := ∀ x ∈ R, (x.f0 < B) ∧ (x.f1 < B)
theorem BoolB.below {w w' : World} {g : Nat} {l : List Bool} (h : BoolB w g l) (hb : Below w.heap.size w w') : BoolB w' g l := Blk.below h hb h.lt
theorem liveL_length {B : Nat} (p : Plt) (s : Stt) (L : List (LnkOf B)) : (liveL p s L).length = B := by simp [liveL, liveTo]
theorem BoolB.set2 {w : World} {g : Nat} {T : TypeId} {l : List Bool} (h : Blk w g T (bools l)) (i : Nat) (x : Bool) : Blk (w.setCell ⟨g, i, none⟩ (.bool x)) g T (bools (l.set i x)) := by
  have e : bools (l.set i x) = (bools l).setIfInBounds i (.bool x) := by
    unfold bools
    rw [List.setIfInBounds_toArray, List.map_set]
  rw [e]
  exact Blk.set_ h i _
set_option maxRecDepth 100000 in
set_option maxHeartbeats 4000000 in
theorem fed_ok (p : Plt) (s : Stt) (B : Nat) (L : List (LnkOf B)) (S : Sound p s B L) (hR : FeedsOk p.rcks B) (hrn : p.rn ≤ 24) (w : World) (hc : checkState p s = 0) (hp : PltIn w w.heap.size p) (hs : SttIn w w.heap.size s) :
    Calls Tryz.prog 38 #[p.val, s.val] w fun e w' => ∃ g, e = .returned (.tuple #[.slice (some ⟨g, 0, none⟩) p.rn p.rn, .int .i64 0]) ∧ Below w.heap.size w w' ∧ w.heap.size ≤ g ∧ Blk w' g 83 (bools (fedTo p.rcks (liveL p s L) p.rn (p.rn * 2))) := by
  have HP := Lib.hid hp
  have HS := Lib.hid hs
  have C := Lib.hid (checkState_any p s)
  have K := Lib.hid (fun W => liveBuses_any p s B W L S.lnks S.srcs S.buses S.small S.lens)
  rw [hc] at C
  have hv := liveL_length p s L
  generalize liveL p s L = v at K hv ⊢
  clear hp hs hc
  unfold Plt.val Stt.val at C K
  unfold Plt.val Stt.val
  go_enter Tryz.func38, Tryz.ntmps38
  go_wp2_with fail
  refine (C.out _ (HP.out.next (by (repeat' (first | (with_reducible exact Below.refl _ _) | (with_reducible assumption) | (with_reducible refine below_drewN ?_ _) | (with_reducible refine below_after (by assumption) ?_ ?_) | (with_reducible refine Below.drew ?_) | (with_reducible refine Below.alloc ?_ ?_ _) | (with_reducible refine Below.setCell ?_ ?_ _) | omega | (simp; omega) | (simp; done))))) (HS.out.next (by (repeat' (first | (with_reducible exact Below.refl _ _) | (with_reducible assumption) | (with_reducible refine below_drewN ?_ _) | (with_reducible refine below_after (by assumption) ?_ ?_) | (with_reducible refine Below.drew ?_) | (with_reducible refine Below.alloc ?_ ?_ _) | (with_reducible refine Below.setCell ?_ ?_ _) | omega | (simp; omega) | (simp; done)))))).mono ?_
  rintro e w1 ⟨rfl, hB1⟩
  obtain ⟨hc1, hf1⟩ := bcell hB1
  have hz1 := hB1.size
  simp only [World.size_alloc] at hz1
  have y0 : w.heap.size < w1.heap.size := by omega
  have y1 : w.heap.size + 1 < w1.heap.size := by omega
  go_wp2_with fail
  refine (K.out _ (HP.out.next (by (repeat' (first | (with_reducible exact Below.refl _ _) | (with_reducible assumption) | (with_reducible refine below_drewN ?_ _) | (with_reducible refine below_after (by assumption) ?_ ?_) | (with_reducible refine Below.drew ?_) | (with_reducible refine Below.alloc ?_ ?_ _) | (with_reducible refine Below.setCell ?_ ?_ _) | omega | (simp; omega) | (simp; done))))) (HS.out.next (by (repeat' (first | (with_reducible exact Below.refl _ _) | (with_reducible assumption) | (with_reducible refine below_drewN ?_ _) | (with_reducible refine below_after (by assumption) ?_ ?_) | (with_reducible refine Below.drew ?_) | (with_reducible refine Below.alloc ?_ ?_ _) | (with_reducible refine Below.setCell ?_ ?_ _) | omega | (simp; omega) | (simp; done)))))).mono ?_
  rintro e w2 ⟨g, rfl, hB2, hg, hN⟩
  have zg := Blk.lt hN
  have HN := Lib.hid hN
  obtain ⟨hc2, hf2⟩ := bcell hB2
  have hz2 := hB2.size
  have y2 : w.heap.size < w2.heap.size := by omega
  clear hN
  have cP : w2.cell? ⟨w.heap.size, 3, none⟩ = some (.slice p.rA p.rn p.rc) := (hc2 _ _ y0).trans ((hc1 _ _ (by simp; omega)).trans (by simp [go_sem]))
  have HBw : Hid (Below w.heap.size w w2) := by
    have h1 : Below w.heap.size w w2 := by (repeat' (first | (with_reducible exact Below.refl _ _) | (with_reducible assumption) | (with_reducible refine below_drewN ?_ _) | (with_reducible refine below_after (by assumption) ?_ ?_) | (with_reducible refine Below.drew ?_) | (with_reducible refine Below.alloc ?_ ?_ _) | (with_reducible refine Below.setCell ?_ ?_ _) | omega | (simp; omega) | (simp; done)))
    exact h1
  clear hc1 hc2 hf1 hf2 hB1 hB2 C K
  go_wp2
  rw [show ∀ V, Sem.run Tryz.prog (Instr.makeSlice 80 (.int .i64 p.rn) (.int .i64 p.rn)) V = _ from run_makeBool2 p.rn (by omega), fedTo_zero p.rcks v]
  go_wp2
  go_loopw [29] (fun i wr => ∃ k : Nat, k ≤ p.rn ∧ i = .int .i64 k ∧ Below w.heap.size w wr ∧ w2.heap.size < wr.heap.size ∧ Hid (BoolB wr g v ∧ Blk wr w2.heap.size 83 (bools (fedTo p.rcks v p.rn (k * 2))))) (fun i _ => p.rn - (intOf i).toNat)
  case atStart => exact ⟨0, by omega, rfl, HBw.out.alloc HBw.out.size _, by simp, Blk.alloc HN.out _, heap_alloc_new w2 _⟩
  case round =>
    obtain ⟨k, hk, rfl, hB, hz, hq⟩ := hrel
    by_cases hlt : k < p.rn
    · obtain ⟨b, off, x, e1, hb, hx, hcx⟩ := (HP.out.rck.below hB).at_ hlt
      obtain ⟨c0, c1, c2, c3⟩ := Rck.cells hcx
      obtain ⟨hx0, hx1⟩ := hR x (List.mem_of_getElem? hx)
      have HX := Lib.hid hx
      have hk0 : (0 : Int) ≤ (k : Int) := by omega
      have hkn : (k : Int) < (p.rn : Int) := by omega
      have zb : b < wr.heap.size := by have := hB.size; omega
      rw [e1]
      clear hx hcx e1
      go_wp2
      have hz2 : b < wr.heap.size + 1 := by omega
      go_loopw [36] (fun i wv => ∃ q : Nat, q ≤ 2 ∧ i = .int .i64 q ∧ Below w.heap.size w wv ∧ w2.heap.size < wv.heap.size ∧ Hid (BoolB wv g v ∧ Blk wv w2.heap.size 83 (bools (fedTo p.rcks v p.rn (k * 2 + q))))) (fun i _ => 2 - (intOf i).toNat)
      case atStart => exact ⟨0, by omega, rfl, hB.alloc hB.size _, by simp; omega, Blk.alloc hq.out.1 _, Blk.alloc hq.out.2 _⟩
      case round =>
        obtain ⟨q, hq2', rfl, hBv, hzv, hq2⟩ := hrel
        by_cases hlt2 : q < 2
        · have hlen : (fedTo p.rcks v p.rn (k * 2 + q)).length = p.rn * 2 := by simp [fedTo]
          obtain ⟨t, ct⟩ : ∃ t : Bool, wr.cell? ⟨w2.heap.size, k * 2 + q, none⟩ = some (.bool t) := by
            have h := Blk.cell hq2.out.2 (k * 2 + q)
            rw [h]
            have hi : k * 2 + q < (fedTo p.rcks v p.rn (k * 2 + q)).length := by omega
            exact ⟨(fedTo p.rcks v p.rn (k * 2 + q))[k * 2 + q], by simp [bools, List.getElem?_eq_getElem hi]⟩
          have ft := Blk.frozen hq2.out.2 (k * 2 + q)
          have hgv := Blk.lt hq2.out.1
          have hne : g ≠ w2.heap.size := by omega
          have hkw : IntKind.i64.wrap (k : Int) = (k : Int) := IntWalk.i64_in _ (by omega)
          rcases (show q = 0 ∨ q = 1 by omega) with rfl | rfl
          · rw [Nat.add_zero] at ct ft
            have hv0 : fedAt p.rcks v (k * 2 + 0) = feedLive v x.f0 := by
              unfold fedAt
              rw [show (k * 2 + 0) / 2 = k by omega, HX.out]
              simp
            by_cases hf : (0 : Int) ≤ x.f0
            · obtain ⟨u, hu⟩ : ∃ u, v[x.f0.toNat]? = some u := ⟨_, List.getElem?_eq_getElem (by omega)⟩
              have cu := BoolB.cell hq2.out.1 hu
              have hdec : decide ((0 : Int) ≤ x.f0) = true := decide_eq_true hf
              have hd : feedLive v x.f0 = u := by simp [feedLive, hf, hu]
              have HD := Lib.hid (hv0.trans hd)
              clear hv0 hd hu
              go_wp2
              go_still_tail 13, (by kernel_rfl)
              change wpList _ _ _ _ _ wr.drew
              go_wp2
              go_roundw
              case rel =>
                refine ⟨0 + 1, by omega, by go_num, (hBv.drew).setCell (p := ⟨w2.heap.size, k * 2 + 0, none⟩) (by have := HBw.out.size; simp; omega) _, by simp; omega, Blk.far (p := ⟨w2.heap.size, k * 2 + 0, none⟩) hq2.out.1 hne _, ?_⟩
                have h := BoolB.set2 hq2.out.2 (k * 2 + 0) (fedAt p.rcks v (k * 2 + 0))
                rw [fedTo_succ, HD.out] at h
                exact h
              case measure => simp [intOf]
            · have hd : feedLive v x.f0 = false := by simp [feedLive, hf]
              have HD := Lib.hid (hv0.trans hd)
              have hf' : x.f0 < 0 := by omega
              have hdec : decide ((0 : Int) ≤ x.f0) = false := decide_eq_false hf
              clear hv0 hd
              go_wp2
              go_still_tail 13, (by kernel_rfl)
              change wpList _ _ _ _ _ wr.drew
              go_wp2
              go_roundw
              case rel =>
                refine ⟨0 + 1, by omega, by go_num, (hBv.drew).setCell (p := ⟨w2.heap.size, k * 2 + 0, none⟩) (by have := HBw.out.size; simp; omega) _, by simp; omega, Blk.far (p := ⟨w2.heap.size, k * 2 + 0, none⟩) hq2.out.1 hne _, ?_⟩
                have h := BoolB.set2 hq2.out.2 (k * 2 + 0) (fedAt p.rcks v (k * 2 + 0))
                rw [fedTo_succ, HD.out] at h
                exact h
              case measure => simp [intOf]
          · have hv0 : fedAt p.rcks v (k * 2 + 1) = feedLive v x.f1 := by
              unfold fedAt
              rw [show (k * 2 + 1) / 2 = k by omega, HX.out]
              simp
            by_cases hf : (0 : Int) ≤ x.f1
            · obtain ⟨u, hu⟩ : ∃ u, v[x.f1.toNat]? = some u := ⟨_, List.getElem?_eq_getElem (by omega)⟩
              have cu := BoolB.cell hq2.out.1 hu
              have hdec : decide ((0 : Int) ≤ x.f1) = true := decide_eq_true hf
              have hd : feedLive v x.f1 = u := by simp [feedLive, hf, hu]
              have HD := Lib.hid (hv0.trans hd)
              clear hv0 hd hu
              go_wp2
              go_still_tail 13, (by kernel_rfl)
              change wpList _ _ _ _ _ wr.drew
              go_wp2
              go_roundw
              case rel =>
                refine ⟨1 + 1, by omega, by go_num, (hBv.drew).setCell (p := ⟨w2.heap.size, k * 2 + 1, none⟩) (by have := HBw.out.size; simp; omega) _, by simp; omega, Blk.far (p := ⟨w2.heap.size, k * 2 + 1, none⟩) hq2.out.1 hne _, ?_⟩
                have h := BoolB.set2 hq2.out.2 (k * 2 + 1) (fedAt p.rcks v (k * 2 + 1))
                rw [fedTo_succ, HD.out] at h
                exact h
              case measure => simp [intOf]
            · have hd : feedLive v x.f1 = false := by simp [feedLive, hf]
              have HD := Lib.hid (hv0.trans hd)
              have hf' : x.f1 < 0 := by omega
              have hdec : decide ((0 : Int) ≤ x.f1) = false := decide_eq_false hf
              clear hv0 hd
              go_wp2
              go_still_tail 13, (by kernel_rfl)
              change wpList _ _ _ _ _ wr.drew
              go_wp2
              go_roundw
              case rel =>
                refine ⟨1 + 1, by omega, by go_num, (hBv.drew).setCell (p := ⟨w2.heap.size, k * 2 + 1, none⟩) (by have := HBw.out.size; simp; omega) _, by simp; omega, Blk.far (p := ⟨w2.heap.size, k * 2 + 1, none⟩) hq2.out.1 hne _, ?_⟩
                have h := BoolB.set2 hq2.out.2 (k * 2 + 1) (fedAt p.rcks v (k * 2 + 1))
                rw [fedTo_succ, HD.out] at h
                exact h
              case measure => simp [intOf]
        · obtain rfl : q = 2 := by omega
          go_wp2
          go_roundw
          case rel => exact ⟨k + 1, by omega, by go_num, hBv, hzv, hq2.out.1, by rw [show (k + 1) * 2 = k * 2 + 2 by omega]; exact hq2.out.2⟩
          case measure => simp [intOf]; omega
    · obtain rfl : k = p.rn := by omega
      go_wp2
      exact bodyPost_ret (results_tmp2 rfl _ _ _) rfl ⟨_, rfl, hB, by omega, hq.out.2⟩
end Go.Proofs.YtcnmfblbfpcghaaGreatDoor
