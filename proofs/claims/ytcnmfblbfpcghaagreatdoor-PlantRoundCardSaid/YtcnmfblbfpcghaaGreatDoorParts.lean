/- plant.Parts. -/
import Derived.Test.YtcnmfblbfpcghaaGreatDoorConn
import Derived.RangeFuncBox

set_option linter.unusedSimpArgs false
set_option linter.unusedVariables false
namespace Go.Proofs.YtcnmfblbfpcghaaGreatDoor
open Go.RowKit

/-- A part, as two cells. -/
def partCells (k : Int) (i : Nat) : List Value := [.int .i64 k, .int .i64 i]
/-- The parts of one kind. -/
def kindCells (k : Int) (n : Nat) : List Value := (List.range n).flatMap (partCells k)
theorem kindCells_succ (k : Int) (n : Nat) : kindCells k (n + 1) = kindCells k n ++ partCells k n := by
  unfold kindCells
  rw [List.range_succ, List.flatMap_append]
  simp
theorem partInfo : (Tryz.prog.info? 32).map (fun i => (i.zero, i.size, i.bytes)) = some (some (.agg #[.int .i64 0, .int .i64 0]), 2, 16) := by kernel_rfl
set_option maxRecDepth 100000 in
set_option maxHeartbeats 2000000 in
theorem parts1_any (k : Int) (n m b₀ Bl : Nat) (v : Value) (xs : List Value) (w : World) (hn : n ≤ 100) (hm : m ≤ 100) (hb : b₀ ≤ Bl) (hv : Boxed w Bl 38 v) (hr : w.ownsRow b₀ 32 2 v m xs) :
    Calls Tryz.prog 40 #[.int .i64 k, .int .i64 n, .pointer (some ⟨Bl, 0, none⟩)] w fun e w' => e = .returned (.tuple #[]) ∧ Below b₀ w w' ∧ ∃ v', Boxed w' Bl 38 v' ∧ w'.ownsRow b₀ 32 2 v' (m + n) (xs ++ kindCells k n) := by
  have HV := Lib.hid hv
  have HR := Lib.hid hr
  clear hv hr
  obtain ⟨i0, hi, hz0, hz1, hz2⟩ := info_parts partInfo
  go_enter Tryz.func40, Tryz.ntmps40
  go_wp2
  go_loopw [7] (fun i wr => ∃ j : Nat, j ≤ n ∧ i = .int .i64 j ∧ Below b₀ w wr ∧ Hid (∃ v', Boxed wr Bl 38 v' ∧ wr.ownsRow b₀ 32 2 v' (m + j) (xs ++ kindCells k j))) (fun i _ => n - (intOf i).toNat)
  case atStart => exact ⟨0, by omega, rfl, Below.refl _ _, v, HV.out, by simpa [kindCells] using HR.out⟩
  case round =>
    obtain ⟨j, hj, rfl, hB, hE⟩ := hrel
    by_cases hlt : j < n
    · obtain ⟨u, hu, hrow⟩ := hE.out
      have cu := hu.cell
      have fu := hu.frozen
      have zu := hu.lt
      have HU := Lib.hid hu
      have HW := Lib.hid hrow
      clear hE hu hrow
      have hz : b₀ ≤ wr.heap.size := by omega
      go_wp2_with (at_builtin; refine wpList_append_own_at _ rfl (.tmp 10) (.tmp 14) 38 rfl b₀ 32 i0 (.agg #[.int .i64 0, .int .i64 0]) 2 16 Tryz.underlying38 hi hz0 hz1 hz2 rfl (by decide) u (m + j) (xs ++ kindCells k j) rfl (HW.out.alloc _) ⟨wr.heap.size, 0, none⟩ 1 1 (partCells k j) rfl rfl ?_ ?_ ?_ ?_ ?_ ?_)
      case _ =>
        intro i x hx
        match i, hx with
        | 0, hx =>
          simp only [partCells, List.getElem?_cons_zero, Option.some.injEq] at hx
          subst hx
          simp [Addr.add, go_sem]
        | 1, hx =>
          simp only [partCells, List.getElem?_cons_succ, List.getElem?_cons_zero, Option.some.injEq] at hx
          subst hx
          simp [Addr.add, go_sem]
      case _ =>
        intro x hx
        simp only [partCells, List.mem_cons, List.mem_nil_iff, or_false] at hx
        rcases hx with rfl | rfl <;> rfl
      case _ => simp only [maxLen]; omega
      case _ => omega
      case _ => simp; omega
      intro v' w1 hown hg _ _
      obtain ⟨g', cap', rfl⟩ := ownsRow_succ hown
      obtain ⟨q1, q2, q3, q4, q5⟩ := HU.out.appended (by decide) HW.out hz hb hown hg
      have d1 := q1.cell
      have d2 := q1.frozen
      have Q2 := Lib.hid q2
      have Q3 := Lib.hid q3
      have Q5 := Lib.hid (hB.trans q5)
      clear q1 q2 q3 q4 q5 hown hg
      go_wp2
      go_roundw
      case rel =>
        refine ⟨j + 1, by omega, by go_num, Q5.out, _, Q2.out, ?_⟩
        have h := Q3.out
        rw [kindCells_succ]
        exact h
      case measure => simp [intOf]; omega
    · obtain rfl : n = j := by omega
      go_wp2
      exact bodyPost_end (v := .tuple #[]) (results_none rfl _ _ _) rfl ⟨rfl, hB, hE.out⟩
set_option maxRecDepth 100000 in
set_option maxHeartbeats 2000000 in
theorem parts_ok (p : Plt) (B : Nat) (w : World) (hp : PltIn w w.heap.size p) (hc : check p = 0) (hB : p.buses = B) (hB24 : B ≤ 24) :
    Calls Tryz.prog 11 #[p.val] w fun e w' => ∃ A c, e = .returned (.tuple #[.slice A (B + p.sn + p.ln) c, .int .i64 0]) ∧ Below w.heap.size w w' ∧ w'.ownsRow w.heap.size 32 2 (.slice A (B + p.sn + p.ln) c) (B + p.sn + p.ln) (kindCells 1 B ++ kindCells 2 p.sn ++ kindCells 3 p.ln) := by
  have hsm := check_small hc hp
  have HP := Lib.hid hp
  have C := Lib.hid (check_any p)
  rw [hc] at C
  clear hp hc
  unfold Plt.val at C
  unfold Plt.val
  rw [hB] at C ⊢
  go_enter Tryz.func11, Tryz.ntmps11
  go_wp2_with fail
  refine (C.out _ (HP.out.next (by (repeat' (first | (with_reducible exact Below.refl _ _) | (with_reducible assumption) | (with_reducible refine below_drewN ?_ _) | (with_reducible refine below_after (by assumption) ?_ ?_) | (with_reducible refine Below.drew ?_) | (with_reducible refine Below.alloc ?_ ?_ _) | (with_reducible refine Below.setCell ?_ ?_ _) | omega | (simp; omega) | (simp; done)))))).mono ?_
  rintro e w1 ⟨rfl, hB1⟩
  obtain ⟨hc1, hf1⟩ := bcell hB1
  have hz1 := hB1.size
  simp only [World.size_alloc] at hz1
  have y0 : w.heap.size < w1.heap.size := by omega
  have b0 := Boxed.new w1 38 (.slice none 0 0)
  have K1 := Lib.hid (parts1_any 1 B 0 w1.heap.size w1.heap.size (.slice none 0 0) [] _ (by omega) (by omega) (Nat.le_refl _) b0 (World.ownsRow_nil _ _ _ _))
  go_wp2_with fail
  refine K1.out.mono ?_
  rintro e w2 ⟨rfl, hB2, v1, hv1, hr1⟩
  obtain ⟨hc2, hf2⟩ := bcell (W := w1) (((Below.refl w1.heap.size w1).alloc (Nat.le_refl _) _).trans hB2)
  have K2 := Lib.hid (parts1_any 2 p.sn (0 + B) w1.heap.size w1.heap.size v1 _ w2 (by omega) (by omega) (Nat.le_refl _) hv1 hr1)
  have y2 := hv1.lt
  clear hv1 hr1 K1
  go_wp2_with fail
  refine K2.out.mono ?_
  rintro e w3 ⟨rfl, hB3, v2, hv2, hr2⟩
  obtain ⟨hc3, hf3⟩ := bcell (W := w1) ((((Below.refl w1.heap.size w1).alloc (Nat.le_refl _) _).trans hB2).trans hB3)
  have K3 := Lib.hid (parts1_any 3 p.ln (0 + B + p.sn) w1.heap.size w1.heap.size v2 _ w3 (by omega) (by omega) (Nat.le_refl _) hv2 hr2)
  have y3 := hv2.lt
  clear hv2 hr2 K2
  go_wp2_with fail
  refine K3.out.mono ?_
  rintro e w4 ⟨rfl, hB4, v3, hv3, hr3⟩
  have d := hv3.cell
  obtain ⟨A, c, rfl⟩ : ∃ A c, v3 = .slice A (0 + B + p.sn + p.ln) c := by
    rcases hr3.2 with ⟨e, h0⟩ | ⟨g, cap, cur, e, _⟩
    · exact ⟨none, 0, by rw [e, h0]⟩
    · exact ⟨_, _, e⟩
  have HR := Lib.hid hr3
  have HBw : Hid (Below w.heap.size w w4) := by
    have h1 : Below w.heap.size w w1 := by (repeat' (first | (with_reducible exact Below.refl _ _) | (with_reducible assumption) | (with_reducible refine below_drewN ?_ _) | (with_reducible refine below_after (by assumption) ?_ ?_) | (with_reducible refine Below.drew ?_) | (with_reducible refine Below.alloc ?_ ?_ _) | (with_reducible refine Below.setCell ?_ ?_ _) | omega | (simp; omega) | (simp; done)))
    exact h1.trans (((((Below.refl w1.heap.size w1).alloc (Nat.le_refl _) (.cells #[.slice none 0 0] 38)).trans hB2).trans (hB3.trans hB4)).mono (by omega))
  clear hr3 hv3 K3
  go_wp2
  refine bodyPost_ret (results_tmp2 rfl _ _ _) rfl ⟨A, c, ?_, HBw.out, ?_⟩
  · simp
  · have h := HR.out.mono_base (base' := w.heap.size) (by omega)
    simpa using h
end Go.Proofs.YtcnmfblbfpcghaaGreatDoor
