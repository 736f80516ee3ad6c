/- Break and Mend, whatever the part. -/
import Derived.Test.YtigefkjabjnmjaaGreatDoorLosesP
namespace Go.Proofs.YtigefkjabjnmjaaGreatDoor
open Go.RowKit

set_option maxRecDepth 100000 in
set_option maxHeartbeats 4000000 in
theorem withPart_none2 (p : Plt) (s : Stt) (idx : Int) (bad : Bool) (w : World) (hp : PltIn w w.heap.size p) (hs : SttIn w w.heap.size s) (hfit : SttFit s) (hc : checkState p s = 0) (hx : ¬ (0 ≤ idx ∧ idx < s.badSource.l.length)) :
    Calls Tryz.prog 77 #[p.val, s.val, .agg #[.int .i64 2, .int .i64 idx], .bool bad] w fun e w' => e = .returned (.tuple #[nilStt, .int .i64 14]) ∧ Below w.heap.size w w' := by
  have HP := Lib.hid hp
  have HS := Lib.hid hs
  have HF := Lib.hid hfit
  have C := Lib.hid (checkState_any p s)
  have T := Lib.hid (twin_any s)
  rw [hc] at C
  clear hp hs hc hfit
  unfold Plt.val Stt.val at C
  unfold Stt.val at T
  unfold Plt.val Stt.val
  by_cases hneg : idx < 0
  all_goals
    have HX : Hid (¬ (0 ≤ idx ∧ idx < s.badSource.l.length)) := hx
    go_enter Tryz.func77, Tryz.ntmps77
    go_wp2_with fail
    refine (C.out _ (HP.out.next (by (repeat' (first | (with_reducible exact Below.refl _ _) | (with_reducible assumption) | (with_reducible refine below_drewN ?_ _) | (with_reducible refine below_after (by assumption) ?_ ?_) | (with_reducible refine Below.drew ?_) | (with_reducible refine Below.alloc ?_ ?_ _) | (with_reducible refine Below.setCell ?_ ?_ _) | omega | (simp; omega) | (simp; done))))) (HS.out.next (by (repeat' (first | (with_reducible exact Below.refl _ _) | (with_reducible assumption) | (with_reducible refine below_drewN ?_ _) | (with_reducible refine below_after (by assumption) ?_ ?_) | (with_reducible refine Below.drew ?_) | (with_reducible refine Below.alloc ?_ ?_ _) | (with_reducible refine Below.setCell ?_ ?_ _) | omega | (simp; omega) | (simp; done)))))).mono ?_
    rintro e w1 ⟨rfl, hB1⟩
    obtain ⟨hc1, hf1⟩ := bcell hB1
    go_wp2_with fail
    refine (T.out _ (HS.out.next (by (repeat' (first | (with_reducible exact Below.refl _ _) | (with_reducible assumption) | (with_reducible refine below_drewN ?_ _) | (with_reducible refine below_after (by assumption) ?_ ?_) | (with_reducible refine Below.drew ?_) | (with_reducible refine Below.alloc ?_ ?_ _) | (with_reducible refine Below.setCell ?_ ?_ _) | omega | (simp; omega) | (simp; done))))) HF.out).mono ?_
    rintro e w2 ⟨t, rfl, hB2, ho, l0, l1, l2, l3, l4, l5, l6⟩
    obtain ⟨x0, x1, hO, z2, z3⟩ := part_facts rfl hB1 hB2
    obtain ⟨o0, o1, o2, o3, o4, o5, o6⟩ := cells7 hO
    have fz := hO.frozen
    clear hO hc1 hf1
    have hlen := (ho.own t.badSource (by simp [Stt.lists])).len.symm.trans (congrArg List.length l4)
    have hge : idx < 0 ∨ (t.badSource.n : Int) ≤ idx := by have := HX.out; omega
    have hge := hge.resolve_left
    clear hlen ho l0 l1 l2 l3 l4 l5 l6 hx
  · clear hge
    (dsimp only; repeat' (first | go_values | go_skip | go_guarded | go_step | go_upon))
    refine bodyPost_ret (v := .tuple #[nilStt, .int .i64 14]) ?_ rfl ⟨rfl, by (repeat' (first | (with_reducible exact Below.refl _ _) | (with_reducible assumption) | (with_reducible refine below_drewN ?_ _) | (with_reducible refine below_after (by assumption) ?_ ?_) | (with_reducible refine Below.drew ?_) | (with_reducible refine Below.alloc ?_ ?_ _) | (with_reducible refine Below.setCell ?_ ?_ _) | omega | (simp; omega) | (simp; done)))⟩
    simp [results, Tryz.results77, go_sem, nilStt, o0, o1, o2, o3, o4, o5, o6, z3]
  · replace hge := hge (by omega)
    have hn0 : ¬ idx < 0 := by omega
    (dsimp only; repeat' (first | go_values | go_skip | go_guarded | go_step | go_upon))
    refine bodyPost_ret (v := .tuple #[nilStt, .int .i64 14]) ?_ rfl ⟨rfl, by (repeat' (first | (with_reducible exact Below.refl _ _) | (with_reducible assumption) | (with_reducible refine below_drewN ?_ _) | (with_reducible refine below_after (by assumption) ?_ ?_) | (with_reducible refine Below.drew ?_) | (with_reducible refine Below.alloc ?_ ?_ _) | (with_reducible refine Below.setCell ?_ ?_ _) | omega | (simp; omega) | (simp; done)))⟩
    simp [results, Tryz.results77, go_sem, nilStt, o0, o1, o2, o3, o4, o5, o6, z3]
set_option maxRecDepth 100000 in
set_option maxHeartbeats 4000000 in
theorem withPart_none3 (p : Plt) (s : Stt) (idx : Int) (bad : Bool) (w : World) (hp : PltIn w w.heap.size p) (hs : SttIn w w.heap.size s) (hfit : SttFit s) (hc : checkState p s = 0) (hx : ¬ (0 ≤ idx ∧ idx < s.badLink.l.length)) :
    Calls Tryz.prog 77 #[p.val, s.val, .agg #[.int .i64 3, .int .i64 idx], .bool bad] w fun e w' => e = .returned (.tuple #[nilStt, .int .i64 14]) ∧ Below w.heap.size w w' := by
  have HP := Lib.hid hp
  have HS := Lib.hid hs
  have HF := Lib.hid hfit
  have C := Lib.hid (checkState_any p s)
  have T := Lib.hid (twin_any s)
  rw [hc] at C
  clear hp hs hc hfit
  unfold Plt.val Stt.val at C
  unfold Stt.val at T
  unfold Plt.val Stt.val
  by_cases hneg : idx < 0
  all_goals
    have HX : Hid (¬ (0 ≤ idx ∧ idx < s.badLink.l.length)) := hx
    go_enter Tryz.func77, Tryz.ntmps77
    go_wp2_with fail
    refine (C.out _ (HP.out.next (by (repeat' (first | (with_reducible exact Below.refl _ _) | (with_reducible assumption) | (with_reducible refine below_drewN ?_ _) | (with_reducible refine below_after (by assumption) ?_ ?_) | (with_reducible refine Below.drew ?_) | (with_reducible refine Below.alloc ?_ ?_ _) | (with_reducible refine Below.setCell ?_ ?_ _) | omega | (simp; omega) | (simp; done))))) (HS.out.next (by (repeat' (first | (with_reducible exact Below.refl _ _) | (with_reducible assumption) | (with_reducible refine below_drewN ?_ _) | (with_reducible refine below_after (by assumption) ?_ ?_) | (with_reducible refine Below.drew ?_) | (with_reducible refine Below.alloc ?_ ?_ _) | (with_reducible refine Below.setCell ?_ ?_ _) | omega | (simp; omega) | (simp; done)))))).mono ?_
    rintro e w1 ⟨rfl, hB1⟩
    obtain ⟨hc1, hf1⟩ := bcell hB1
    go_wp2_with fail
    refine (T.out _ (HS.out.next (by (repeat' (first | (with_reducible exact Below.refl _ _) | (with_reducible assumption) | (with_reducible refine below_drewN ?_ _) | (with_reducible refine below_after (by assumption) ?_ ?_) | (with_reducible refine Below.drew ?_) | (with_reducible refine Below.alloc ?_ ?_ _) | (with_reducible refine Below.setCell ?_ ?_ _) | omega | (simp; omega) | (simp; done))))) HF.out).mono ?_
    rintro e w2 ⟨t, rfl, hB2, ho, l0, l1, l2, l3, l4, l5, l6⟩
    obtain ⟨x0, x1, hO, z2, z3⟩ := part_facts rfl hB1 hB2
    obtain ⟨o0, o1, o2, o3, o4, o5, o6⟩ := cells7 hO
    have fz := hO.frozen
    clear hO hc1 hf1
    have hlen := (ho.own t.badLink (by simp [Stt.lists])).len.symm.trans (congrArg List.length l2)
    have hge : idx < 0 ∨ (t.badLink.n : Int) ≤ idx := by have := HX.out; omega
    have hge := hge.resolve_left
    clear hlen ho l0 l1 l2 l3 l4 l5 l6 hx
  · clear hge
    (dsimp only; repeat' (first | go_values | go_skip | go_guarded | go_step | go_upon))
    refine bodyPost_ret (v := .tuple #[nilStt, .int .i64 14]) ?_ rfl ⟨rfl, by (repeat' (first | (with_reducible exact Below.refl _ _) | (with_reducible assumption) | (with_reducible refine below_drewN ?_ _) | (with_reducible refine below_after (by assumption) ?_ ?_) | (with_reducible refine Below.drew ?_) | (with_reducible refine Below.alloc ?_ ?_ _) | (with_reducible refine Below.setCell ?_ ?_ _) | omega | (simp; omega) | (simp; done)))⟩
    simp [results, Tryz.results77, go_sem, nilStt, o0, o1, o2, o3, o4, o5, o6, z3]
  · replace hge := hge (by omega)
    have hn0 : ¬ idx < 0 := by omega
    (dsimp only; repeat' (first | go_values | go_skip | go_guarded | go_step | go_upon))
    refine bodyPost_ret (v := .tuple #[nilStt, .int .i64 14]) ?_ rfl ⟨rfl, by (repeat' (first | (with_reducible exact Below.refl _ _) | (with_reducible assumption) | (with_reducible refine below_drewN ?_ _) | (with_reducible refine below_after (by assumption) ?_ ?_) | (with_reducible refine Below.drew ?_) | (with_reducible refine Below.alloc ?_ ?_ _) | (with_reducible refine Below.setCell ?_ ?_ _) | omega | (simp; omega) | (simp; done)))⟩
    simp [results, Tryz.results77, go_sem, nilStt, o0, o1, o2, o3, o4, o5, o6, z3]
set_option maxRecDepth 100000 in
set_option maxHeartbeats 4000000 in
theorem withPart_noneK (p : Plt) (s : Stt) (K idx : Int) (bad : Bool) (w : World) (hp : PltIn w w.heap.size p) (hs : SttIn w w.heap.size s) (hfit : SttFit s) (hc : checkState p s = 0) (k1 : ¬ K = 1) (k2 : ¬ K = 2) (k3 : ¬ K = 3) :
    Calls Tryz.prog 77 #[p.val, s.val, .agg #[.int .i64 K, .int .i64 idx], .bool bad] w fun e w' => e = .returned (.tuple #[nilStt, .int .i64 14]) ∧ Below w.heap.size w w' := by
  have HP := Lib.hid hp
  have HS := Lib.hid hs
  have HF := Lib.hid hfit
  have C := Lib.hid (checkState_any p s)
  have T := Lib.hid (twin_any s)
  rw [hc] at C
  clear hp hs hc hfit
  unfold Plt.val Stt.val at C
  unfold Stt.val at T
  unfold Plt.val Stt.val
  by_cases hneg : idx < 0
  all_goals
    go_enter Tryz.func77, Tryz.ntmps77
    go_wp2_with fail
    refine (C.out _ (HP.out.next (by (repeat' (first | (with_reducible exact Below.refl _ _) | (with_reducible assumption) | (with_reducible refine below_drewN ?_ _) | (with_reducible refine below_after (by assumption) ?_ ?_) | (with_reducible refine Below.drew ?_) | (with_reducible refine Below.alloc ?_ ?_ _) | (with_reducible refine Below.setCell ?_ ?_ _) | omega | (simp; omega) | (simp; done))))) (HS.out.next (by (repeat' (first | (with_reducible exact Below.refl _ _) | (with_reducible assumption) | (with_reducible refine below_drewN ?_ _) | (with_reducible refine below_after (by assumption) ?_ ?_) | (with_reducible refine Below.drew ?_) | (with_reducible refine Below.alloc ?_ ?_ _) | (with_reducible refine Below.setCell ?_ ?_ _) | omega | (simp; omega) | (simp; done)))))).mono ?_
    rintro e w1 ⟨rfl, hB1⟩
    obtain ⟨hc1, hf1⟩ := bcell hB1
    go_wp2_with fail
    refine (T.out _ (HS.out.next (by (repeat' (first | (with_reducible exact Below.refl _ _) | (with_reducible assumption) | (with_reducible refine below_drewN ?_ _) | (with_reducible refine below_after (by assumption) ?_ ?_) | (with_reducible refine Below.drew ?_) | (with_reducible refine Below.alloc ?_ ?_ _) | (with_reducible refine Below.setCell ?_ ?_ _) | omega | (simp; omega) | (simp; done))))) HF.out).mono ?_
    rintro e w2 ⟨t, rfl, hB2, ho, l0, l1, l2, l3, l4, l5, l6⟩
    obtain ⟨x0, x1, hO, z2, z3⟩ := part_facts rfl hB1 hB2
    obtain ⟨o0, o1, o2, o3, o4, o5, o6⟩ := cells7 hO
    have fz := hO.frozen
    clear hO hc1 hf1
    clear ho l0 l1 l2 l3 l4 l5 l6
  · skip
    (dsimp only; repeat' (first | go_values | go_skip | go_guarded | go_step | go_upon))
    refine bodyPost_ret (v := .tuple #[nilStt, .int .i64 14]) ?_ rfl ⟨rfl, by (repeat' (first | (with_reducible exact Below.refl _ _) | (with_reducible assumption) | (with_reducible refine below_drewN ?_ _) | (with_reducible refine below_after (by assumption) ?_ ?_) | (with_reducible refine Below.drew ?_) | (with_reducible refine Below.alloc ?_ ?_ _) | (with_reducible refine Below.setCell ?_ ?_ _) | omega | (simp; omega) | (simp; done)))⟩
    simp [results, Tryz.results77, go_sem, nilStt, o0, o1, o2, o3, o4, o5, o6, z3]
  · have hn0 : ¬ idx < 0 := by omega
    have hge : (0 : Int) ≤ idx := by omega
    (dsimp only; repeat' (first | go_values | go_skip | go_guarded | go_step | go_upon))
    refine bodyPost_ret (v := .tuple #[nilStt, .int .i64 14]) ?_ rfl ⟨rfl, by (repeat' (first | (with_reducible exact Below.refl _ _) | (with_reducible assumption) | (with_reducible refine below_drewN ?_ _) | (with_reducible refine below_after (by assumption) ?_ ?_) | (with_reducible refine Below.drew ?_) | (with_reducible refine Below.alloc ?_ ?_ _) | (with_reducible refine Below.setCell ?_ ?_ _) | omega | (simp; omega) | (simp; done)))⟩
    simp [results, Tryz.results77, go_sem, nilStt, o0, o1, o2, o3, o4, o5, o6, z3]

/-- What Break and Mend, and Failed, answer: an error, or the state with the part. -/
def failErr (p : Plt) (s : Stt) (K i : Int) : Int :=
  if checkState p s = 0 then (if (0 ≤ i ∧ ((K = 1 ∧ i < p.buses) ∨ (K = 2 ∧ i < p.sn) ∨ (K = 3 ∧ i < p.ln))) then 0 else 14) else checkState p s
def nilS : Stt := ⟨⟨none, 0, 0, []⟩, ⟨none, 0, 0, []⟩, ⟨none, 0, 0, []⟩, ⟨none, 0, 0, []⟩, ⟨none, 0, 0, []⟩, ⟨none, 0, 0, []⟩, ⟨none, 0, 0, []⟩⟩
theorem nilS_val : nilS.val = nilStt := rfl
theorem nilS_in (w : World) (B : Nat) : SttIn w B nilS := ⟨⟨Rd.nil _ _ _ _, by decide⟩, ⟨Rd.nil _ _ _ _, by decide⟩, ⟨Rd.nil _ _ _ _, by decide⟩, ⟨Rd.nil _ _ _ _, by decide⟩, ⟨Rd.nil _ _ _ _, by decide⟩, ⟨Rd.nil _ _ _ _, by decide⟩, ⟨Rd.nil _ _ _ _, by decide⟩⟩
theorem nilS_own (w : World) (base : Nat) : SttOwn w base nilS := by
  have hb : ∀ b ∈ nilS.lists, b = ⟨none, 0, 0, []⟩ := by
    intro b hb
    simp only [Stt.lists, nilS, List.mem_cons, List.mem_nil_iff, or_false] at hb
    rcases hb with rfl | rfl | rfl | rfl | rfl | rfl | rfl <;> rfl
  refine ⟨fun b h => ?_, ?_⟩
  · rw [hb b h]
    exact ⟨World.ownsRow_nil _ _ _ _, rfl⟩
  · simp [Stt.lists, nilS, Bs.blk, Value.ownBlock]
/-- The contents: nil with an error, else those of the state with the part. -/
def failCont (p : Plt) (s : Stt) (K i : Int) (x : Bool) : List (List Bool) := if failErr p s K i = 0 then (brk s K i.toNat x).cont else nilS.cont
theorem state_lens {p : Plt} {s : Stt} (h : checkState p s = 0) : s.closed.n = p.ln ∧ s.locked.n = p.ln ∧ s.badLink.n = p.ln ∧ s.on.n = p.sn ∧ s.badSource.n = p.sn ∧ (s.earthed.n : Int) = p.buses ∧ (s.badBus.n : Int) = p.buses := by
  unfold checkState at h
  split at h
  · split at h
    · rename_i ho
      simp [stateOk, linkLists, sourceLists, busLists] at ho
      omega
    · omega
  · rename_i hc
    exact absurd h hc
theorem withPart_all (p : Plt) (s : Stt) (K i : Int) (bad : Bool) (w : World) (hp : PltIn w w.heap.size p) (hs : SttIn w w.heap.size s) :
    Calls Tryz.prog 77 #[p.val, s.val, .agg #[.int .i64 K, .int .i64 i], .bool bad] w fun e w' => ∃ t : Stt, e = .returned (.tuple #[t.val, .int .i64 (failErr p s K i)]) ∧ Below w.heap.size w w' ∧ SttOwn w' w.heap.size t ∧ t.cont = failCont p s K i bad := by
  by_cases hc : checkState p s = 0
  case neg =>
    have e1 : failErr p s K i = checkState p s := by unfold failErr; rw [if_neg hc]
    refine (withPart_bad p s K i bad w hp hs hc).mono ?_
    rintro e w' ⟨rfl, hB⟩
    refine ⟨nilS, by rw [e1]; rfl, hB, nilS_own _ _, ?_⟩
    unfold failCont
    rw [e1, if_neg hc]
  obtain ⟨n0, n1, n2, n3, n4, n5, n6⟩ := state_lens hc
  have hfit := fit_of hp hc
  have z6 : s.badBus.l.length = s.badBus.n := hs.sized s.badBus (by simp [Stt.lists])
  have z4 : s.badSource.l.length = s.badSource.n := hs.sized s.badSource (by simp [Stt.lists])
  have z2 : s.badLink.l.length = s.badLink.n := hs.sized s.badLink (by simp [Stt.lists])
  by_cases hin : 0 ≤ i ∧ ((K = 1 ∧ i < p.buses) ∨ (K = 2 ∧ i < p.sn) ∨ (K = 3 ∧ i < p.ln))
  · have e1 : failErr p s K i = 0 := by unfold failErr; rw [if_pos hc, if_pos hin]
    obtain ⟨h0, hk⟩ := hin
    obtain ⟨m, rfl⟩ : ∃ m : Nat, i = (m : Int) := ⟨i.toNat, by omega⟩
    have e2 : failCont p s K m bad = (brk s K m bad).cont := by unfold failCont; rw [e1, if_pos rfl]; rfl
    rw [e1, e2]
    rcases hk with ⟨rfl, h⟩ | ⟨rfl, h⟩ | ⟨rfl, h⟩
    · exact withPart_ok1 p s m bad w hp hs hfit hc (by omega)
    · exact withPart_ok2 p s m bad w hp hs hfit hc (by omega)
    · exact withPart_ok3 p s m bad w hp hs hfit hc (by omega)
  · have e1 : failErr p s K i = 14 := by unfold failErr; rw [if_pos hc, if_neg hin]
    have e2 : failCont p s K i bad = nilS.cont := by unfold failCont; rw [e1, if_neg (by omega)]
    rw [e1, e2]
    have key : Calls Tryz.prog 77 #[p.val, s.val, .agg #[.int .i64 K, .int .i64 i], .bool bad] w fun e w' => e = .returned (.tuple #[nilStt, .int .i64 14]) ∧ Below w.heap.size w w' := by
      by_cases k1 : K = 1
      · subst k1
        exact withPart_none1 p s i bad w hp hs hfit hc (fun h => hin ⟨h.1, .inl ⟨rfl, by omega⟩⟩)
      by_cases k2 : K = 2
      · subst k2
        exact withPart_none2 p s i bad w hp hs hfit hc (fun h => hin ⟨h.1, .inr (.inl ⟨rfl, by omega⟩)⟩)
      by_cases k3 : K = 3
      · subst k3
        exact withPart_none3 p s i bad w hp hs hfit hc (fun h => hin ⟨h.1, .inr (.inr ⟨rfl, by omega⟩)⟩)
      exact withPart_noneK p s K i bad w hp hs hfit hc k1 k2 k3
    refine key.mono ?_
    rintro e w' ⟨rfl, hB⟩
    exact ⟨nilS, rfl, hB, nilS_own _ _, rfl⟩
set_option maxRecDepth 100000 in
set_option maxHeartbeats 4000000 in
theorem break_ofE (p : Plt) (s : Stt) (kind idx : Int) (R : Stt → Prop) (er : Int) (w : World) (hp : PltIn w w.heap.size p) (hs : SttIn w w.heap.size s)
    (h : ∀ W, PltIn W W.heap.size p → SttIn W W.heap.size s → Calls Tryz.prog 77 #[p.val, s.val, .agg #[.int .i64 kind, .int .i64 idx], .bool true] W fun e w' => ∃ t : Stt, e = .returned (.tuple #[t.val, .int .i64 er]) ∧ Below W.heap.size W w' ∧ SttOwn w' W.heap.size t ∧ R t) :
    Calls Tryz.prog 32 #[p.val, s.val, .agg #[.int .i64 kind, .int .i64 idx]] w fun e w' => ∃ t : Stt, e = .returned (.tuple #[t.val, .int .i64 er]) ∧ Below w.heap.size w w' ∧ SttOwn w' w.heap.size t ∧ R t := by
  have HP := Lib.hid hp
  have HS := Lib.hid hs
  have C := Lib.hid h
  clear hp hs h
  unfold Plt.val Stt.val at C
  unfold Plt.val Stt.val
  go_enter Tryz.func32, Tryz.ntmps32
  go_wp2_with fail
  refine (C.out _ (HP.out.next (by (repeat' (first | (with_reducible exact Below.refl _ _) | (with_reducible assumption) | (with_reducible refine below_drewN ?_ _) | (with_reducible refine below_after (by assumption) ?_ ?_) | (with_reducible refine Below.drew ?_) | (with_reducible refine Below.alloc ?_ ?_ _) | (with_reducible refine Below.setCell ?_ ?_ _) | omega | (simp; omega) | (simp; done))))) (HS.out.next (by (repeat' (first | (with_reducible exact Below.refl _ _) | (with_reducible assumption) | (with_reducible refine below_drewN ?_ _) | (with_reducible refine below_after (by assumption) ?_ ?_) | (with_reducible refine Below.drew ?_) | (with_reducible refine Below.alloc ?_ ?_ _) | (with_reducible refine Below.setCell ?_ ?_ _) | omega | (simp; omega) | (simp; done)))))).mono ?_
  rintro e w1 ⟨t, rfl, hB1, ho, hR⟩
  have hz := hB1.size
  simp only [World.size_alloc] at hz
  have hO : Blk w1 (w.heap.size + 1 + 1 + 1) 29 #[.slice none 0 0, .slice none 0 0, .slice none 0 0, .slice none 0 0, .slice none 0 0, .slice none 0 0, .slice none 0 0] := by
    have hn := heap_alloc_new (((w.alloc (.cells #[.int .i64 p.buses, .slice p.sA p.sn p.sc, .slice p.lA p.ln p.lc, .slice p.rA p.rn p.rc] 26)).alloc (.cells #[.slice s.closed.A s.closed.n s.closed.c, .slice s.locked.A s.locked.n s.locked.c, .slice s.badLink.A s.badLink.n s.badLink.c, .slice s.on.A s.on.n s.on.c, .slice s.badSource.A s.badSource.n s.badSource.c, .slice s.earthed.A s.earthed.n s.earthed.c, .slice s.badBus.A s.badBus.n s.badBus.c] 29)).alloc (.cells #[.int .i64 kind, .int .i64 idx] 60)) (.cells #[.slice none 0 0, .slice none 0 0, .slice none 0 0, .slice none 0 0, .slice none 0 0, .slice none 0 0, .slice none 0 0] 29)
    simp only [World.size_alloc] at hn
    exact (hB1.block _ (by simp)).trans hn
  obtain ⟨o0, o1, o2, o3, o4, o5, o6⟩ := cells7 hO
  have fz := hO.frozen
  have HO := Lib.hid ho
  have HR := Lib.hid hR
  clear hO ho hR
  (dsimp only; repeat' (first | go_values | go_skip | go_guarded | go_step | go_upon))
  refine bodyPost_ret (v := .tuple #[Stt.val t, .int .i64 er]) ?_ rfl ⟨t, rfl, by (repeat' (first | (with_reducible exact Below.refl _ _) | (with_reducible assumption) | (with_reducible refine below_drewN ?_ _) | (with_reducible refine below_after (by assumption) ?_ ?_) | (with_reducible refine Below.drew ?_) | (with_reducible refine Below.alloc ?_ ?_ _) | (with_reducible refine Below.setCell ?_ ?_ _) | omega | (simp; omega) | (simp; done))), ?_, HR.out⟩
  · simp [results, Tryz.results32, go_sem, Stt.val, o0, o1, o2, o3, o4, o5, o6]
  · have hb := HO.out
    simp only [World.size_alloc] at hb
    refine SttOwn.mono_base (((((((hb.below ?_ _).below ?_ _).below ?_ _).below ?_ _).below ?_ _).below ?_ _).below ?_ _) ?_ <;> omega
set_option maxRecDepth 100000 in
set_option maxHeartbeats 4000000 in
theorem mend_ofE (p : Plt) (s : Stt) (kind idx : Int) (R : Stt → Prop) (er : Int) (w : World) (hp : PltIn w w.heap.size p) (hs : SttIn w w.heap.size s)
    (h : ∀ W, PltIn W W.heap.size p → SttIn W W.heap.size s → Calls Tryz.prog 77 #[p.val, s.val, .agg #[.int .i64 kind, .int .i64 idx], .bool false] W fun e w' => ∃ t : Stt, e = .returned (.tuple #[t.val, .int .i64 er]) ∧ Below W.heap.size W w' ∧ SttOwn w' W.heap.size t ∧ R t) :
    Calls Tryz.prog 34 #[p.val, s.val, .agg #[.int .i64 kind, .int .i64 idx]] w fun e w' => ∃ t : Stt, e = .returned (.tuple #[t.val, .int .i64 er]) ∧ Below w.heap.size w w' ∧ SttOwn w' w.heap.size t ∧ R t := by
  have HP := Lib.hid hp
  have HS := Lib.hid hs
  have C := Lib.hid h
  clear hp hs h
  unfold Plt.val Stt.val at C
  unfold Plt.val Stt.val
  go_enter Tryz.func34, Tryz.ntmps34
  go_wp2_with fail
  refine (C.out _ (HP.out.next (by (repeat' (first | (with_reducible exact Below.refl _ _) | (with_reducible assumption) | (with_reducible refine below_drewN ?_ _) | (with_reducible refine below_after (by assumption) ?_ ?_) | (with_reducible refine Below.drew ?_) | (with_reducible refine Below.alloc ?_ ?_ _) | (with_reducible refine Below.setCell ?_ ?_ _) | omega | (simp; omega) | (simp; done))))) (HS.out.next (by (repeat' (first | (with_reducible exact Below.refl _ _) | (with_reducible assumption) | (with_reducible refine below_drewN ?_ _) | (with_reducible refine below_after (by assumption) ?_ ?_) | (with_reducible refine Below.drew ?_) | (with_reducible refine Below.alloc ?_ ?_ _) | (with_reducible refine Below.setCell ?_ ?_ _) | omega | (simp; omega) | (simp; done)))))).mono ?_
  rintro e w1 ⟨t, rfl, hB1, ho, hR⟩
  have hz := hB1.size
  simp only [World.size_alloc] at hz
  have hO : Blk w1 (w.heap.size + 1 + 1 + 1) 29 #[.slice none 0 0, .slice none 0 0, .slice none 0 0, .slice none 0 0, .slice none 0 0, .slice none 0 0, .slice none 0 0] := by
    have hn := heap_alloc_new (((w.alloc (.cells #[.int .i64 p.buses, .slice p.sA p.sn p.sc, .slice p.lA p.ln p.lc, .slice p.rA p.rn p.rc] 26)).alloc (.cells #[.slice s.closed.A s.closed.n s.closed.c, .slice s.locked.A s.locked.n s.locked.c, .slice s.badLink.A s.badLink.n s.badLink.c, .slice s.on.A s.on.n s.on.c, .slice s.badSource.A s.badSource.n s.badSource.c, .slice s.earthed.A s.earthed.n s.earthed.c, .slice s.badBus.A s.badBus.n s.badBus.c] 29)).alloc (.cells #[.int .i64 kind, .int .i64 idx] 60)) (.cells #[.slice none 0 0, .slice none 0 0, .slice none 0 0, .slice none 0 0, .slice none 0 0, .slice none 0 0, .slice none 0 0] 29)
    simp only [World.size_alloc] at hn
    exact (hB1.block _ (by simp)).trans hn
  obtain ⟨o0, o1, o2, o3, o4, o5, o6⟩ := cells7 hO
  have fz := hO.frozen
  have HO := Lib.hid ho
  have HR := Lib.hid hR
  clear hO ho hR
  (dsimp only; repeat' (first | go_values | go_skip | go_guarded | go_step | go_upon))
  refine bodyPost_ret (v := .tuple #[Stt.val t, .int .i64 er]) ?_ rfl ⟨t, rfl, by (repeat' (first | (with_reducible exact Below.refl _ _) | (with_reducible assumption) | (with_reducible refine below_drewN ?_ _) | (with_reducible refine below_after (by assumption) ?_ ?_) | (with_reducible refine Below.drew ?_) | (with_reducible refine Below.alloc ?_ ?_ _) | (with_reducible refine Below.setCell ?_ ?_ _) | omega | (simp; omega) | (simp; done))), ?_, HR.out⟩
  · simp [results, Tryz.results34, go_sem, Stt.val, o0, o1, o2, o3, o4, o5, o6]
  · have hb := HO.out
    simp only [World.size_alloc] at hb
    refine SttOwn.mono_base (((((((hb.below ?_ _).below ?_ _).below ?_ _).below ?_ _).below ?_ _).below ?_ _).below ?_ _) ?_ <;> omega

theorem break_all (p : Plt) (s : Stt) (K i : Int) (w : World) (hp : PltIn w w.heap.size p) (hs : SttIn w w.heap.size s) :
    Calls Tryz.prog 32 #[p.val, s.val, .agg #[.int .i64 K, .int .i64 i]] w fun e w' => ∃ t : Stt, e = .returned (.tuple #[t.val, .int .i64 (failErr p s K i)]) ∧ Below w.heap.size w w' ∧ SttOwn w' w.heap.size t ∧ t.cont = failCont p s K i true :=
  break_ofE p s K i (fun t => t.cont = failCont p s K i true) _ w hp hs (fun W hp hs => withPart_all p s K i true W hp hs)
theorem mend_all (p : Plt) (s : Stt) (K i : Int) (w : World) (hp : PltIn w w.heap.size p) (hs : SttIn w w.heap.size s) :
    Calls Tryz.prog 34 #[p.val, s.val, .agg #[.int .i64 K, .int .i64 i]] w fun e w' => ∃ t : Stt, e = .returned (.tuple #[t.val, .int .i64 (failErr p s K i)]) ∧ Below w.heap.size w w' ∧ SttOwn w' w.heap.size t ∧ t.cont = failCont p s K i false :=
  mend_ofE p s K i (fun t => t.cont = failCont p s K i false) _ w hp hs (fun W hp hs => withPart_all p s K i false W hp hs)
end Go.Proofs.YtigefkjabjnmjaaGreatDoor
