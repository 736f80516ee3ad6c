/- plant.withPart at a part that is there. -/
import Derived.Test.YtcnmfblbfpcghaaGreatDoorPart

set_option linter.unusedSimpArgs false
set_option linter.unusedVariables false
namespace Go.Proofs.YtcnmfblbfpcghaaGreatDoor
open Go.RowKit

set_option maxRecDepth 100000 in
set_option maxHeartbeats 4000000 in
theorem withPart_ok1 (p : Plt) (s : Stt) (i : Nat) (bad : Bool) (w : World) (hp : PltIn w w.heap.size p) (hs : SttIn w w.heap.size s) (hfit : SttFit s) (hc : checkState p s = 0) (hx : i < s.badBus.l.length) :
    Calls Tryz.prog 43 #[p.val, s.val, .agg #[.int .i64 1, .int .i64 i], .bool bad] w fun e w' => ∃ t : Stt, e = .returned (.tuple #[t.val, .int .i64 0]) ∧ Below w.heap.size w w' ∧ SttOwn w' w.heap.size t ∧ t.cont = s.cont.set 6 (s.badBus.l.set i bad) := by
  have HP := Lib.hid hp
  have HS := Lib.hid hs
  have HF := Lib.hid hfit
  have C := Lib.hid (checkState_any p s)
  have T := Lib.hid (twin_any s)
  rw [hc] at C
  clear hp hs hc hfit
  unfold Plt.val Stt.val at C
  unfold Stt.val at T
  unfold Plt.val Stt.val
  have HX := Lib.hid hx
  clear hx
  go_enter Tryz.func43, Tryz.ntmps43
  go_wp2_with fail
  refine (C.out _ (HP.out.next (by (repeat' (first | (with_reducible exact Below.refl _ _) | (with_reducible assumption) | (with_reducible refine below_drewN ?_ _) | (with_reducible refine below_after (by assumption) ?_ ?_) | (with_reducible refine Below.drew ?_) | (with_reducible refine Below.alloc ?_ ?_ _) | (with_reducible refine Below.setCell ?_ ?_ _) | omega | (simp; omega) | (simp; done))))) (HS.out.next (by (repeat' (first | (with_reducible exact Below.refl _ _) | (with_reducible assumption) | (with_reducible refine below_drewN ?_ _) | (with_reducible refine below_after (by assumption) ?_ ?_) | (with_reducible refine Below.drew ?_) | (with_reducible refine Below.alloc ?_ ?_ _) | (with_reducible refine Below.setCell ?_ ?_ _) | omega | (simp; omega) | (simp; done)))))).mono ?_
  rintro e w1 ⟨rfl, hB1⟩
  obtain ⟨hc1, hf1⟩ := bcell hB1
  go_wp2_with fail
  refine (T.out _ (HS.out.next (by (repeat' (first | (with_reducible exact Below.refl _ _) | (with_reducible assumption) | (with_reducible refine below_drewN ?_ _) | (with_reducible refine below_after (by assumption) ?_ ?_) | (with_reducible refine Below.drew ?_) | (with_reducible refine Below.alloc ?_ ?_ _) | (with_reducible refine Below.setCell ?_ ?_ _) | omega | (simp; omega) | (simp; done))))) HF.out).mono ?_
  rintro e w2 ⟨t, rfl, hB2, ho, l0, l1, l2, l3, l4, l5, l6⟩
  obtain ⟨x0, x1, hO, z2, z3⟩ := part_facts rfl hB1 hB2
  obtain ⟨o0, o1, o2, o3, o4, o5, o6⟩ := cells7 hO
  have fz := hO.frozen
  clear hO hc1 hf1
  have hown := ho.own t.badBus (by simp [Stt.lists])
  have hlen := hown.len.symm.trans (congrArg List.length l6)
  have hi := HX.out
  have hi0 : (0 : Int) ≤ (i : Int) := by omega
  have hin : (i : Int) < (t.badBus.n : Int) := by omega
  obtain ⟨g, cap, hA, hbg, hg⟩ : ∃ g cap, t.badBus.A = some ⟨g, 0, none⟩ ∧ w1.heap.size ≤ g ∧ t.badBus.c = cap := by
    rcases hown.own.2 with ⟨_, h0⟩ | ⟨g, cap, cur, e, hb, _⟩
    · omega
    · simp only [Value.slice.injEq] at e
      exact ⟨g, cap, e.1, hb, e.2.2⟩
  have hown' := hown.own
  rw [hA] at hown'
  have cg : w2.cell? ⟨g, i, none⟩ = some (.bool (t.badBus.l[i]?.getD false)) := by
    rw [hown'.cellAt i (by omega), List.getElem?_map]
    have : i < t.badBus.l.length := by have := hown.len; omega
    rw [List.getElem?_eq_getElem this]
    rfl
  have fg := hown'.frozenAt i
  have zg : g < w2.heap.size := (hown'.lt g rfl).2
  have zn : ¬ g = w.heap.size + 1 + 1 + 1 := by have := hB1.size; simp only [World.size_alloc] at this; omega
  have zn' : ¬ w.heap.size + 1 + 1 + 1 = g := fun e => zn e.symm
  have HO := Lib.hid ho
  have HL : Hid (t.closed.l = s.closed.l ∧ t.locked.l = s.locked.l ∧ t.badLink.l = s.badLink.l ∧ t.on.l = s.on.l ∧ t.badSource.l = s.badSource.l ∧ t.earthed.l = s.earthed.l ∧ t.badBus.l = s.badBus.l) := ⟨l0, l1, l2, l3, l4, l5, l6⟩
  have HA := Lib.hid hA
  have HB := Lib.hid hbg
  clear hlen ho l0 l1 l2 l3 l4 l5 l6 hown hown' hi hg hbg
  (dsimp only; repeat' (first | go_values | go_skip | go_guarded | go_step | go_upon))
  have hgw : w.heap.size ≤ g := by have h1 := HB.out; have h2 := hB1.size; simp only [World.size_alloc] at h2; omega
  have hNb : w.heap.size + 1 + 1 + 1 < w1.heap.size := by have h2 := hB1.size; simp only [World.size_alloc] at h2; omega
  have S := lists_stored HO.out.own HO.out.apart (j := 6) (b := t.badBus) rfl HA.out i bad
  have S' : SttOwn (w2.setCell ⟨g, i, none⟩ (.bool bad)) w1.heap.size { t with badBus := { t.badBus with l := t.badBus.l.set i bad } } := ⟨S.1, S.2⟩
  refine bodyPost_ret (v := .tuple #[Stt.val { t with badBus := { t.badBus with l := t.badBus.l.set i bad } }, .int .i64 0]) ?_ rfl ⟨_, rfl, by (repeat' (first | (with_reducible exact Below.refl _ _) | (with_reducible assumption) | (with_reducible refine below_drewN ?_ _) | (with_reducible refine below_after (by assumption) ?_ ?_) | (with_reducible refine Below.drew ?_) | (with_reducible refine Below.alloc ?_ ?_ _) | (with_reducible refine Below.setCell ?_ ?_ _) | omega | (simp; omega) | (simp; done))), ?_, ?_⟩
  · simp [results, Tryz.results43, go_sem, Stt.val, o0, o1, o2, o3, o4, o5, o6, z3, HA.out, zn, zn', cg]
  · refine SttOwn.mono_base ?_ (Nat.le_of_lt (Nat.lt_of_le_of_lt (by omega) hNb))
    exact ((((((((S'.below hNb _).below hNb _).below hNb _).below hNb _).below hNb _).below hNb _).below hNb _).alloc _)
  · obtain ⟨l0, l1, l2, l3, l4, l5, l6⟩ := HL.out
    simp only [Stt.cont, Stt.lists, List.map_cons, List.map_nil, List.set_cons_zero, List.set_cons_succ, l0, l1, l2, l3, l4, l5, l6]
set_option maxRecDepth 100000 in
set_option maxHeartbeats 4000000 in
theorem withPart_ok2 (p : Plt) (s : Stt) (i : Nat) (bad : Bool) (w : World) (hp : PltIn w w.heap.size p) (hs : SttIn w w.heap.size s) (hfit : SttFit s) (hc : checkState p s = 0) (hx : i < s.badSource.l.length) :
    Calls Tryz.prog 43 #[p.val, s.val, .agg #[.int .i64 2, .int .i64 i], .bool bad] w fun e w' => ∃ t : Stt, e = .returned (.tuple #[t.val, .int .i64 0]) ∧ Below w.heap.size w w' ∧ SttOwn w' w.heap.size t ∧ t.cont = s.cont.set 4 (s.badSource.l.set i bad) := by
  have HP := Lib.hid hp
  have HS := Lib.hid hs
  have HF := Lib.hid hfit
  have C := Lib.hid (checkState_any p s)
  have T := Lib.hid (twin_any s)
  rw [hc] at C
  clear hp hs hc hfit
  unfold Plt.val Stt.val at C
  unfold Stt.val at T
  unfold Plt.val Stt.val
  have HX := Lib.hid hx
  clear hx
  go_enter Tryz.func43, Tryz.ntmps43
  go_wp2_with fail
  refine (C.out _ (HP.out.next (by (repeat' (first | (with_reducible exact Below.refl _ _) | (with_reducible assumption) | (with_reducible refine below_drewN ?_ _) | (with_reducible refine below_after (by assumption) ?_ ?_) | (with_reducible refine Below.drew ?_) | (with_reducible refine Below.alloc ?_ ?_ _) | (with_reducible refine Below.setCell ?_ ?_ _) | omega | (simp; omega) | (simp; done))))) (HS.out.next (by (repeat' (first | (with_reducible exact Below.refl _ _) | (with_reducible assumption) | (with_reducible refine below_drewN ?_ _) | (with_reducible refine below_after (by assumption) ?_ ?_) | (with_reducible refine Below.drew ?_) | (with_reducible refine Below.alloc ?_ ?_ _) | (with_reducible refine Below.setCell ?_ ?_ _) | omega | (simp; omega) | (simp; done)))))).mono ?_
  rintro e w1 ⟨rfl, hB1⟩
  obtain ⟨hc1, hf1⟩ := bcell hB1
  go_wp2_with fail
  refine (T.out _ (HS.out.next (by (repeat' (first | (with_reducible exact Below.refl _ _) | (with_reducible assumption) | (with_reducible refine below_drewN ?_ _) | (with_reducible refine below_after (by assumption) ?_ ?_) | (with_reducible refine Below.drew ?_) | (with_reducible refine Below.alloc ?_ ?_ _) | (with_reducible refine Below.setCell ?_ ?_ _) | omega | (simp; omega) | (simp; done))))) HF.out).mono ?_
  rintro e w2 ⟨t, rfl, hB2, ho, l0, l1, l2, l3, l4, l5, l6⟩
  obtain ⟨x0, x1, hO, z2, z3⟩ := part_facts rfl hB1 hB2
  obtain ⟨o0, o1, o2, o3, o4, o5, o6⟩ := cells7 hO
  have fz := hO.frozen
  clear hO hc1 hf1
  have hown := ho.own t.badSource (by simp [Stt.lists])
  have hlen := hown.len.symm.trans (congrArg List.length l4)
  have hi := HX.out
  have hi0 : (0 : Int) ≤ (i : Int) := by omega
  have hin : (i : Int) < (t.badSource.n : Int) := by omega
  obtain ⟨g, cap, hA, hbg, hg⟩ : ∃ g cap, t.badSource.A = some ⟨g, 0, none⟩ ∧ w1.heap.size ≤ g ∧ t.badSource.c = cap := by
    rcases hown.own.2 with ⟨_, h0⟩ | ⟨g, cap, cur, e, hb, _⟩
    · omega
    · simp only [Value.slice.injEq] at e
      exact ⟨g, cap, e.1, hb, e.2.2⟩
  have hown' := hown.own
  rw [hA] at hown'
  have cg : w2.cell? ⟨g, i, none⟩ = some (.bool (t.badSource.l[i]?.getD false)) := by
    rw [hown'.cellAt i (by omega), List.getElem?_map]
    have : i < t.badSource.l.length := by have := hown.len; omega
    rw [List.getElem?_eq_getElem this]
    rfl
  have fg := hown'.frozenAt i
  have zg : g < w2.heap.size := (hown'.lt g rfl).2
  have zn : ¬ g = w.heap.size + 1 + 1 + 1 := by have := hB1.size; simp only [World.size_alloc] at this; omega
  have zn' : ¬ w.heap.size + 1 + 1 + 1 = g := fun e => zn e.symm
  have HO := Lib.hid ho
  have HL : Hid (t.closed.l = s.closed.l ∧ t.locked.l = s.locked.l ∧ t.badLink.l = s.badLink.l ∧ t.on.l = s.on.l ∧ t.badSource.l = s.badSource.l ∧ t.earthed.l = s.earthed.l ∧ t.badBus.l = s.badBus.l) := ⟨l0, l1, l2, l3, l4, l5, l6⟩
  have HA := Lib.hid hA
  have HB := Lib.hid hbg
  clear hlen ho l0 l1 l2 l3 l4 l5 l6 hown hown' hi hg hbg
  (dsimp only; repeat' (first | go_values | go_skip | go_guarded | go_step | go_upon))
  have hgw : w.heap.size ≤ g := by have h1 := HB.out; have h2 := hB1.size; simp only [World.size_alloc] at h2; omega
  have hNb : w.heap.size + 1 + 1 + 1 < w1.heap.size := by have h2 := hB1.size; simp only [World.size_alloc] at h2; omega
  have S := lists_stored HO.out.own HO.out.apart (j := 4) (b := t.badSource) rfl HA.out i bad
  have S' : SttOwn (w2.setCell ⟨g, i, none⟩ (.bool bad)) w1.heap.size { t with badSource := { t.badSource with l := t.badSource.l.set i bad } } := ⟨S.1, S.2⟩
  refine bodyPost_ret (v := .tuple #[Stt.val { t with badSource := { t.badSource with l := t.badSource.l.set i bad } }, .int .i64 0]) ?_ rfl ⟨_, rfl, by (repeat' (first | (with_reducible exact Below.refl _ _) | (with_reducible assumption) | (with_reducible refine below_drewN ?_ _) | (with_reducible refine below_after (by assumption) ?_ ?_) | (with_reducible refine Below.drew ?_) | (with_reducible refine Below.alloc ?_ ?_ _) | (with_reducible refine Below.setCell ?_ ?_ _) | omega | (simp; omega) | (simp; done))), ?_, ?_⟩
  · simp [results, Tryz.results43, go_sem, Stt.val, o0, o1, o2, o3, o4, o5, o6, z3, HA.out, zn, zn', cg]
  · refine SttOwn.mono_base ?_ (Nat.le_of_lt (Nat.lt_of_le_of_lt (by omega) hNb))
    exact ((((((((S'.below hNb _).below hNb _).below hNb _).below hNb _).below hNb _).below hNb _).below hNb _).alloc _)
  · obtain ⟨l0, l1, l2, l3, l4, l5, l6⟩ := HL.out
    simp only [Stt.cont, Stt.lists, List.map_cons, List.map_nil, List.set_cons_zero, List.set_cons_succ, l0, l1, l2, l3, l4, l5, l6]
set_option maxRecDepth 100000 in
set_option maxHeartbeats 4000000 in
theorem withPart_ok3 (p : Plt) (s : Stt) (i : Nat) (bad : Bool) (w : World) (hp : PltIn w w.heap.size p) (hs : SttIn w w.heap.size s) (hfit : SttFit s) (hc : checkState p s = 0) (hx : i < s.badLink.l.length) :
    Calls Tryz.prog 43 #[p.val, s.val, .agg #[.int .i64 3, .int .i64 i], .bool bad] w fun e w' => ∃ t : Stt, e = .returned (.tuple #[t.val, .int .i64 0]) ∧ Below w.heap.size w w' ∧ SttOwn w' w.heap.size t ∧ t.cont = s.cont.set 2 (s.badLink.l.set i bad) := by
  have HP := Lib.hid hp
  have HS := Lib.hid hs
  have HF := Lib.hid hfit
  have C := Lib.hid (checkState_any p s)
  have T := Lib.hid (twin_any s)
  rw [hc] at C
  clear hp hs hc hfit
  unfold Plt.val Stt.val at C
  unfold Stt.val at T
  unfold Plt.val Stt.val
  have HX := Lib.hid hx
  clear hx
  go_enter Tryz.func43, Tryz.ntmps43
  go_wp2_with fail
  refine (C.out _ (HP.out.next (by (repeat' (first | (with_reducible exact Below.refl _ _) | (with_reducible assumption) | (with_reducible refine below_drewN ?_ _) | (with_reducible refine below_after (by assumption) ?_ ?_) | (with_reducible refine Below.drew ?_) | (with_reducible refine Below.alloc ?_ ?_ _) | (with_reducible refine Below.setCell ?_ ?_ _) | omega | (simp; omega) | (simp; done))))) (HS.out.next (by (repeat' (first | (with_reducible exact Below.refl _ _) | (with_reducible assumption) | (with_reducible refine below_drewN ?_ _) | (with_reducible refine below_after (by assumption) ?_ ?_) | (with_reducible refine Below.drew ?_) | (with_reducible refine Below.alloc ?_ ?_ _) | (with_reducible refine Below.setCell ?_ ?_ _) | omega | (simp; omega) | (simp; done)))))).mono ?_
  rintro e w1 ⟨rfl, hB1⟩
  obtain ⟨hc1, hf1⟩ := bcell hB1
  go_wp2_with fail
  refine (T.out _ (HS.out.next (by (repeat' (first | (with_reducible exact Below.refl _ _) | (with_reducible assumption) | (with_reducible refine below_drewN ?_ _) | (with_reducible refine below_after (by assumption) ?_ ?_) | (with_reducible refine Below.drew ?_) | (with_reducible refine Below.alloc ?_ ?_ _) | (with_reducible refine Below.setCell ?_ ?_ _) | omega | (simp; omega) | (simp; done))))) HF.out).mono ?_
  rintro e w2 ⟨t, rfl, hB2, ho, l0, l1, l2, l3, l4, l5, l6⟩
  obtain ⟨x0, x1, hO, z2, z3⟩ := part_facts rfl hB1 hB2
  obtain ⟨o0, o1, o2, o3, o4, o5, o6⟩ := cells7 hO
  have fz := hO.frozen
  clear hO hc1 hf1
  have hown := ho.own t.badLink (by simp [Stt.lists])
  have hlen := hown.len.symm.trans (congrArg List.length l2)
  have hi := HX.out
  have hi0 : (0 : Int) ≤ (i : Int) := by omega
  have hin : (i : Int) < (t.badLink.n : Int) := by omega
  obtain ⟨g, cap, hA, hbg, hg⟩ : ∃ g cap, t.badLink.A = some ⟨g, 0, none⟩ ∧ w1.heap.size ≤ g ∧ t.badLink.c = cap := by
    rcases hown.own.2 with ⟨_, h0⟩ | ⟨g, cap, cur, e, hb, _⟩
    · omega
    · simp only [Value.slice.injEq] at e
      exact ⟨g, cap, e.1, hb, e.2.2⟩
  have hown' := hown.own
  rw [hA] at hown'
  have cg : w2.cell? ⟨g, i, none⟩ = some (.bool (t.badLink.l[i]?.getD false)) := by
    rw [hown'.cellAt i (by omega), List.getElem?_map]
    have : i < t.badLink.l.length := by have := hown.len; omega
    rw [List.getElem?_eq_getElem this]
    rfl
  have fg := hown'.frozenAt i
  have zg : g < w2.heap.size := (hown'.lt g rfl).2
  have zn : ¬ g = w.heap.size + 1 + 1 + 1 := by have := hB1.size; simp only [World.size_alloc] at this; omega
  have zn' : ¬ w.heap.size + 1 + 1 + 1 = g := fun e => zn e.symm
  have HO := Lib.hid ho
  have HL : Hid (t.closed.l = s.closed.l ∧ t.locked.l = s.locked.l ∧ t.badLink.l = s.badLink.l ∧ t.on.l = s.on.l ∧ t.badSource.l = s.badSource.l ∧ t.earthed.l = s.earthed.l ∧ t.badBus.l = s.badBus.l) := ⟨l0, l1, l2, l3, l4, l5, l6⟩
  have HA := Lib.hid hA
  have HB := Lib.hid hbg
  clear hlen ho l0 l1 l2 l3 l4 l5 l6 hown hown' hi hg hbg
  (dsimp only; repeat' (first | go_values | go_skip | go_guarded | go_step | go_upon))
  have hgw : w.heap.size ≤ g := by have h1 := HB.out; have h2 := hB1.size; simp only [World.size_alloc] at h2; omega
  have hNb : w.heap.size + 1 + 1 + 1 < w1.heap.size := by have h2 := hB1.size; simp only [World.size_alloc] at h2; omega
  have S := lists_stored HO.out.own HO.out.apart (j := 2) (b := t.badLink) rfl HA.out i bad
  have S' : SttOwn (w2.setCell ⟨g, i, none⟩ (.bool bad)) w1.heap.size { t with badLink := { t.badLink with l := t.badLink.l.set i bad } } := ⟨S.1, S.2⟩
  refine bodyPost_ret (v := .tuple #[Stt.val { t with badLink := { t.badLink with l := t.badLink.l.set i bad } }, .int .i64 0]) ?_ rfl ⟨_, rfl, by (repeat' (first | (with_reducible exact Below.refl _ _) | (with_reducible assumption) | (with_reducible refine below_drewN ?_ _) | (with_reducible refine below_after (by assumption) ?_ ?_) | (with_reducible refine Below.drew ?_) | (with_reducible refine Below.alloc ?_ ?_ _) | (with_reducible refine Below.setCell ?_ ?_ _) | omega | (simp; omega) | (simp; done))), ?_, ?_⟩
  · simp [results, Tryz.results43, go_sem, Stt.val, o0, o1, o2, o3, o4, o5, o6, z3, HA.out, zn, zn', cg]
  · refine SttOwn.mono_base ?_ (Nat.le_of_lt (Nat.lt_of_le_of_lt (by omega) hNb))
    exact ((((((((S'.below hNb _).below hNb _).below hNb _).below hNb _).below hNb _).below hNb _).below hNb _).alloc _)
  · obtain ⟨l0, l1, l2, l3, l4, l5, l6⟩ := HL.out
    simp only [Stt.cont, Stt.lists, List.map_cons, List.map_nil, List.set_cons_zero, List.set_cons_succ, l0, l1, l2, l3, l4, l5, l6]
set_option maxRecDepth 100000 in
set_option maxHeartbeats 4000000 in
theorem break_of (p : Plt) (s : Stt) (kind idx : Int) (R : Stt → Prop) (w : World) (hp : PltIn w w.heap.size p) (hs : SttIn w w.heap.size s)
    (h : ∀ W, PltIn W W.heap.size p → SttIn W W.heap.size s → Calls Tryz.prog 43 #[p.val, s.val, .agg #[.int .i64 kind, .int .i64 idx], .bool true] W fun e w' => ∃ t : Stt, e = .returned (.tuple #[t.val, .int .i64 0]) ∧ Below W.heap.size W w' ∧ SttOwn w' W.heap.size t ∧ R t) :
    Calls Tryz.prog 16 #[p.val, s.val, .agg #[.int .i64 kind, .int .i64 idx]] w fun e w' => ∃ t : Stt, e = .returned (.tuple #[t.val, .int .i64 0]) ∧ Below w.heap.size w w' ∧ SttOwn w' w.heap.size t ∧ R t := by
  have HP := Lib.hid hp
  have HS := Lib.hid hs
  have C := Lib.hid h
  clear hp hs h
  unfold Plt.val Stt.val at C
  unfold Plt.val Stt.val
  go_enter Tryz.func16, Tryz.ntmps16
  go_wp2_with fail
  refine (C.out _ (HP.out.next (by (repeat' (first | (with_reducible exact Below.refl _ _) | (with_reducible assumption) | (with_reducible refine below_drewN ?_ _) | (with_reducible refine below_after (by assumption) ?_ ?_) | (with_reducible refine Below.drew ?_) | (with_reducible refine Below.alloc ?_ ?_ _) | (with_reducible refine Below.setCell ?_ ?_ _) | omega | (simp; omega) | (simp; done))))) (HS.out.next (by (repeat' (first | (with_reducible exact Below.refl _ _) | (with_reducible assumption) | (with_reducible refine below_drewN ?_ _) | (with_reducible refine below_after (by assumption) ?_ ?_) | (with_reducible refine Below.drew ?_) | (with_reducible refine Below.alloc ?_ ?_ _) | (with_reducible refine Below.setCell ?_ ?_ _) | omega | (simp; omega) | (simp; done)))))).mono ?_
  rintro e w1 ⟨t, rfl, hB1, ho, hR⟩
  have hz := hB1.size
  simp only [World.size_alloc] at hz
  have hO : Blk w1 (w.heap.size + 1 + 1 + 1) 29 #[.slice none 0 0, .slice none 0 0, .slice none 0 0, .slice none 0 0, .slice none 0 0, .slice none 0 0, .slice none 0 0] := by
    have hn := heap_alloc_new (((w.alloc (.cells #[.int .i64 p.buses, .slice p.sA p.sn p.sc, .slice p.lA p.ln p.lc, .slice p.rA p.rn p.rc] 26)).alloc (.cells #[.slice s.closed.A s.closed.n s.closed.c, .slice s.locked.A s.locked.n s.locked.c, .slice s.badLink.A s.badLink.n s.badLink.c, .slice s.on.A s.on.n s.on.c, .slice s.badSource.A s.badSource.n s.badSource.c, .slice s.earthed.A s.earthed.n s.earthed.c, .slice s.badBus.A s.badBus.n s.badBus.c] 29)).alloc (.cells #[.int .i64 kind, .int .i64 idx] 32)) (.cells #[.slice none 0 0, .slice none 0 0, .slice none 0 0, .slice none 0 0, .slice none 0 0, .slice none 0 0, .slice none 0 0] 29)
    simp only [World.size_alloc] at hn
    exact (hB1.block _ (by simp)).trans hn
  obtain ⟨o0, o1, o2, o3, o4, o5, o6⟩ := cells7 hO
  have fz := hO.frozen
  have HO := Lib.hid ho
  have HR := Lib.hid hR
  clear hO ho hR
  (dsimp only; repeat' (first | go_values | go_skip | go_guarded | go_step | go_upon))
  refine bodyPost_ret (v := .tuple #[Stt.val t, .int .i64 0]) ?_ rfl ⟨t, rfl, by (repeat' (first | (with_reducible exact Below.refl _ _) | (with_reducible assumption) | (with_reducible refine below_drewN ?_ _) | (with_reducible refine below_after (by assumption) ?_ ?_) | (with_reducible refine Below.drew ?_) | (with_reducible refine Below.alloc ?_ ?_ _) | (with_reducible refine Below.setCell ?_ ?_ _) | omega | (simp; omega) | (simp; done))), ?_, HR.out⟩
  · simp [results, Tryz.results16, go_sem, Stt.val, o0, o1, o2, o3, o4, o5, o6]
  · have hb := HO.out
    simp only [World.size_alloc] at hb
    refine SttOwn.mono_base (((((((hb.below ?_ _).below ?_ _).below ?_ _).below ?_ _).below ?_ _).below ?_ _).below ?_ _) ?_ <;> omega
set_option maxRecDepth 100000 in
set_option maxHeartbeats 4000000 in
theorem mend_of (p : Plt) (s : Stt) (kind idx : Int) (R : Stt → Prop) (w : World) (hp : PltIn w w.heap.size p) (hs : SttIn w w.heap.size s)
    (h : ∀ W, PltIn W W.heap.size p → SttIn W W.heap.size s → Calls Tryz.prog 43 #[p.val, s.val, .agg #[.int .i64 kind, .int .i64 idx], .bool false] W fun e w' => ∃ t : Stt, e = .returned (.tuple #[t.val, .int .i64 0]) ∧ Below W.heap.size W w' ∧ SttOwn w' W.heap.size t ∧ R t) :
    Calls Tryz.prog 18 #[p.val, s.val, .agg #[.int .i64 kind, .int .i64 idx]] w fun e w' => ∃ t : Stt, e = .returned (.tuple #[t.val, .int .i64 0]) ∧ Below w.heap.size w w' ∧ SttOwn w' w.heap.size t ∧ R t := by
  have HP := Lib.hid hp
  have HS := Lib.hid hs
  have C := Lib.hid h
  clear hp hs h
  unfold Plt.val Stt.val at C
  unfold Plt.val Stt.val
  go_enter Tryz.func18, Tryz.ntmps18
  go_wp2_with fail
  refine (C.out _ (HP.out.next (by (repeat' (first | (with_reducible exact Below.refl _ _) | (with_reducible assumption) | (with_reducible refine below_drewN ?_ _) | (with_reducible refine below_after (by assumption) ?_ ?_) | (with_reducible refine Below.drew ?_) | (with_reducible refine Below.alloc ?_ ?_ _) | (with_reducible refine Below.setCell ?_ ?_ _) | omega | (simp; omega) | (simp; done))))) (HS.out.next (by (repeat' (first | (with_reducible exact Below.refl _ _) | (with_reducible assumption) | (with_reducible refine below_drewN ?_ _) | (with_reducible refine below_after (by assumption) ?_ ?_) | (with_reducible refine Below.drew ?_) | (with_reducible refine Below.alloc ?_ ?_ _) | (with_reducible refine Below.setCell ?_ ?_ _) | omega | (simp; omega) | (simp; done)))))).mono ?_
  rintro e w1 ⟨t, rfl, hB1, ho, hR⟩
  have hz := hB1.size
  simp only [World.size_alloc] at hz
  have hO : Blk w1 (w.heap.size + 1 + 1 + 1) 29 #[.slice none 0 0, .slice none 0 0, .slice none 0 0, .slice none 0 0, .slice none 0 0, .slice none 0 0, .slice none 0 0] := by
    have hn := heap_alloc_new (((w.alloc (.cells #[.int .i64 p.buses, .slice p.sA p.sn p.sc, .slice p.lA p.ln p.lc, .slice p.rA p.rn p.rc] 26)).alloc (.cells #[.slice s.closed.A s.closed.n s.closed.c, .slice s.locked.A s.locked.n s.locked.c, .slice s.badLink.A s.badLink.n s.badLink.c, .slice s.on.A s.on.n s.on.c, .slice s.badSource.A s.badSource.n s.badSource.c, .slice s.earthed.A s.earthed.n s.earthed.c, .slice s.badBus.A s.badBus.n s.badBus.c] 29)).alloc (.cells #[.int .i64 kind, .int .i64 idx] 32)) (.cells #[.slice none 0 0, .slice none 0 0, .slice none 0 0, .slice none 0 0, .slice none 0 0, .slice none 0 0, .slice none 0 0] 29)
    simp only [World.size_alloc] at hn
    exact (hB1.block _ (by simp)).trans hn
  obtain ⟨o0, o1, o2, o3, o4, o5, o6⟩ := cells7 hO
  have fz := hO.frozen
  have HO := Lib.hid ho
  have HR := Lib.hid hR
  clear hO ho hR
  (dsimp only; repeat' (first | go_values | go_skip | go_guarded | go_step | go_upon))
  refine bodyPost_ret (v := .tuple #[Stt.val t, .int .i64 0]) ?_ rfl ⟨t, rfl, by (repeat' (first | (with_reducible exact Below.refl _ _) | (with_reducible assumption) | (with_reducible refine below_drewN ?_ _) | (with_reducible refine below_after (by assumption) ?_ ?_) | (with_reducible refine Below.drew ?_) | (with_reducible refine Below.alloc ?_ ?_ _) | (with_reducible refine Below.setCell ?_ ?_ _) | omega | (simp; omega) | (simp; done))), ?_, HR.out⟩
  · simp [results, Tryz.results18, go_sem, Stt.val, o0, o1, o2, o3, o4, o5, o6]
  · have hb := HO.out
    simp only [World.size_alloc] at hb
    refine SttOwn.mono_base (((((((hb.below ?_ _).below ?_ _).below ?_ _).below ?_ _).below ?_ _).below ?_ _).below ?_ _) ?_ <;> omega
end Go.Proofs.YtcnmfblbfpcghaaGreatDoor
