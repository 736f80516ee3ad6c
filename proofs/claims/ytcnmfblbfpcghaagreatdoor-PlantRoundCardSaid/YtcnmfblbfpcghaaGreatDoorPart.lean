/- plant.withPart, Break, Mend. -/
import Derived.Test.YtcnmfblbfpcghaaGreatDoorTwin

set_option linter.unusedSimpArgs false
set_option linter.unusedVariables false
namespace Go.Proofs.YtcnmfblbfpcghaaGreatDoor
open Go.RowKit

/-- Lists of the call's own, one of which is written. -/
theorem lists_stored {w : World} {base : Nat} {L : List Bs} (ho : ∀ b ∈ L, BsOwn w base b) (hp : L.Pairwise fun a b => ∀ g, a.blk = some g → b.blk ≠ some g) {j : Nat} {b : Bs} (hj : L[j]? = some b) {g : Nat} (hA : b.A = some ⟨g, 0, none⟩) (i : Nat) (u : Bool) :
    (∀ x ∈ L.set j { b with l := b.l.set i u }, BsOwn (w.setCell ⟨g, i, none⟩ (.bool u)) base x) ∧ (L.set j { b with l := b.l.set i u }).Pairwise (fun a b => ∀ g, a.blk = some g → b.blk ≠ some g) := by
  have hjl := (List.getElem?_eq_some_iff.1 hj).1
  have hjb : L[j] = b := (List.getElem?_eq_some_iff.1 hj).2
  have hblk : b.blk = some g := by unfold Bs.blk; rw [hA]; rfl
  rw [List.pairwise_iff_getElem] at hp
  refine ⟨?_, ?_⟩
  · intro x hx
    obtain ⟨k, hk, rfl⟩ := List.getElem_of_mem hx
    rw [List.length_set] at hk
    rw [List.getElem_set]
    split
    · have h1 := ho b (List.mem_of_getElem? hj)
      have h2 := h1.own
      rw [hA] at h2
      have h3 := (h2.stored i (.bool u)).1
      refine ⟨?_, by simpa using h1.len⟩
      simp only [hA]
      rw [List.map_set]
      exact h3
    · rename_i hne
      have h1 := ho L[k] (List.getElem_mem hk)
      refine ⟨ownsRow_setCell_other h1.own ?_ _, h1.len⟩
      intro e
      rcases Nat.lt_or_ge j k with hjk | hkj
      · exact hp j k hjl hk hjk g (by rw [hjb]; exact hblk) e
      · exact hp k j hk hjl (by omega) g e (by rw [hjb]; exact hblk)
  · rw [List.pairwise_iff_getElem]
    intro a c ha hc hac
    rw [List.length_set] at ha hc
    have e : ∀ k (hk : k < L.length), ((L.set j { b with l := b.l.set i u })[k]'(by rw [List.length_set]; exact hk)).blk = L[k].blk := by
      intro k hk
      rw [List.getElem_set]
      split
      · rename_i h
        subst h
        rw [hjb]
        rfl
      · rfl
    intro g'
    rw [e a ha, e c hc]
    exact hp a c ha hc hac g'
/-- The lists' contents. -/
def Stt.cont (s : Stt) : List (List Bool) := s.lists.map (·.l)
def nilStt : Value := .agg #[.slice none 0 0, .slice none 0 0, .slice none 0 0, .slice none 0 0, .slice none 0 0, .slice none 0 0, .slice none 0 0]
set_option maxRecDepth 100000 in
set_option maxHeartbeats 4000000 in
theorem withPart_bad (p : Plt) (s : Stt) (kind idx : Int) (bad : Bool) (w : World) (hp : PltIn w w.heap.size p) (hs : SttIn w w.heap.size s) (hc : ¬ checkState p s = 0) :
    Calls Tryz.prog 43 #[p.val, s.val, .agg #[.int .i64 kind, .int .i64 idx], .bool bad] w fun e w' => e = .returned (.tuple #[nilStt, .int .i64 (checkState p s)]) ∧ Below w.heap.size w w' := by
  have HP := Lib.hid hp
  have HS := Lib.hid hs
  have hq : (checkState p s == 0) = false := by simpa using hc
  clear hp hs hc
  have C := Lib.hid (checkState_any p s)
  unfold Plt.val Stt.val at C
  unfold Plt.val Stt.val
  go_enter Tryz.func43, Tryz.ntmps43
  go_wp2_with (go_at_call 58; refine (C.out _ (HP.out.next (by (repeat' (first | (with_reducible exact Below.refl _ _) | (with_reducible assumption) | (with_reducible refine below_drewN ?_ _) | (with_reducible refine below_after (by assumption) ?_ ?_) | (with_reducible refine Below.drew ?_) | (with_reducible refine Below.alloc ?_ ?_ _) | (with_reducible refine Below.setCell ?_ ?_ _) | omega | (simp; omega) | (simp; done))))) (HS.out.next (by (repeat' (first | (with_reducible exact Below.refl _ _) | (with_reducible assumption) | (with_reducible refine below_drewN ?_ _) | (with_reducible refine below_after (by assumption) ?_ ?_) | (with_reducible refine Below.drew ?_) | (with_reducible refine Below.alloc ?_ ?_ _) | (with_reducible refine Below.setCell ?_ ?_ _) | omega | (simp; omega) | (simp; done)))))).mono ?_; rintro e w1 ⟨rfl, hB1⟩; obtain ⟨hc1, hf1⟩ := bcell hB1)
  have hz1 := hB1.size
  simp only [World.size_alloc] at hz1
  refine bodyPost_ret (v := .tuple #[nilStt, .int .i64 (checkState p s)]) ?_ rfl ⟨rfl, by (repeat' (first | (with_reducible exact Below.refl _ _) | (with_reducible assumption) | (with_reducible refine below_drewN ?_ _) | (with_reducible refine below_after (by assumption) ?_ ?_) | (with_reducible refine Below.drew ?_) | (with_reducible refine Below.alloc ?_ ?_ _) | (with_reducible refine Below.setCell ?_ ?_ _) | omega | (simp; omega) | (simp; done)))⟩
  simp [results, Tryz.results43, go_sem, nilStt, hc1]

/-- The place of a kind of parts among the lists. -/
def partAt (kind : Int) : Nat := if kind = 1 then 6 else if kind = 2 then 4 else 2
def isPart (s : Stt) (kind idx : Int) : Bool := decide (0 ≤ idx) && ((decide (kind = 1) && decide (idx < s.badBus.l.length)) || (decide (kind = 2) && decide (idx < s.badSource.l.length)) || (decide (kind = 3) && decide (idx < s.badLink.l.length)))
/-- What withPart has in memory behind its two calls: the part, and the block of its result. -/
theorem part_facts {w w1 w2 : World} {vp vs vx : Array Value} {tp ts tx : TypeId} {kind idx : Int} {nil7 : Array Value} {tr : TypeId} (hx : vx = #[.int .i64 kind, .int .i64 idx])
    (hB1 : Below ((((w.alloc (.cells vp tp)).alloc (.cells vs ts)).alloc (.cells vx tx)).alloc (.cells nil7 tr)).heap.size ((((w.alloc (.cells vp tp)).alloc (.cells vs ts)).alloc (.cells vx tx)).alloc (.cells nil7 tr)) w1) (hB2 : Below w1.heap.size w1 w2) :
    w2.cell? ⟨w.heap.size + 1 + 1, 0, none⟩ = some (.int .i64 kind) ∧ w2.cell? ⟨w.heap.size + 1 + 1, 1, none⟩ = some (.int .i64 idx) ∧ Blk w2 (w.heap.size + 1 + 1 + 1) tr nil7 ∧ w.heap.size + 1 + 1 < w2.heap.size ∧ w.heap.size + 1 + 1 + 1 < w2.heap.size := by
  subst hx
  have h1 := hB1.size
  have h2 := hB2.size
  simp only [World.size_alloc] at h1
  obtain ⟨hc1, _⟩ := bcell hB1
  obtain ⟨hc2, _⟩ := bcell hB2
  refine ⟨(hc2 _ _ (by omega)).trans ((hc1 _ _ (by simp)).trans (by simp [go_sem])), (hc2 _ _ (by omega)).trans ((hc1 _ _ (by simp)).trans (by simp [go_sem])), ?_, by omega, by omega⟩
  have hn := heap_alloc_new (((w.alloc (.cells vp tp)).alloc (.cells vs ts)).alloc (.cells #[.int .i64 kind, .int .i64 idx] tx)) (.cells nil7 tr)
  simp only [World.size_alloc] at hn
  exact ((hB2.block _ (by omega)).trans (hB1.block _ (by simp))).trans hn
theorem cells7 {w : World} {g : Nat} {T : TypeId} {c0 c1 c2 c3 c4 c5 c6 : Value} (h : Blk w g T #[c0, c1, c2, c3, c4, c5, c6]) :
    w.cell? ⟨g, 0, none⟩ = some c0 ∧ w.cell? ⟨g, 1, none⟩ = some c1 ∧ w.cell? ⟨g, 2, none⟩ = some c2 ∧ w.cell? ⟨g, 3, none⟩ = some c3 ∧ w.cell? ⟨g, 4, none⟩ = some c4 ∧ w.cell? ⟨g, 5, none⟩ = some c5 ∧ w.cell? ⟨g, 6, none⟩ = some c6 :=
  ⟨h.cell 0, h.cell 1, h.cell 2, h.cell 3, h.cell 4, h.cell 5, h.cell 6⟩
theorem SttOwn.below {w : World} {base : Nat} {s : Stt} (h : SttOwn w base s) {b i : Nat} (hb : b < base) (u : Value) : SttOwn (w.setCell ⟨b, i, none⟩ u) base s :=
  ⟨fun x hx => ⟨ownsRow_setCell_below (h.own x hx).own hb u, (h.own x hx).len⟩, h.apart⟩
theorem SttOwn.alloc {w : World} {base : Nat} {s : Stt} (h : SttOwn w base s) (o : Obj) : SttOwn (w.alloc o) base s :=
  ⟨fun x hx => ⟨(h.own x hx).own.alloc o, (h.own x hx).len⟩, h.apart⟩
theorem SttOwn.mono_base {w : World} {base base' : Nat} {s : Stt} (h : SttOwn w base s) (hb : base' ≤ base) : SttOwn w base' s :=
  ⟨fun x hx => ⟨(h.own x hx).own.mono_base hb, (h.own x hx).len⟩, h.apart⟩
set_option maxRecDepth 100000 in
set_option maxHeartbeats 4000000 in
theorem withPart_none1 (p : Plt) (s : Stt) (idx : Int) (bad : Bool) (w : World) (hp : PltIn w w.heap.size p) (hs : SttIn w w.heap.size s) (hfit : SttFit s) (hc : checkState p s = 0) (hx : ¬ (0 ≤ idx ∧ idx < s.badBus.l.length)) :
    Calls Tryz.prog 43 #[p.val, s.val, .agg #[.int .i64 1, .int .i64 idx], .bool bad] w fun e w' => e = .returned (.tuple #[nilStt, .int .i64 14]) ∧ Below w.heap.size w w' := by
  have HP := Lib.hid hp
  have HS := Lib.hid hs
  have HF := Lib.hid hfit
  have C := Lib.hid (checkState_any p s)
  have T := Lib.hid (twin_any s)
  rw [hc] at C
  clear hp hs hc hfit
  unfold Plt.val Stt.val at C
  unfold Stt.val at T
  unfold Plt.val Stt.val
  by_cases hneg : idx < 0
  all_goals
    have HX : Hid (¬ (0 ≤ idx ∧ idx < s.badBus.l.length)) := hx
    go_enter Tryz.func43, Tryz.ntmps43
    go_wp2_with fail
    refine (C.out _ (HP.out.next (by (repeat' (first | (with_reducible exact Below.refl _ _) | (with_reducible assumption) | (with_reducible refine below_drewN ?_ _) | (with_reducible refine below_after (by assumption) ?_ ?_) | (with_reducible refine Below.drew ?_) | (with_reducible refine Below.alloc ?_ ?_ _) | (with_reducible refine Below.setCell ?_ ?_ _) | omega | (simp; omega) | (simp; done))))) (HS.out.next (by (repeat' (first | (with_reducible exact Below.refl _ _) | (with_reducible assumption) | (with_reducible refine below_drewN ?_ _) | (with_reducible refine below_after (by assumption) ?_ ?_) | (with_reducible refine Below.drew ?_) | (with_reducible refine Below.alloc ?_ ?_ _) | (with_reducible refine Below.setCell ?_ ?_ _) | omega | (simp; omega) | (simp; done)))))).mono ?_
    rintro e w1 ⟨rfl, hB1⟩
    obtain ⟨hc1, hf1⟩ := bcell hB1
    go_wp2_with fail
    refine (T.out _ (HS.out.next (by (repeat' (first | (with_reducible exact Below.refl _ _) | (with_reducible assumption) | (with_reducible refine below_drewN ?_ _) | (with_reducible refine below_after (by assumption) ?_ ?_) | (with_reducible refine Below.drew ?_) | (with_reducible refine Below.alloc ?_ ?_ _) | (with_reducible refine Below.setCell ?_ ?_ _) | omega | (simp; omega) | (simp; done))))) HF.out).mono ?_
    rintro e w2 ⟨t, rfl, hB2, ho, l0, l1, l2, l3, l4, l5, l6⟩
    obtain ⟨x0, x1, hO, z2, z3⟩ := part_facts rfl hB1 hB2
    obtain ⟨o0, o1, o2, o3, o4, o5, o6⟩ := cells7 hO
    have fz := hO.frozen
    clear hO hc1 hf1
    have hlen := (ho.own t.badBus (by simp [Stt.lists])).len.symm.trans (congrArg List.length l6)
    have hge : idx < 0 ∨ (t.badBus.n : Int) ≤ idx := by have := HX.out; omega
    have hge := hge.resolve_left
    clear hlen ho l0 l1 l2 l3 l4 l5 l6 hx
  · clear hge
    (dsimp only; repeat' (first | go_values | go_skip | go_guarded | go_step | go_upon))
    refine bodyPost_ret (v := .tuple #[nilStt, .int .i64 14]) ?_ rfl ⟨rfl, by (repeat' (first | (with_reducible exact Below.refl _ _) | (with_reducible assumption) | (with_reducible refine below_drewN ?_ _) | (with_reducible refine below_after (by assumption) ?_ ?_) | (with_reducible refine Below.drew ?_) | (with_reducible refine Below.alloc ?_ ?_ _) | (with_reducible refine Below.setCell ?_ ?_ _) | omega | (simp; omega) | (simp; done)))⟩
    simp [results, Tryz.results43, go_sem, nilStt, o0, o1, o2, o3, o4, o5, o6, z3]
  · replace hge := hge (by omega)
    (dsimp only; repeat' (first | go_values | go_skip | go_guarded | go_step | go_upon))
    refine bodyPost_ret (v := .tuple #[nilStt, .int .i64 14]) ?_ rfl ⟨rfl, by (repeat' (first | (with_reducible exact Below.refl _ _) | (with_reducible assumption) | (with_reducible refine below_drewN ?_ _) | (with_reducible refine below_after (by assumption) ?_ ?_) | (with_reducible refine Below.drew ?_) | (with_reducible refine Below.alloc ?_ ?_ _) | (with_reducible refine Below.setCell ?_ ?_ _) | omega | (simp; omega) | (simp; done)))⟩
    simp [results, Tryz.results43, go_sem, nilStt, o0, o1, o2, o3, o4, o5, o6, z3]
end Go.Proofs.YtcnmfblbfpcghaaGreatDoor
