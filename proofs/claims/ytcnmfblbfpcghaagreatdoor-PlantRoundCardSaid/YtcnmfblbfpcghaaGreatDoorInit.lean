/- plant.Initial. -/
import Derived.Test.YtcnmfblbfpcghaaGreatDoorPart2

set_option linter.unusedSimpArgs false
set_option linter.unusedVariables false
namespace Go.Proofs.YtcnmfblbfpcghaaGreatDoor
open Go.RowKit

/-- Is the link at a place a cable? -/
def isCable (p : Plt) (i : Nat) : Bool := match p.lnks[i]? with | some x => decide (x.kind = 1) | none => false
def cablesTo (p : Plt) (k : Nat) : List Bool := (List.range p.ln).map fun i => decide (i < k) && isCable p i
theorem cablesTo_zero (p : Plt) : cablesTo p 0 = noB p.ln := by
  unfold cablesTo noB
  apply List.ext_getElem
  · simp
  · intro i h1 h2
    simp
theorem cablesTo_succ (p : Plt) (k : Nat) : (cablesTo p k).set k (isCable p k) = cablesTo p (k + 1) := by
  unfold cablesTo
  apply List.ext_getElem
  · simp
  · intro i h1 h2
    rw [List.getElem_set]
    split
    · rename_i h
      subst h
      simp
    · rename_i h
      simp only [List.getElem_map, List.getElem_range]
      have : decide (i < k + 1) = decide (i < k) := by
        rw [decide_eq_decide]
        omega
      rw [this]
def initCont (p : Plt) (B : Nat) : List (List Bool) := [cablesTo p p.ln, noB p.ln, noB p.ln, noB p.sn, noB p.sn, noB B, noB B]
theorem check_buses {p : Plt} (h : check p = 0) : ∃ B : Nat, p.buses = B ∧ 1 ≤ B ∧ B ≤ 24 := by
  unfold check at h
  split at h
  · rename_i h1
    simp [within] at h1
    exact ⟨p.buses.toNat, by omega, by omega, by omega⟩
  · cases h
theorem check_small {p : Plt} {w : World} {b : Nat} (h : check p = 0) (hp : PltIn w b p) : p.sn ≤ 8 ∧ p.ln ≤ 40 ∧ p.rn ≤ 24 := by
  unfold check at h
  split at h
  · split at h
    · rename_i h1
      split at h
      · rename_i h2
        split at h
        · rename_i h3
          simp [srcsOk] at h1
          simp [lnksOk] at h2
          simp [rcksOk] at h3
          have := hp.src.1
          have := hp.lnk.1
          have := hp.rck.1
          omega
        · cases h
      · cases h
    · cases h
  · cases h
set_option maxRecDepth 100000 in
set_option maxHeartbeats 4000000 in
theorem initial_any (p : Plt) (B : Nat) (w : World) (hp : PltIn w w.heap.size p) (hc : check p = 0) (hB : p.buses = B) (hB24 : B ≤ 24) :
    Calls Tryz.prog 9 #[p.val] w fun e w' => ∃ t : Stt, e = .returned (.tuple #[t.val, .int .i64 0]) ∧ Below w.heap.size w w' ∧ SttOwn w' w.heap.size t ∧ t.cont = initCont p B := by
  have hsm := check_small hc hp
  have hlen := hp.lnk.1
  have HP := Lib.hid hp
  have C := Lib.hid (check_any p)
  have K := Lib.hid (fun W => blank_any p W (by omega) (by omega) B hB (by omega))
  rw [hc] at C
  clear hp hc hB
  unfold Plt.val at C K
  unfold Plt.val
  go_enter Tryz.func9, Tryz.ntmps9
  go_wp2_with fail
  refine (C.out _ (HP.out.next (by (repeat' (first | (with_reducible exact Below.refl _ _) | (with_reducible assumption) | (with_reducible refine below_drewN ?_ _) | (with_reducible refine below_after (by assumption) ?_ ?_) | (with_reducible refine Below.drew ?_) | (with_reducible refine Below.alloc ?_ ?_ _) | (with_reducible refine Below.setCell ?_ ?_ _) | omega | (simp; omega) | (simp; done)))))).mono ?_
  rintro e w1 ⟨rfl, hB1⟩
  obtain ⟨hc1, hf1⟩ := bcell hB1
  have hz1 := hB1.size
  simp only [World.size_alloc] at hz1
  have y0 : w.heap.size < w1.heap.size := by omega
  go_wp2_with fail
  refine (K.out _).mono ?_
  rintro e w2 ⟨s, rfl, hB2, ho, l0, l1, l2, l3, l4, l5, l6⟩
  have hz2 := hB2.size
  have y1 : w.heap.size < w2.heap.size := by omega
  have y2 : w.heap.size + 1 < w2.heap.size := by omega
  have p2 : w2.cell? ⟨w.heap.size, 2, none⟩ = some (.slice p.lA p.ln p.lc) := (hB2.cell (p := ⟨w.heap.size, 2, none⟩) y0).trans ((hc1 _ _ (by simp only [World.size_alloc]; omega)).trans (by simp [go_sem]))
  have hO : Blk w2 (w.heap.size + 1) 29 #[.slice none 0 0, .slice none 0 0, .slice none 0 0, .slice none 0 0, .slice none 0 0, .slice none 0 0, .slice none 0 0] := by
    have hn := heap_alloc_new (w.alloc (.cells #[.int .i64 p.buses, .slice p.sA p.sn p.sc, .slice p.lA p.ln p.lc, .slice p.rA p.rn p.rc] 26)) (.cells #[.slice none 0 0, .slice none 0 0, .slice none 0 0, .slice none 0 0, .slice none 0 0, .slice none 0 0, .slice none 0 0] 29)
    simp only [World.size_alloc] at hn
    exact ((hB2.block _ (by omega)).trans (hB1.block _ (by simp))).trans hn
  have HO := Lib.hid hO
  have HS := Lib.hid ho
  have HL : Hid (s.closed.l = noB p.ln ∧ s.locked.l = noB p.ln ∧ s.badLink.l = noB p.ln ∧ s.on.l = noB p.sn ∧ s.badSource.l = noB p.sn ∧ s.earthed.l = noB B ∧ s.badBus.l = noB B) := ⟨l0, l1, l2, l3, l4, l5, l6⟩
  have hBw : Below w.heap.size w w2 := by (repeat' (first | (with_reducible exact Below.refl _ _) | (with_reducible assumption) | (with_reducible refine below_drewN ?_ _) | (with_reducible refine below_after (by assumption) ?_ ?_) | (with_reducible refine Below.drew ?_) | (with_reducible refine Below.alloc ?_ ?_ _) | (with_reducible refine Below.setCell ?_ ?_ _) | omega | (simp; omega) | (simp; done)))
  clear hO ho hc1 hf1 l0 l1 l2 l3 l4 l5 l6
  unfold Stt.val
  (dsimp only; repeat' (first | go_values | go_skip | go_guarded | go_step | go_upon))
  go_loopw [19] (fun i wr => ∃ k : Nat, ∃ t : Stt, k ≤ p.ln ∧ i = .int .i64 k ∧ Below w.heap.size w wr ∧ w2.heap.size < wr.heap.size ∧ Blk wr (w.heap.size + 1) 29 #[.slice none 0 0, .slice none 0 0, .slice none 0 0, .slice none 0 0, .slice none 0 0, .slice none 0 0, .slice none 0 0] ∧
      Blk wr w2.heap.size 29 #[.slice s.closed.A s.closed.n s.closed.c, .slice s.locked.A s.locked.n s.locked.c, .slice s.badLink.A s.badLink.n s.badLink.c, .slice s.on.A s.on.n s.on.c, .slice s.badSource.A s.badSource.n s.badSource.c, .slice s.earthed.A s.earthed.n s.earthed.c, .slice s.badBus.A s.badBus.n s.badBus.c] ∧
      Hid (t = { s with closed := { s.closed with l := cablesTo p k } } ∧ SttOwn wr w1.heap.size t)) (fun i _ => p.ln - (intOf i).toNat)
  case atStart =>
    refine ⟨0, _, by omega, rfl, by (repeat' (first | (with_reducible exact Below.refl _ _) | (with_reducible assumption) | (with_reducible refine below_drewN ?_ _) | (with_reducible refine below_after (by assumption) ?_ ?_) | (with_reducible refine Below.drew ?_) | (with_reducible refine Below.alloc ?_ ?_ _) | (with_reducible refine Below.setCell ?_ ?_ _) | omega | (simp; omega) | (simp; done))), by simp, HO.out.alloc _, heap_alloc_new _ _, rfl, ?_⟩
    have h := HS.out.alloc (.cells #[.slice s.closed.A s.closed.n s.closed.c, .slice s.locked.A s.locked.n s.locked.c, .slice s.badLink.A s.badLink.n s.badLink.c, .slice s.on.A s.on.n s.on.c, .slice s.badSource.A s.badSource.n s.badSource.c, .slice s.earthed.A s.earthed.n s.earthed.c, .slice s.badBus.A s.badBus.n s.badBus.c] 29)
    rw [cablesTo_zero, ← HL.out.1]
    exact h
  case round =>
    obtain ⟨k, t, hk, rfl, hB, hz, bO, bS, hT⟩ := hrel
    obtain ⟨rfl, hown⟩ := hT
    obtain ⟨q0, q1, q2, q3, q4, q5, q6⟩ := cells7 bS
    obtain ⟨o0, o1, o2, o3, o4, o5, o6⟩ := cells7 bO
    have fz := bO.frozen
    have BO := Lib.hid bO
    have BS := Lib.hid bS
    have hzw : w.heap.size ≤ wr.heap.size := hB.size
    by_cases hlt : k < p.ln
    · obtain ⟨b, off, x, e1, hb, hx, hcx⟩ := (HP.out.lnk.below hB).at_ hlt
      obtain ⟨c0, c1, c2, c3, c4, c5⟩ := Lnk.cells hcx
      have hb' : b < wr.heap.size := by omega
      have hnl : (cablesTo p k).length = p.ln := by simp [cablesTo]
      have hsl : s.closed.n = p.ln := by have h := (HS.out.own s.closed (by simp [Stt.lists])).len; rw [HL.out.1] at h; simpa [noB] using h.symm
      have hC := hown.own { s.closed with l := cablesTo p k } (by simp [Stt.lists])
      obtain ⟨g, hA, hbg⟩ : ∃ g, s.closed.A = some ⟨g, 0, none⟩ ∧ w1.heap.size ≤ g := by
        rcases hC.own.2 with ⟨_, h0⟩ | ⟨g, cap, cur, e, hb, _⟩
        · simp only at h0; omega
        · simp only [Value.slice.injEq] at e
          exact ⟨g, e.1, hb⟩
      have hC' := hC.own
      simp only at hC'
      rw [hA] at hC'
      have cg : wr.cell? ⟨g, k, none⟩ = some (.bool ((cablesTo p k)[k]?.getD false)) := by
        rw [hC'.cellAt k (by omega), List.getElem?_map, List.getElem?_eq_getElem (by omega)]
        rfl
      have fg := hC'.frozenAt k
      have zg : g < wr.heap.size := (hC'.lt g rfl).2
      have zgS : g < w2.heap.size := by
        have h := (HS.out.own s.closed (by simp [Stt.lists])).own
        rw [hA] at h
        exact (h.lt g rfl).2
      have hi0 : (0 : Int) ≤ (k : Int) := by omega
      have hin : (k : Int) < (s.closed.n : Int) := by omega
      have S := lists_stored hown.own hown.apart (j := 0) (b := { s.closed with l := cablesTo p k }) rfl hA k (isCable p k)
      have hkind : Hid (decide (x.kind = 1) = isCable p k) := by unfold isCable; rw [hx]; rfl
      have S' : Hid (SttOwn (wr.setCell ⟨g, k, none⟩ (.bool (isCable p k))) w1.heap.size { s with closed := { s.closed with l := cablesTo p (k + 1) } }) := by
        have h : SttOwn (wr.setCell ⟨g, k, none⟩ (.bool (isCable p k))) w1.heap.size { s with closed := { s.closed with l := (cablesTo p k).set k (isCable p k) } } := ⟨S.1, S.2⟩
        rw [cablesTo_succ] at h
        exact h
      have HA := Lib.hid hA
      have HG := Lib.hid hbg
      have HE1 := Lib.hid e1
      clear hown hC hC' S hsl hcx hx
      (repeat' (first | go_values | go_skip | go_guarded | go_step | go_upon))
      have e : (x.kind == 1) = isCable p k := by rw [← hkind.out]; by_cases h : x.kind = 1 <;> simp [h]
      rw [e]
      have hg1 := HG.out
      go_roundw
      case rel => exact ⟨k + 1, _, by omega, by go_num, by (repeat' (first | (with_reducible exact Below.refl _ _) | (with_reducible assumption) | (with_reducible refine below_drewN ?_ _) | (with_reducible refine below_after (by assumption) ?_ ?_) | (with_reducible refine Below.drew ?_) | (with_reducible refine Below.alloc ?_ ?_ _) | (with_reducible refine Below.setCell ?_ ?_ _) | omega | (simp; omega) | (simp; done))), by simp; omega, (BO.out.far (by simp; omega) _).alloc _, (BS.out.far (by simp; omega) _).alloc _, rfl, S'.out.alloc _⟩
      case measure => simp [intOf]; omega
    · obtain rfl : k = p.ln := by omega
      have HOwn := Lib.hid hown
      clear hown
      (repeat' (first | go_values | go_skip | go_guarded | go_step | go_upon))
      refine bodyPost_ret (v := .tuple #[Stt.val { s with closed := { s.closed with l := cablesTo p p.ln } }, .int .i64 0]) ?_ rfl ⟨_, rfl, by (repeat' (first | (with_reducible exact Below.refl _ _) | (with_reducible assumption) | (with_reducible refine below_drewN ?_ _) | (with_reducible refine below_after (by assumption) ?_ ?_) | (with_reducible refine Below.drew ?_) | (with_reducible refine Below.alloc ?_ ?_ _) | (with_reducible refine Below.setCell ?_ ?_ _) | omega | (simp; omega) | (simp; done))), ?_, ?_⟩
      · simp [results, Tryz.results9, go_sem, Stt.val, o0, o1, o2, o3, o4, o5, o6]
      · refine SttOwn.mono_base (((((((HOwn.out.below ?_ _).below ?_ _).below ?_ _).below ?_ _).below ?_ _).below ?_ _).below ?_ _) ?_ <;> omega
      · obtain ⟨l0, l1, l2, l3, l4, l5, l6⟩ := HL.out
        simp only [Stt.cont, Stt.lists, List.map_cons, List.map_nil, initCont, l1, l2, l3, l4, l5, l6]
end Go.Proofs.YtcnmfblbfpcghaaGreatDoor
