/- The law's big. -/
import Derived.Test.YtcnmfblbfpcghaaGreatDoorCopy
import Derived.Test.YtcnmfblbfpcghaaGreatDoorAwKit
import Derived.Test.YtcnmfblbfpcghaaGreatDoorPltO

set_option linter.unusedSimpArgs false
set_option linter.unusedVariables false
namespace Go.Proofs.YtcnmfblbfpcghaaGreatDoor
open Go.RowKit Go.Shelf

/-- Is a plant too big for the statements? -/
def bigP (p : Plt) : Bool := decide (60 < p.sn) || decide (60 < p.ln) || decide (60 < p.rn) || p.lnks.any fun x => decide (20 < x.tn)
set_option maxRecDepth 100000 in
set_option maxHeartbeats 4000000 in
theorem big_any (p : Plt) (w : World) (hp : PltIn w w.heap.size p) :
    Calls Tryz.prog 7 #[p.val] w fun e w' => e = .returned (.bool (bigP p)) ∧ Below w.heap.size w w' := by
  have HP := Lib.hid hp
  have h1 := hp.hs
  have h2 := hp.hl
  have h3 := hp.hr
  have e2 := Lib.hid hp.lnk.1
  clear hp
  unfold Plt.val
  go_enter Tryz.func7, Tryz.ntmps7
  by_cases q1 : (60 : Int) < (p.sn : Int)
  · go_wp2
    go_ret
    exact ⟨ret_bool (by simp [bigP]; omega), by (repeat' (first | (with_reducible exact Below.refl _ _) | (with_reducible assumption) | (with_reducible refine below_drewN ?_ _) | (with_reducible refine below_after (by assumption) ?_ ?_) | (with_reducible refine Below.drew ?_) | (with_reducible refine Below.alloc ?_ ?_ _) | (with_reducible refine Below.setCell ?_ ?_ _) | omega | (simp; omega) | (simp; done)))⟩
  by_cases q2 : (60 : Int) < (p.ln : Int)
  · go_wp2
    go_ret
    exact ⟨ret_bool (by simp [bigP]; omega), by (repeat' (first | (with_reducible exact Below.refl _ _) | (with_reducible assumption) | (with_reducible refine below_drewN ?_ _) | (with_reducible refine below_after (by assumption) ?_ ?_) | (with_reducible refine Below.drew ?_) | (with_reducible refine Below.alloc ?_ ?_ _) | (with_reducible refine Below.setCell ?_ ?_ _) | omega | (simp; omega) | (simp; done)))⟩
  by_cases q3 : (60 : Int) < (p.rn : Int)
  · go_wp2
    go_ret
    exact ⟨ret_bool (by simp [bigP]; omega), by (repeat' (first | (with_reducible exact Below.refl _ _) | (with_reducible assumption) | (with_reducible refine below_drewN ?_ _) | (with_reducible refine below_after (by assumption) ?_ ?_) | (with_reducible refine Below.drew ?_) | (with_reducible refine Below.alloc ?_ ?_ _) | (with_reducible refine Below.setCell ?_ ?_ _) | omega | (simp; omega) | (simp; done)))⟩
  have q1' : (p.sn : Int) ≤ 60 := by omega
  have q2' : (p.ln : Int) ≤ 60 := by omega
  have q3' : (p.rn : Int) ≤ 60 := by omega
  go_wp2
  go_loopw [3] (fun i wr => ∃ k : Nat, k ≤ p.ln ∧ i = .int .i64 k ∧ wr = w.alloc (.cells #[.int .i64 p.buses, .slice p.sA p.sn p.sc, .slice p.lA p.ln p.lc, .slice p.rA p.rn p.rc] 26) ∧ Hid (∀ i (y : Lnk), i < k → p.lnks[i]? = some y → decide (20 < y.tn) = false)) (fun i _ => p.ln - (intOf i).toNat)
  case atStart => exact ⟨0, by omega, rfl, rfl, fun i y hi => absurd hi (by omega)⟩
  case round =>
    obtain ⟨k, hk, rfl, rfl, hE⟩ := hrel
    by_cases hlt : k < p.ln
    · obtain ⟨b, off, x, e1, hb, hx, hcx⟩ := HP.out.lnk.at_ hlt
      obtain ⟨d0, d1, d2, d3, d4, d5⟩ := Lnk.cells hcx
      have ht := HP.out.ht x (List.mem_of_getElem? hx)
      have HX := Lib.hid hx
      clear hx hcx
      have hk0 : (0 : Int) ≤ (k : Int) := by omega
      have hkn : (k : Int) < (p.ln : Int) := by omega
      by_cases q : (20 : Int) < (x.tn : Int)
      · have hd : bigP p = true := by
          unfold bigP
          simp only [Bool.or_eq_true]
          refine .inr (List.any_eq_true.2 ⟨x, List.mem_of_getElem? HX.out, ?_⟩)
          simp; omega
        go_wp2
        go_ret
        exact ⟨ret_bool hd.symm, by (repeat' (first | (with_reducible exact Below.refl _ _) | (with_reducible assumption) | (with_reducible refine below_drewN ?_ _) | (with_reducible refine below_after (by assumption) ?_ ?_) | (with_reducible refine Below.drew ?_) | (with_reducible refine Below.alloc ?_ ?_ _) | (with_reducible refine Below.setCell ?_ ?_ _) | omega | (simp; omega) | (simp; done)))⟩
      · have hE' : Hid (∀ i (y : Lnk), i < k + 1 → p.lnks[i]? = some y → decide (20 < y.tn) = false) := by
          intro i y hi hy
          rcases Nat.lt_or_ge i k with h | h
          · exact hE.out i y h hy
          · obtain rfl : i = k := by omega
            rw [HX.out] at hy
            cases hy
            simp; omega
        clear hE
        go_wp2
        go_roundw
        case rel => exact ⟨k + 1, by omega, by go_num, by simp only [e1], hE'⟩
        case measure => simp [intOf]; omega
    · have hd : bigP p = false := by
        unfold bigP
        simp only [Bool.or_eq_false_iff, decide_eq_false_iff_not]
        refine ⟨⟨⟨by omega, by omega⟩, by omega⟩, ?_⟩
        rw [List.any_eq_false]
        intro x hx
        obtain ⟨i, hi⟩ := List.getElem?_of_mem hx
        have hil := (List.getElem?_eq_some_iff.1 hi).1
        rw [e2.out] at hil
        simpa using hE.out i x (by omega) hi
      go_wp2
      go_ret
      exact ⟨ret_bool hd.symm, by (repeat' (first | (with_reducible exact Below.refl _ _) | (with_reducible assumption) | (with_reducible refine below_drewN ?_ _) | (with_reducible refine below_after (by assumption) ?_ ?_) | (with_reducible refine Below.drew ?_) | (with_reducible refine Below.alloc ?_ ?_ _) | (with_reducible refine Below.setCell ?_ ?_ _) | omega | (simp; omega) | (simp; done)))⟩
end Go.Proofs.YtcnmfblbfpcghaaGreatDoor

/- The law's awake. -/
namespace Go.Proofs.YtcnmfblbfpcghaaGreatDoor
open Go.RowKit

theorem bsIn_of {w : World} {base : Nat} {b : Bs} (h : BsOwn w base b) : BsIn w w.heap.size b := by
  obtain ⟨h1, h2⟩ := h
  rcases h1.2 with ⟨e, h0⟩ | ⟨g, cap, cur, e, _, hgb, hnc, hcm, _⟩
  · exact ⟨⟨h2, fun hn => by omega⟩, by omega⟩
  · simp only [Value.slice.injEq] at e
    refine ⟨⟨h2, fun _ => ⟨g, 0, e.1, (Array.getElem?_eq_some_iff.1 hgb).1, fun i x hx j u hu => ?_⟩⟩, by simp only [maxLen] at hcm; omega⟩
    unfold encB at hu
    match j, hu with
    | 0, hu =>
      simp only [List.getElem?_cons_zero, Option.some.injEq] at hu
      subst hu
      rw [e.1] at h1
      have h5 := row_cell h1 (k := i) (u := .bool x) (by rw [List.getElem?_map, hx]; rfl)
      simpa using h5
theorem sttIn_of {w : World} {base : Nat} {s : Stt} (h : SttOwn w base s) : SttIn w w.heap.size s :=
  ⟨bsIn_of (h.own _ (by simp [Stt.lists])), bsIn_of (h.own _ (by simp [Stt.lists])), bsIn_of (h.own _ (by simp [Stt.lists])), bsIn_of (h.own _ (by simp [Stt.lists])), bsIn_of (h.own _ (by simp [Stt.lists])), bsIn_of (h.own _ (by simp [Stt.lists])), bsIn_of (h.own _ (by simp [Stt.lists]))⟩
/-- A state of which the lists are known. -/
theorem stt_lit {w : World} {base : Nat} {t : Stt} {l0 l1 l2 l3 l4 l5 l6 : List Bool} (h : SttOwn w base t) (hc : t.cont = [l0, l1, l2, l3, l4, l5, l6]) : ∃ (A0 A1 A2 A3 A4 A5 A6 : Option Addr) (c0 c1 c2 c3 c4 c5 c6 : Nat), t = ⟨⟨A0, l0.length, c0, l0⟩, ⟨A1, l1.length, c1, l1⟩, ⟨A2, l2.length, c2, l2⟩, ⟨A3, l3.length, c3, l3⟩, ⟨A4, l4.length, c4, l4⟩, ⟨A5, l5.length, c5, l5⟩, ⟨A6, l6.length, c6, l6⟩⟩ := by
  have hl : ∀ b ∈ t.lists, b.n = b.l.length := fun b hb => (h.own b hb).len.symm
  obtain ⟨⟨A0, n0, c0, m0⟩, ⟨A1, n1, c1, m1⟩, ⟨A2, n2, c2, m2⟩, ⟨A3, n3, c3, m3⟩, ⟨A4, n4, c4, m4⟩, ⟨A5, n5, c5, m5⟩, ⟨A6, n6, c6, m6⟩⟩ := t
  simp only [Stt.cont, Stt.lists, List.map_cons, List.map_nil, List.cons.injEq, and_true] at hc
  simp only [Stt.lists, List.mem_cons, List.mem_nil_iff, or_false, forall_eq_or_imp, forall_eq] at hl
  obtain ⟨rfl, rfl, rfl, rfl, rfl, rfl, rfl⟩ := hc
  obtain ⟨rfl, rfl, rfl, rfl, rfl, rfl, rfl⟩ := hl
  exact ⟨A0, A1, A2, A3, A4, A5, A6, c0, c1, c2, c3, c4, c5, c6, rfl⟩
/-- The sizes of a state of the example. -/
structure ExN (s : Stt) : Prop where
  closed : s.closed.n = 2
  locked : s.locked.n = 2
  badLink : s.badLink.n = 2
  on : s.on.n = 2
  badSource : s.badSource.n = 2
  earthed : s.earthed.n = 3
  badBus : s.badBus.n = 3
theorem ex_state (b : Nat) (s : Stt) (h : ExN s) : checkState (exP b) s = 0 := by
  obtain ⟨h0, h1, h2, h3, h4, h5, h6⟩ := h
  unfold checkState
  rw [if_pos (exP_check b)]
  simp [stateOk, linkLists, sourceLists, busLists, cablesOk, cableAt, exP, exLnks, h0, h1, h2, h3, h4, h5, h6, List.range_succ]
theorem ex_sound (b : Nat) (s : Stt) (h : ExN s) : Sound (exP b) s 3 (exL (b + 1)) :=
  ⟨rfl, by decide, by decide, exL_lnks b, by intro x hx; simp [exP, exSrcs] at hx; rcases hx with rfl | rfl <;> simp, ⟨h.closed, h.badLink, h.badBus, h.on, h.badSource⟩⟩
set_option maxRecDepth 100000 in
set_option maxHeartbeats 4000000 in
theorem awake_any (w : World) (hP : Pow w) : Calls Tryz.prog 8 #[] w fun e w' => e = .returned (.bool true) ∧ Below w.heap.size w w' := by
  have HPow := Lib.hid hP
  clear hP
  have EX := Lib.hid (fun W => example_any W)
  obtain ⟨b, hb⟩ : ∃ b, w.heap.size + 1 = b := ⟨_, rfl⟩
  have IN := Lib.hid (fun W hp => initial_any (exP b) 3 W hp (exP_check b) rfl (by omega))
  have IS := Lib.hid (fun s (h : ExN s) W hp hs => islands_ok (exP b) s 3 (exL (b + 1)) (ex_sound b s h) (by show (2 : Nat) ≤ 24; omega) W (ex_state b s h) hp hs)
  have FE := Lib.hid (fun s (h : ExN s) W hp hs => fed_ok (exP b) s 3 (exL (b + 1)) (ex_sound b s h) (by intro x hx; simp [exP, exRcks] at hx; subst hx; exact ⟨by decide, by decide⟩) (by show (1 : Nat) ≤ 24; omega) W (ex_state b s h) hp hs)
  have CL := Lib.hid (fun s (h : ExN s) W hp hs => clashes_ok (exP b) s 3 (exL (b + 1)) (ex_sound b s h) (by show (2 : Nat) ≤ 24; omega) W (ex_state b s h) hp hs)
  have SI := Lib.hid (fun A A' n n' c c' l m w hl hm => sameIslands_any A A' n n' c c' l m w hl hm)
  have SP := Lib.hid (fun A A' n n' c c' l m w hl hm hn hn' => samePairs_any A A' n n' c c' l m w hl hm hn hn')
  have B3 := Lib.hid (fun s (h : ExN s) (hf : SttFit s) (hl : 0 < s.badLink.l.length) W hp hs => break_of (exP b) s 3 0 (fun t => t.cont = s.cont.set 2 (s.badLink.l.set 0 true)) W hp hs (fun W hp hs => withPart_ok3 (exP b) s 0 true W hp hs hf (ex_state b s h) hl))
  have B1 := Lib.hid (fun s (h : ExN s) (hf : SttFit s) (hl : 1 < s.badBus.l.length) W hp hs => break_of (exP b) s 1 1 (fun t => t.cont = s.cont.set 6 (s.badBus.l.set 1 true)) W hp hs (fun W hp hs => withPart_ok1 (exP b) s 1 true W hp hs hf (ex_state b s h) hl))
  have FO := Lib.hid (fun W hp hP => format_ok (exP b) W hp (exP_check b) hP)
  go_enter Tryz.func8, Tryz.ntmps8
  go_wp2_with fail
  refine (EX.out _).mono ?_
  rintro e w1 ⟨rfl, hB1, hp1⟩
  rw [hb] at hp1
  rw [hb]
  have HP1 := Lib.hid hp1
  have HB1 := Lib.hid hB1
  have hz1 := hB1.size
  clear hp1 hB1 EX
  unfold Plt.val exP at IN ⊢
  go_wp2_with fail
  refine (IN.out _ (HP1.out.next ((Below.refl _ _).alloc (Nat.le_refl _) _))).mono ?_
  rintro e w2 ⟨t, rfl, hB2, ho2, hc2⟩
  have hic : initCont (exP b) 3 = [[false, false], [false, false], [false, false], [false, false], [false, false], [false, false, false], [false, false, false]] := by rfl
  unfold exP at hic
  rw [hic] at hc2
  obtain ⟨A0, A1, A2, A3, A4, A5, A6, c0, c1, c2, c3, c4, c5, c6, rfl⟩ := stt_lit ho2 hc2
  have HO2 := Lib.hid ho2
  have P2 : Blk w2 w1.heap.size 26 #[.int .i64 3, .slice (some ⟨b, 0, none⟩) 2 2, .slice (some ⟨b + 1 + 1, 0, none⟩) 2 2, .slice (some ⟨b + 1 + 1 + 1, 0, none⟩) 1 1] := (hB2.block _ (by simp)).trans (heap_alloc_new w1 _)
  have HP2 := Lib.hid P2
  have HB2 := Lib.hid hB2
  clear P2
  have hz2 := hB2.size
  simp only [World.size_alloc] at hz2
  have y1 : w1.heap.size < w2.heap.size := by omega
  have q2 : ∀ o1 o2 o3, Blk (((w2.alloc o1).alloc o2).alloc o3) w1.heap.size 26 #[.int .i64 3, .slice (some ⟨b, 0, none⟩) 2 2, .slice (some ⟨b + 1 + 1, 0, none⟩) 2 2, .slice (some ⟨b + 1 + 1 + 1, 0, none⟩) 1 1] := fun o1 o2 o3 => (((((Below.refl w2.heap.size w2).alloc (Nat.le_refl _) o1).alloc (by simp) o2).alloc (by simp; omega) o3).block _ y1).trans HP2.out
  have p20 : ∀ o1 o2 o3, (((w2.alloc o1).alloc o2).alloc o3).cell? ⟨w1.heap.size, 0, none⟩ = some (.int .i64 3) := fun o1 o2 o3 => (q2 o1 o2 o3).cell 0
  have p21 : ∀ o1 o2 o3, (((w2.alloc o1).alloc o2).alloc o3).cell? ⟨w1.heap.size, 1, none⟩ = some (.slice (some ⟨b, 0, none⟩) 2 2) := fun o1 o2 o3 => (q2 o1 o2 o3).cell 1
  have p22 : ∀ o1 o2 o3, (((w2.alloc o1).alloc o2).alloc o3).cell? ⟨w1.heap.size, 2, none⟩ = some (.slice (some ⟨b + 1 + 1, 0, none⟩) 2 2) := fun o1 o2 o3 => (q2 o1 o2 o3).cell 2
  have p23 : ∀ o1 o2 o3, (((w2.alloc o1).alloc o2).alloc o3).cell? ⟨w1.heap.size, 3, none⟩ = some (.slice (some ⟨b + 1 + 1 + 1, 0, none⟩) 1 1) := fun o1 o2 o3 => (q2 o1 o2 o3).cell 3
  clear q2
  clear ho2 hc2 hic hB2
  unfold Stt.val
  simp only [List.length_cons, List.length_nil, Nat.reduceAdd, Nat.zero_add]
  simp only [List.length_cons, List.length_nil, Nat.reduceAdd, Nat.zero_add] at HO2
  obtain ⟨t0, ht0⟩ : ∃ x : Stt, x = { closed := ⟨A0, 2, c0, [false, false]⟩, locked := ⟨A1, 2, c1, [false, false]⟩, badLink := ⟨A2, 2, c2, [false, false]⟩, on := ⟨A3, 2, c3, [false, false]⟩, badSource := ⟨A4, 2, c4, [false, false]⟩, earthed := ⟨A5, 3, c5, [false, false, false]⟩, badBus := ⟨A6, 3, c6, [false, false, false]⟩ } := ⟨_, rfl⟩
  have AW : Hid (∀ W o1 o2 o3, (((w2.alloc o1).alloc o2).alloc o3) = W → o1 = .cells (sBox (exS w2.heap.size t0 false)) 29 → o2 = .cells #[.bool true, .bool true] 4 → o3 = .cells #[.bool true, .bool false] 4 → Aw w b w1.heap.size w2.heap.size t0 false W) := by
    intro W o1 o2 o3 hW h1 h2 h3
    have hst : Blk W w2.heap.size 29 (sBox (exS w2.heap.size t0 false)) := by
      subst hW h1
      exact Blk.alloc (Blk.alloc (heap_alloc_new w2 _) _) _
    subst ht0
    have hb : Below w2.heap.size w2 W := by subst hW; exact (((Below.refl _ _).alloc (Nat.le_refl _) _).alloc (by simp) _).alloc (by simp; omega) _
    have hl : Below w.heap.size w w2 := by
      have hB1 := HB1.out
      have hB2 := HB2.out
      (repeat' (first | (with_reducible exact Below.refl _ _) | (with_reducible assumption) | (with_reducible refine below_drewN ?_ _) | (with_reducible refine below_after (by assumption) ?_ ?_) | (with_reducible refine Below.drew ?_) | (with_reducible refine Below.alloc ?_ ?_ _) | (with_reducible refine Below.setCell ?_ ?_ _) | omega | (simp; omega) | (simp; done)))
    have hz : w.heap.size ≤ w2.heap.size := hl.size
    have hs := (sttIn_of HO2.out).below hb
    have m : w2.heap.size ≤ w2.heap.size + 1 + 1 := by omega
    have hon : Blk W (w2.heap.size + 1) 4 #[.bool true, .bool true] := by
      subst hW h2
      refine Blk.alloc ?_ _
      have := heap_alloc_new (w2.alloc o1) (.cells #[.bool true, .bool true] 4)
      rw [World.size_alloc] at this
      exact this
    have hcl : Blk W (w2.heap.size + 1 + 1) 4 #[.bool true, .bool false] := by
      subst hW h3
      have := heap_alloc_new ((w2.alloc o1).alloc o2) (.cells #[.bool true, .bool false] 4)
      rw [World.size_alloc, World.size_alloc] at this
      exact this
    have hp : PltIn W w2.heap.size (exP b) := by
      have hB2 := HB2.out
      have := HP1.out.next ((Below.refl _ _).alloc (Nat.le_refl _) _) |>.next hB2
      exact this.below hb
    exact ⟨below_after hb (Nat.le_refl _) hl, by omega, hp.more m, HP2.out.below hb y1, by omega, hst, hs.locked.more m, hs.badLink.more m, blk_bs (l := [true, true]) hon rfl (by omega) (by decide), hs.badSource.more m, hs.earthed.more m, hs.badBus.more m, hcl⟩
  clear HO2 HP1
  go_wp2_with fail
  subst ht0
  have hA3 := AW.out _ _ _ _ rfl rfl rfl rfl
  refine (IS.out _ ⟨rfl, rfl, rfl, rfl, rfl, rfl, rfl⟩ _ hA3.plt_in hA3.stt_in).mono ?_
  rintro e w4 ⟨l4, A4', n4, c4', rfl, hB4, hI4, hl4⟩
  have hl4 : l4.map Isle.two = [([0, 1], [0]), ([2], [1])] := by
    have hx : ExIs (exS w2.heap.size { closed := ⟨A0, 2, c0, [false, false]⟩, locked := ⟨A1, 2, c1, [false, false]⟩, badLink := ⟨A2, 2, c2, [false, false]⟩, on := ⟨A3, 2, c3, [false, false]⟩, badSource := ⟨A4, 2, c4, [false, false]⟩, earthed := ⟨A5, 3, c5, [false, false, false]⟩, badBus := ⟨A6, 3, c6, [false, false, false]⟩ } false) [true, false] [false, false] [false, false, false] := ⟨rfl, rfl, rfl, rfl, rfl⟩
    rw [hl4, ex1_home b _ hx, ex_feed b _ hx 0 2 [0, 0, 2] rfl rfl]
    exact ex_isles1
  have hA4 := hA3.next hB4
  obtain ⟨p40, p41, p42, p43⟩ := hA4.pc
  obtain ⟨s40, s41, s42, s43, s44, s45, s46⟩ := hA4.sc
  have HA4 := Lib.hid hA4
  have HI4 := Lib.hid hI4
  have HL4 := Lib.hid hl4
  clear hA3 hA4 hI4 hB4 hl4 AW HP2 HB2 HB1 hz1 hz2 y1 p20 p21 p22 p23 IN
  simp only at s41 s42 s44 s45 s46
  go_wp2_with fail
  refine (FE.out _ ⟨rfl, rfl, rfl, rfl, rfl, rfl, rfl⟩ _ HA4.out.plt_in HA4.out.stt_in).mono ?_
  rintro e w5 ⟨g5, rfl, hB5, -, hF5⟩
  have hF5 : Blk w5 g5 83 #[.bool true, .bool false] := by
    have hx : ExIs (exS w2.heap.size { closed := ⟨A0, 2, c0, [false, false]⟩, locked := ⟨A1, 2, c1, [false, false]⟩, badLink := ⟨A2, 2, c2, [false, false]⟩, on := ⟨A3, 2, c3, [false, false]⟩, badSource := ⟨A4, 2, c4, [false, false]⟩, earthed := ⟨A5, 3, c5, [false, false, false]⟩, badBus := ⟨A6, 3, c6, [false, false, false]⟩ } false) [true, false] [false, false] [false, false, false] := ⟨rfl, rfl, rfl, rfl, rfl⟩
    have := hF5
    rw [ex_live b _ _ _ (ex1_home b _ hx) (ex_feed b _ hx 0 2 [0, 0, 2] rfl rfl), show fedTo (exP b).rcks (liveTo 3 [0, 0, 2] (fedOf [(0, (0 : Fin 3)), (1, (2 : Fin 3))]) 3) (exP b).rn ((exP b).rn * 2) = [true, false] from ex_live1] at this
    exact this
  have f50 : w5.cell? ⟨g5, 0, none⟩ = some (.bool true) := hF5.cell 0
  have HA5 := Lib.hid (HA4.out.next hB5)
  have HI5 := Lib.hid (HI4.out.next hB5)
  rw [show (exP b).rn = 1 from rfl]
  clear hF5 hB5 HA4 HI4 p40 p41 p42 p43 s40 s41 s42 s43 s44 s45 s46
  go_wp2_with fail
  obtain ⟨W6, e6, hI6, hB6⟩ := isles_lit w5 85 [0, 1] [0] [2] [1] (by decide) (by decide) (by decide) (by decide)
  subst e6
  refine (SI.out _ _ _ _ _ _ _ _ _ (HI5.out.next hB6) hI6).mono ?_
  rintro e w7 ⟨he, hB7⟩
  have hs7 : ∀ m : List Isle, m.map Isle.two = [([0, 1], [0]), ([2], [1])] → sameIsl l4 m = true := fun m hm => by unfold sameIsl; rw [HL4.out, hm]; rfl
  rw [hs7 _ rfl] at he
  subst he
  have hA7 := (HA5.out.next hB6).next hB7
  have HA7 := Lib.hid hA7
  obtain ⟨s70, s71, s72, s73, s74, s75, s76⟩ := hA7.sc
  have k70 : w7.cell? ⟨w2.heap.size + 1 + 1, 1, none⟩ = some (.bool false) := hA7.closed.cell 1
  have k71 := hA7.closed.frozen 1
  obtain ⟨p80, p81, p82, p83⟩ := (hA7.store true).pc
  obtain ⟨s80, s81, s82, s83, s84, s85, s86⟩ := (hA7.store true).sc
  have HA8 := Lib.hid (hA7.store true)
  clear hA7 hB7 HI5 HL4 hI6 hB6 HA5 f50 hs7
  simp only at s71 s72 s74 s75 s76 s81 s82 s84 s85 s86
  go_wp2_with fail
  refine (CL.out _ ⟨rfl, rfl, rfl, rfl, rfl, rfl, rfl⟩ _ HA8.out.plt_in HA8.out.stt_in).mono ?_
  rintro e w9 ⟨A9, c9, rfl, hB9, hO9⟩
  have hL9 : clashL (exP b) (exS w2.heap.size { closed := ⟨A0, 2, c0, [false, false]⟩, locked := ⟨A1, 2, c1, [false, false]⟩, badLink := ⟨A2, 2, c2, [false, false]⟩, on := ⟨A3, 2, c3, [false, false]⟩, badSource := ⟨A4, 2, c4, [false, false]⟩, earthed := ⟨A5, 3, c5, [false, false, false]⟩, badBus := ⟨A6, 3, c6, [false, false, false]⟩ } true) (exL (b + 1)) = [(0, 1)] := by
    have hx : ExIs (exS w2.heap.size { closed := ⟨A0, 2, c0, [false, false]⟩, locked := ⟨A1, 2, c1, [false, false]⟩, badLink := ⟨A2, 2, c2, [false, false]⟩, on := ⟨A3, 2, c3, [false, false]⟩, badSource := ⟨A4, 2, c4, [false, false]⟩, earthed := ⟨A5, 3, c5, [false, false, false]⟩, badBus := ⟨A6, 3, c6, [false, false, false]⟩ } true) [true, true] [false, false] [false, false, false] := ⟨rfl, rfl, rfl, rfl, rfl⟩
    unfold clashL
    rw [ex2_home b _ hx, ex_feed b _ hx 0 0 [0, 0, 0] rfl rfl]
    exact ex_clash
  have hR9 := rd_pairs hO9
  rw [hL9] at hR9 ⊢
  have hA9 := HA8.out.next hB9
  obtain ⟨p90, p91, p92, p93⟩ := hA9.pc
  obtain ⟨s90, s91, s92, s93, s94, s95, s96⟩ := hA9.sc
  have HA9 := Lib.hid hA9
  have HR9 := Lib.hid hR9
  clear hA9 hR9 hL9 hO9 hB9 HA8 HA7 p80 p81 p82 p83 s70 s71 s72 s73 s74 s75 s76 k70 k71 s80 s81 s82 s83 s84 s85 s86
  simp only [List.length_cons, List.length_nil, Nat.reduceAdd, Nat.zero_add] at HR9 ⊢
  simp only at s91 s92 s94 s95 s96
  go_wp2_with fail
  refine (B3.out _ ⟨rfl, rfl, rfl, rfl, rfl, rfl, rfl⟩ (by intro x hx; simp [Stt.lists, exS] at hx; rcases hx with rfl | rfl | rfl | rfl | rfl | rfl | rfl <;> simp only <;> decide) (by simp [exS]) _ HA9.out.plt_in HA9.out.stt_in).mono ?_
  rintro e w10 ⟨t10, rfl, hB10, hO10, hC10⟩
  have hC10 : t10.cont = [[true, true], [false, false], [true, false], [true, true], [false, false], [false, false, false], [false, false, false]] := hC10
  obtain ⟨D0, D1, D2, D3, D4, D5, D6, d0, d1, d2, d3, d4, d5, d6, rfl⟩ := stt_lit hO10 hC10
  have hA10 := HA9.out.next hB10
  have hS10 := sttIn_of hO10
  simp only [List.length_cons, List.length_nil, Nat.reduceAdd, Nat.zero_add] at hS10
  have q10 : ∀ o, Aw w b w1.heap.size w2.heap.size _ true (w10.alloc o) := fun o => hA10.alloc o
  have p100 : ∀ o, (w10.alloc o).cell? ⟨w1.heap.size, 0, none⟩ = some (.int .i64 3) := fun o => (q10 o).pc.1
  have p101 : ∀ o, (w10.alloc o).cell? ⟨w1.heap.size, 1, none⟩ = some (.slice (some ⟨b, 0, none⟩) 2 2) := fun o => (q10 o).pc.2.1
  have p102 : ∀ o, (w10.alloc o).cell? ⟨w1.heap.size, 2, none⟩ = some (.slice (some ⟨b + 1 + 1, 0, none⟩) 2 2) := fun o => (q10 o).pc.2.2.1
  have p103 : ∀ o, (w10.alloc o).cell? ⟨w1.heap.size, 3, none⟩ = some (.slice (some ⟨b + 1 + 1 + 1, 0, none⟩) 1 1) := fun o => (q10 o).pc.2.2.2
  have HA10 := Lib.hid hA10
  have HS10 := Lib.hid hS10
  have HR10 := Lib.hid (HR9.out.next hB10)
  have HB10 := Lib.hid hB10
  clear hA10 hS10 hC10 hO10 hB10 HR9 HA9 q10 p90 p91 p92 p93 s90 s91 s92 s93 s94 s95 s96
  unfold Stt.val
  simp only [List.length_cons, List.length_nil, Nat.reduceAdd, Nat.zero_add]
  go_wp2_with fail
  refine (IS.out { closed := ⟨D0, 2, d0, [true, true]⟩, locked := ⟨D1, 2, d1, [false, false]⟩, badLink := ⟨D2, 2, d2, [true, false]⟩, on := ⟨D3, 2, d3, [true, true]⟩, badSource := ⟨D4, 2, d4, [false, false]⟩, earthed := ⟨D5, 3, d5, [false, false, false]⟩, badBus := ⟨D6, 3, d6, [false, false, false]⟩ } ⟨rfl, rfl, rfl, rfl, rfl, rfl, rfl⟩ _ (HA10.out.alloc _).plt_in (HS10.out.next ((Below.refl _ _).alloc (Nat.le_refl _) _))).mono ?_
  rintro e w11 ⟨l11, A11, n11, c11, rfl, hB11, hI11, hl11⟩
  have hl11 : l11.map Isle.two = [([0], [0]), ([1, 2], [1])] := by
    have hx : ExIs { closed := ⟨D0, 2, d0, [true, true]⟩, locked := ⟨D1, 2, d1, [false, false]⟩, badLink := ⟨D2, 2, d2, [true, false]⟩, on := ⟨D3, 2, d3, [true, true]⟩, badSource := ⟨D4, 2, d4, [false, false]⟩, earthed := ⟨D5, 3, d5, [false, false, false]⟩, badBus := ⟨D6, 3, d6, [false, false, false]⟩ } [true, true] [true, false] [false, false, false] := ⟨rfl, rfl, rfl, rfl, rfl⟩
    rw [hl11, ex3_home b _ hx, ex_feed b _ hx 0 1 [0, 1, 1] rfl rfl]
    exact ex_isles3
  have HA11 := Lib.hid ((HA10.out.alloc _).next hB11)
  have HR11 := Lib.hid ((HR10.out.next ((Below.refl _ _).alloc (Nat.le_refl _) _)).next hB11)
  have HI11 := Lib.hid hI11
  have HL11 := Lib.hid hl11
  clear HA10 HR10 HS10 HB10 hl11 hI11 hB11 p100 p101 p102 p103
  go_wp2_with fail
  have hz11 : Below w11.heap.size w11 (w11.alloc (.cells ([((0 : Int), (1 : Int))].flatMap encP).toArray 86)) := (Below.refl _ _).alloc (Nat.le_refl _) _
  have hm11 := Rd.lit w11 86 encP 2 [((0 : Int), (1 : Int))] (fun _ _ => rfl)
  rw [← World.size_alloc] at hm11
  refine (SP.out _ _ _ _ _ _ [((0 : Int), (1 : Int))] [((0 : Int), (1 : Int))] _ (HR11.out.next hz11) hm11 (by decide) (by decide)).mono ?_
  rintro e w12 ⟨he, hB12⟩
  rw [show sameL [((0 : Int), (1 : Int))] [((0 : Int), (1 : Int))] = true from rfl] at he
  subst he
  have HA12 := Lib.hid ((HA11.out.next hz11).next hB12)
  have HI12 := Lib.hid ((HI11.out.next hz11).next hB12)
  clear HA11 HI11 HR11 hz11 hm11 hB12
  go_wp2_with fail
  obtain ⟨W13, e13, hI13, hB13⟩ := isles_lit w12 85 [0] [0] [1, 2] [1] (by decide) (by decide) (by decide) (by decide)
  subst e13
  refine (SI.out _ _ _ _ _ _ _ _ _ (HI12.out.next hB13) hI13).mono ?_
  rintro e w14 ⟨he, hB14⟩
  have hs14 : ∀ m : List Isle, m.map Isle.two = [([0], [0]), ([1, 2], [1])] → sameIsl l11 m = true := fun m hm => by unfold sameIsl; rw [HL11.out, hm]; rfl
  rw [hs14 _ rfl] at he
  subst he
  have hA14 := (HA12.out.next hB13).next hB14
  obtain ⟨p140, p141, p142, p143⟩ := hA14.pc
  obtain ⟨s140, s141, s142, s143, s144, s145, s146⟩ := hA14.sc
  have HA14 := Lib.hid hA14
  clear hA14 HA12 HI12 hB13 hI13 hB14 HL11 hs14
  simp only at s141 s142 s144 s145 s146
  go_wp2_with fail
  refine (B1.out _ ⟨rfl, rfl, rfl, rfl, rfl, rfl, rfl⟩ (by intro x hx; simp [Stt.lists, exS] at hx; rcases hx with rfl | rfl | rfl | rfl | rfl | rfl | rfl <;> simp only <;> decide) (by simp [exS]) _ HA14.out.plt_in HA14.out.stt_in).mono ?_
  rintro e w15 ⟨t15, rfl, hB15, hO15, hC15⟩
  have hC15 : t15.cont = [[true, true], [false, false], [false, false], [true, true], [false, false], [false, false, false], [false, true, false]] := hC15
  obtain ⟨E0, E1, E2, E3, E4, E5, E6, e0, e1, e2, e3, e4, e5, e6, rfl⟩ := stt_lit hO15 hC15
  have hA15 := HA14.out.next hB15
  have hS15 := sttIn_of hO15
  simp only [List.length_cons, List.length_nil, Nat.reduceAdd, Nat.zero_add] at hS15
  have q15 : ∀ o, Aw w b w1.heap.size w2.heap.size _ true (w15.alloc o) := fun o => hA15.alloc o
  have p150 : ∀ o, (w15.alloc o).cell? ⟨w1.heap.size, 0, none⟩ = some (.int .i64 3) := fun o => (q15 o).pc.1
  have p151 : ∀ o, (w15.alloc o).cell? ⟨w1.heap.size, 1, none⟩ = some (.slice (some ⟨b, 0, none⟩) 2 2) := fun o => (q15 o).pc.2.1
  have p152 : ∀ o, (w15.alloc o).cell? ⟨w1.heap.size, 2, none⟩ = some (.slice (some ⟨b + 1 + 1, 0, none⟩) 2 2) := fun o => (q15 o).pc.2.2.1
  have p153 : ∀ o, (w15.alloc o).cell? ⟨w1.heap.size, 3, none⟩ = some (.slice (some ⟨b + 1 + 1 + 1, 0, none⟩) 1 1) := fun o => (q15 o).pc.2.2.2
  have HA15 := Lib.hid hA15
  have HS15 := Lib.hid hS15
  clear hA15 hS15 hC15 hO15 hB15 HA14 q15 p140 p141 p142 p143 s140 s141 s142 s143 s144 s145 s146
  unfold Stt.val
  simp only [List.length_cons, List.length_nil, Nat.reduceAdd, Nat.zero_add]
  go_wp2_with fail
  refine (FE.out { closed := ⟨E0, 2, e0, [true, true]⟩, locked := ⟨E1, 2, e1, [false, false]⟩, badLink := ⟨E2, 2, e2, [false, false]⟩, on := ⟨E3, 2, e3, [true, true]⟩, badSource := ⟨E4, 2, e4, [false, false]⟩, earthed := ⟨E5, 3, e5, [false, false, false]⟩, badBus := ⟨E6, 3, e6, [false, true, false]⟩ } ⟨rfl, rfl, rfl, rfl, rfl, rfl, rfl⟩ _ (HA15.out.alloc _).plt_in (HS15.out.next ((Below.refl _ _).alloc (Nat.le_refl _) _))).mono ?_
  rintro e w16 ⟨g16, rfl, hB16, hg16, hF16⟩
  have hF16 : Blk w16 g16 83 #[.bool false, .bool false] := by
    have hx : ExIs { closed := ⟨E0, 2, e0, [true, true]⟩, locked := ⟨E1, 2, e1, [false, false]⟩, badLink := ⟨E2, 2, e2, [false, false]⟩, on := ⟨E3, 2, e3, [true, true]⟩, badSource := ⟨E4, 2, e4, [false, false]⟩, earthed := ⟨E5, 3, e5, [false, false, false]⟩, badBus := ⟨E6, 3, e6, [false, true, false]⟩ } [true, true] [false, false] [false, true, false] := ⟨rfl, rfl, rfl, rfl, rfl⟩
    have := hF16
    rw [ex_live b _ _ _ (ex4_home b _ hx) (ex_feed b _ hx 0 2 [0, -1, 2] rfl rfl), show fedTo (exP b).rcks (liveTo 3 [0, -1, 2] (fedOf [(0, (0 : Fin 3)), (1, (2 : Fin 3))]) 3) (exP b).rn ((exP b).rn * 2) = [false, false] from ex_live4] at this
    exact this
  have hA16 := (HA15.out.alloc _).next hB16
  obtain ⟨p160, p161, p162, p163⟩ := hA16.pc
  have HA16 := Lib.hid hA16
  have HF16 := Lib.hid hF16
  rw [show (exP b).rn = 1 from rfl]
  clear hA16 hF16 HA15 HS15 p150 p151 p152 p153 hB16 hg16
  go_wp2_with fail
  refine (FO.out _ HA16.out.plt_in (HPow.out.below HA16.out.low)).mono ?_
  rintro e w17 ⟨rfl, hB17⟩
  have hF17 := HF16.out.below hB17 HF16.out.lt
  have f170 : w17.cell? ⟨g16, 0, none⟩ = some (.bool false) := hF17.cell 0
  have HLOW := Lib.hid (below_after hB17 (Nat.le_refl _) HA16.out.low)
  rw [ex_text]
  clear hF17 hB17 HA16 HF16 p160 p161 p162 p163
  go_wp2_with fail
  have hT : ∀ l : List UInt8, ((ba l).toList == l) = true := fun l => by
    have h1 : (ba l).toList = l := by
      simp [ba]
    rw [h1]
    simp
  simp only [hT]
  go_ret
  exact ⟨rfl, HLOW.out⟩
end Go.Proofs.YtcnmfblbfpcghaaGreatDoor

/- The law that what is valid, connected, live, fed and clashes is as the reference says. -/
namespace Go.Proofs.YtcnmfblbfpcghaaGreatDoor
open Go.RowKit

theorem big_bounds {p : Plt} (h : bigP p = false) : p.sn ≤ 60 ∧ p.ln ≤ 60 ∧ p.rn ≤ 60 ∧ ∀ x ∈ p.lnks, x.tn ≤ 20 := by
  unfold bigP at h
  simp only [Bool.or_eq_false_iff, decide_eq_false_iff_not, List.any_eq_false, decide_eq_true_eq] at h
  obtain ⟨⟨⟨h1, h2⟩, h3⟩, h4⟩ := h
  exact ⟨by omega, by omega, by omega, fun x hx => by have := h4 x hx; omega⟩
theorem PltOwn.storeT {W W' : World} {base rx : Nat} {q : Plt} {T : TypeId} {cs : Array Value} (h : PltOwn W base q) (hk : W.grownBy W' (some rx)) (hb : Blk W rx T cs) (t1 : T ≠ 110) (t2 : T ≠ 79) (t3 : T ≠ 112) (t4 : T ≠ 115) : PltOwn W' base q :=
  ⟨row_store h.src hk hb t1, ⟨row_store h.lnk.1 hk hb t2, fun y hy => (h.lnk.2 y hy).kept hk hb t3⟩, row_store h.rck hk hb t4⟩
theorem SttOwn.storeT {W W' : World} {base rx : Nat} {t : Stt} {T : TypeId} {cs : Array Value} (h : SttOwn W base t) (hk : W.grownBy W' (some rx)) (hb : Blk W rx T cs) (t1 : T ≠ 4) : SttOwn W' base t :=
  ⟨fun b hb' => ⟨row_store (h.own b hb').own hk hb t1, (h.own b hb').len⟩, h.apart⟩
theorem SttOwn.next {W W' : World} {base : Nat} {t : Stt} (h : SttOwn W base t) (hb : Below W.heap.size W W') : SttOwn W' base t :=
  ⟨fun b hb' => ⟨row_next (h.own b hb').own hb, (h.own b hb').len⟩, h.apart⟩
end Go.Proofs.YtcnmfblbfpcghaaGreatDoor
