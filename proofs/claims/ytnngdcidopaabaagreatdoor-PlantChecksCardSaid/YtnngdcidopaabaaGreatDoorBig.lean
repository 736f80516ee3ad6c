/- The law's big. -/
import Derived.Test.YtnngdcidopaabaaGreatDoorCopy
import Derived.Test.YtnngdcidopaabaaGreatDoorAwKit
import Derived.Test.YtnngdcidopaabaaGreatDoorCopyS
import Derived.Test.YtnngdcidopaabaaGreatDoorSames
import Derived.Test.YtnngdcidopaabaaGreatDoorRefC

set_option linter.unusedSimpArgs false
set_option linter.unusedVariables false
namespace Go.Proofs.YtnngdcidopaabaaGreatDoor
open Go.RowKit Go.Shelf

/-- Is a plant too big for the statements? -/
def bigP (p : Plt) : Bool := decide (60 < p.sn) || decide (60 < p.ln) || decide (60 < p.rn) || p.lnks.any fun x => decide (20 < x.tn)
set_option maxRecDepth 100000 in
set_option maxHeartbeats 4000000 in
theorem big_any (p : Plt) (w : World) (hp : PltIn w w.heap.size p) :
    Calls Tryz.prog 5 #[p.val] w fun e w' => e = .returned (.bool (bigP p)) ∧ Below w.heap.size w w' := by
  have HP := Lib.hid hp
  have h1 := hp.hs
  have h2 := hp.hl
  have h3 := hp.hr
  have e2 := Lib.hid hp.lnk.1
  clear hp
  unfold Plt.val
  go_enter Tryz.func5, Tryz.ntmps5
  by_cases q1 : (60 : Int) < (p.sn : Int)
  · go_wp2
    go_ret
    exact ⟨ret_bool (by simp [bigP]; omega), by (repeat' (first | (with_reducible exact Below.refl _ _) | (with_reducible assumption) | (with_reducible refine below_drewN ?_ _) | (with_reducible refine below_after (by assumption) ?_ ?_) | (with_reducible refine Below.drew ?_) | (with_reducible refine Below.alloc ?_ ?_ _) | (with_reducible refine Below.setCell ?_ ?_ _) | omega | (simp; omega) | (simp; done)))⟩
  by_cases q2 : (60 : Int) < (p.ln : Int)
  · go_wp2
    go_ret
    exact ⟨ret_bool (by simp [bigP]; omega), by (repeat' (first | (with_reducible exact Below.refl _ _) | (with_reducible assumption) | (with_reducible refine below_drewN ?_ _) | (with_reducible refine below_after (by assumption) ?_ ?_) | (with_reducible refine Below.drew ?_) | (with_reducible refine Below.alloc ?_ ?_ _) | (with_reducible refine Below.setCell ?_ ?_ _) | omega | (simp; omega) | (simp; done)))⟩
  by_cases q3 : (60 : Int) < (p.rn : Int)
  · go_wp2
    go_ret
    exact ⟨ret_bool (by simp [bigP]; omega), by (repeat' (first | (with_reducible exact Below.refl _ _) | (with_reducible assumption) | (with_reducible refine below_drewN ?_ _) | (with_reducible refine below_after (by assumption) ?_ ?_) | (with_reducible refine Below.drew ?_) | (with_reducible refine Below.alloc ?_ ?_ _) | (with_reducible refine Below.setCell ?_ ?_ _) | omega | (simp; omega) | (simp; done)))⟩
  have q1' : (p.sn : Int) ≤ 60 := by omega
  have q2' : (p.ln : Int) ≤ 60 := by omega
  have q3' : (p.rn : Int) ≤ 60 := by omega
  go_wp2
  go_loopw [3] (fun i wr => ∃ k : Nat, k ≤ p.ln ∧ i = .int .i64 k ∧ wr = w.alloc (.cells #[.int .i64 p.buses, .slice p.sA p.sn p.sc, .slice p.lA p.ln p.lc, .slice p.rA p.rn p.rc] 26) ∧ Hid (∀ i (y : Lnk), i < k → p.lnks[i]? = some y → decide (20 < y.tn) = false)) (fun i _ => p.ln - (intOf i).toNat)
  case atStart => exact ⟨0, by omega, rfl, rfl, fun i y hi => absurd hi (by omega)⟩
  case round =>
    obtain ⟨k, hk, rfl, rfl, hE⟩ := hrel
    by_cases hlt : k < p.ln
    · obtain ⟨b, off, x, e1, hb, hx, hcx⟩ := HP.out.lnk.at_ hlt
      obtain ⟨d0, d1, d2, d3, d4, d5⟩ := Lnk.cells hcx
      have ht := HP.out.ht x (List.mem_of_getElem? hx)
      have HX := Lib.hid hx
      clear hx hcx
      have hk0 : (0 : Int) ≤ (k : Int) := by omega
      have hkn : (k : Int) < (p.ln : Int) := by omega
      by_cases q : (20 : Int) < (x.tn : Int)
      · have hd : bigP p = true := by
          unfold bigP
          simp only [Bool.or_eq_true]
          refine .inr (List.any_eq_true.2 ⟨x, List.mem_of_getElem? HX.out, ?_⟩)
          simp; omega
        go_wp2
        go_ret
        exact ⟨ret_bool hd.symm, by (repeat' (first | (with_reducible exact Below.refl _ _) | (with_reducible assumption) | (with_reducible refine below_drewN ?_ _) | (with_reducible refine below_after (by assumption) ?_ ?_) | (with_reducible refine Below.drew ?_) | (with_reducible refine Below.alloc ?_ ?_ _) | (with_reducible refine Below.setCell ?_ ?_ _) | omega | (simp; omega) | (simp; done)))⟩
      · have hE' : Hid (∀ i (y : Lnk), i < k + 1 → p.lnks[i]? = some y → decide (20 < y.tn) = false) := by
          intro i y hi hy
          rcases Nat.lt_or_ge i k with h | h
          · exact hE.out i y h hy
          · obtain rfl : i = k := by omega
            rw [HX.out] at hy
            cases hy
            simp; omega
        clear hE
        go_wp2
        go_roundw
        case rel => exact ⟨k + 1, by omega, by go_num, by simp only [e1], hE'⟩
        case measure => simp [intOf]; omega
    · have hd : bigP p = false := by
        unfold bigP
        simp only [Bool.or_eq_false_iff, decide_eq_false_iff_not]
        refine ⟨⟨⟨by omega, by omega⟩, by omega⟩, ?_⟩
        rw [List.any_eq_false]
        intro x hx
        obtain ⟨i, hi⟩ := List.getElem?_of_mem hx
        have hil := (List.getElem?_eq_some_iff.1 hi).1
        rw [e2.out] at hil
        simpa using hE.out i x (by omega) hi
      go_wp2
      go_ret
      exact ⟨ret_bool hd.symm, by (repeat' (first | (with_reducible exact Below.refl _ _) | (with_reducible assumption) | (with_reducible refine below_drewN ?_ _) | (with_reducible refine below_after (by assumption) ?_ ?_) | (with_reducible refine Below.drew ?_) | (with_reducible refine Below.alloc ?_ ?_ _) | (with_reducible refine Below.setCell ?_ ?_ _) | omega | (simp; omega) | (simp; done)))⟩
end Go.Proofs.YtnngdcidopaabaaGreatDoor

/- The law's awake. -/
namespace Go.Proofs.YtnngdcidopaabaaGreatDoor
open Go.RowKit

theorem bsIn_of {w : World} {base : Nat} {b : Bs} (h : BsOwn w base b) : BsIn w w.heap.size b := by
  obtain ⟨h1, h2⟩ := h
  rcases h1.2 with ⟨e, h0⟩ | ⟨g, cap, cur, e, _, hgb, hnc, hcm, _⟩
  · exact ⟨⟨h2, fun hn => by omega⟩, by omega⟩
  · simp only [Value.slice.injEq] at e
    refine ⟨⟨h2, fun _ => ⟨g, 0, e.1, (Array.getElem?_eq_some_iff.1 hgb).1, fun i x hx j u hu => ?_⟩⟩, by simp only [maxLen] at hcm; omega⟩
    unfold encB at hu
    match j, hu with
    | 0, hu =>
      simp only [List.getElem?_cons_zero, Option.some.injEq] at hu
      subst hu
      rw [e.1] at h1
      have h5 := row_cell h1 (k := i) (u := .bool x) (by rw [List.getElem?_map, hx]; rfl)
      simpa using h5
theorem sttIn_of {w : World} {base : Nat} {s : Stt} (h : SttOwn w base s) : SttIn w w.heap.size s :=
  ⟨bsIn_of (h.own _ (by simp [Stt.lists])), bsIn_of (h.own _ (by simp [Stt.lists])), bsIn_of (h.own _ (by simp [Stt.lists])), bsIn_of (h.own _ (by simp [Stt.lists])), bsIn_of (h.own _ (by simp [Stt.lists])), bsIn_of (h.own _ (by simp [Stt.lists])), bsIn_of (h.own _ (by simp [Stt.lists]))⟩
/-- A state of which the lists are known. -/
theorem stt_lit {w : World} {base : Nat} {t : Stt} {l0 l1 l2 l3 l4 l5 l6 : List Bool} (h : SttOwn w base t) (hc : t.cont = [l0, l1, l2, l3, l4, l5, l6]) : ∃ (A0 A1 A2 A3 A4 A5 A6 : Option Addr) (c0 c1 c2 c3 c4 c5 c6 : Nat), t = ⟨⟨A0, l0.length, c0, l0⟩, ⟨A1, l1.length, c1, l1⟩, ⟨A2, l2.length, c2, l2⟩, ⟨A3, l3.length, c3, l3⟩, ⟨A4, l4.length, c4, l4⟩, ⟨A5, l5.length, c5, l5⟩, ⟨A6, l6.length, c6, l6⟩⟩ := by
  have hl : ∀ b ∈ t.lists, b.n = b.l.length := fun b hb => (h.own b hb).len.symm
  obtain ⟨⟨A0, n0, c0, m0⟩, ⟨A1, n1, c1, m1⟩, ⟨A2, n2, c2, m2⟩, ⟨A3, n3, c3, m3⟩, ⟨A4, n4, c4, m4⟩, ⟨A5, n5, c5, m5⟩, ⟨A6, n6, c6, m6⟩⟩ := t
  simp only [Stt.cont, Stt.lists, List.map_cons, List.map_nil, List.cons.injEq, and_true] at hc
  simp only [Stt.lists, List.mem_cons, List.mem_nil_iff, or_false, forall_eq_or_imp, forall_eq] at hl
  obtain ⟨rfl, rfl, rfl, rfl, rfl, rfl, rfl⟩ := hc
  obtain ⟨rfl, rfl, rfl, rfl, rfl, rfl, rfl⟩ := hl
  exact ⟨A0, A1, A2, A3, A4, A5, A6, c0, c1, c2, c3, c4, c5, c6, rfl⟩
/-- The sizes of a state of the example. -/
structure ExN (s : Stt) : Prop where
  closed : s.closed.n = 2
  locked : s.locked.n = 2
  badLink : s.badLink.n = 2
  on : s.on.n = 2
  badSource : s.badSource.n = 2
  earthed : s.earthed.n = 3
  badBus : s.badBus.n = 3
theorem ex_state (b : Nat) (s : Stt) (h : ExN s) : checkState (exP b) s = 0 := by
  obtain ⟨h0, h1, h2, h3, h4, h5, h6⟩ := h
  unfold checkState
  rw [if_pos (exP_check b)]
  simp [stateOk, linkLists, sourceLists, busLists, cablesOk, cableAt, exP, exLnks, h0, h1, h2, h3, h4, h5, h6, List.range_succ]
theorem ex_sound (b : Nat) (s : Stt) (h : ExN s) : Sound (exP b) s 3 (exL (b + 1)) :=
  ⟨rfl, by decide, by decide, exL_lnks b, by intro x hx; simp [exP, exSrcs] at hx; rcases hx with rfl | rfl <;> simp, ⟨h.closed, h.badLink, h.badBus, h.on, h.badSource⟩⟩
set_option maxRecDepth 100000 in
set_option maxHeartbeats 4000000 in
theorem awake_any (w : World) (hP : Pow w) : Calls Tryz.prog 6 #[] w fun e w' => e = .returned (.bool true) ∧ Below w.heap.size w w' := by
  have HPow := Lib.hid hP
  clear hP
  have EX := Lib.hid (fun W => example_any W)
  obtain ⟨b, hb⟩ : ∃ b, w.heap.size + 1 = b := ⟨_, rfl⟩
  have IN := Lib.hid (fun W hp => initial_any (exP b) 3 W hp (exP_check b) rfl (by omega))
  have IS := Lib.hid (fun s (h : ExN s) W hp hs => islands_ok (exP b) s 3 (exL (b + 1)) (ex_sound b s h) (by show (2 : Nat) ≤ 24; omega) W (ex_state b s h) hp hs)
  have FE := Lib.hid (fun s (h : ExN s) W hp hs => fed_ok (exP b) s 3 (exL (b + 1)) (ex_sound b s h) (by intro x hx; simp [exP, exRcks] at hx; subst hx; exact ⟨by decide, by decide⟩) (by show (1 : Nat) ≤ 24; omega) W (ex_state b s h) hp hs)
  have CL := Lib.hid (fun s (h : ExN s) W hp hs => clashes_ok (exP b) s 3 (exL (b + 1)) (ex_sound b s h) (by show (2 : Nat) ≤ 24; omega) W (ex_state b s h) hp hs)
  have SI := Lib.hid (fun A A' n n' c c' l m w hl hm => sameIslands_any A A' n n' c c' l m w hl hm)
  have SP := Lib.hid (fun A A' n n' c c' l m w hl hm hn hn' => samePairs_any A A' n n' c c' l m w hl hm hn hn')
  have B3 := Lib.hid (fun s (h : ExN s) (hf : SttFit s) (hl : 0 < s.badLink.l.length) W hp hs => break_of (exP b) s 3 0 (fun t => t.cont = s.cont.set 2 (s.badLink.l.set 0 true)) W hp hs (fun W hp hs => withPart_ok3 (exP b) s 0 true W hp hs hf (ex_state b s h) hl))
  have B1 := Lib.hid (fun s (h : ExN s) (hf : SttFit s) (hl : 1 < s.badBus.l.length) W hp hs => break_of (exP b) s 1 1 (fun t => t.cont = s.cont.set 6 (s.badBus.l.set 1 true)) W hp hs (fun W hp hs => withPart_ok1 (exP b) s 1 true W hp hs hf (ex_state b s h) hl))
  have FO := Lib.hid (fun W hp hP => format_ok (exP b) W hp (exP_check b) hP)
  go_enter Tryz.func6, Tryz.ntmps6
  go_wp2_with fail
  refine (EX.out _).mono ?_
  rintro e w1 ⟨rfl, hB1, hp1⟩
  rw [hb] at hp1
  rw [hb]
  have HP1 := Lib.hid hp1
  have HB1 := Lib.hid hB1
  have hz1 := hB1.size
  clear hp1 hB1 EX
  unfold Plt.val exP at IN ⊢
  go_wp2_with fail
  refine (IN.out _ (HP1.out.next ((Below.refl _ _).alloc (Nat.le_refl _) _))).mono ?_
  rintro e w2 ⟨t, rfl, hB2, ho2, hc2⟩
  have hic : initCont (exP b) 3 = [[false, false], [false, false], [false, false], [false, false], [false, false], [false, false, false], [false, false, false]] := by rfl
  unfold exP at hic
  rw [hic] at hc2
  obtain ⟨A0, A1, A2, A3, A4, A5, A6, c0, c1, c2, c3, c4, c5, c6, rfl⟩ := stt_lit ho2 hc2
  have HO2 := Lib.hid ho2
  have P2 : Blk w2 w1.heap.size 26 #[.int .i64 3, .slice (some ⟨b, 0, none⟩) 2 2, .slice (some ⟨b + 1 + 1, 0, none⟩) 2 2, .slice (some ⟨b + 1 + 1 + 1, 0, none⟩) 1 1] := (hB2.block _ (by simp)).trans (heap_alloc_new w1 _)
  have HP2 := Lib.hid P2
  have HB2 := Lib.hid hB2
  clear P2
  have hz2 := hB2.size
  simp only [World.size_alloc] at hz2
  have y1 : w1.heap.size < w2.heap.size := by omega
  have q2 : ∀ o1 o2 o3, Blk (((w2.alloc o1).alloc o2).alloc o3) w1.heap.size 26 #[.int .i64 3, .slice (some ⟨b, 0, none⟩) 2 2, .slice (some ⟨b + 1 + 1, 0, none⟩) 2 2, .slice (some ⟨b + 1 + 1 + 1, 0, none⟩) 1 1] := fun o1 o2 o3 => (((((Below.refl w2.heap.size w2).alloc (Nat.le_refl _) o1).alloc (by simp) o2).alloc (by simp; omega) o3).block _ y1).trans HP2.out
  have p20 : ∀ o1 o2 o3, (((w2.alloc o1).alloc o2).alloc o3).cell? ⟨w1.heap.size, 0, none⟩ = some (.int .i64 3) := fun o1 o2 o3 => (q2 o1 o2 o3).cell 0
  have p21 : ∀ o1 o2 o3, (((w2.alloc o1).alloc o2).alloc o3).cell? ⟨w1.heap.size, 1, none⟩ = some (.slice (some ⟨b, 0, none⟩) 2 2) := fun o1 o2 o3 => (q2 o1 o2 o3).cell 1
  have p22 : ∀ o1 o2 o3, (((w2.alloc o1).alloc o2).alloc o3).cell? ⟨w1.heap.size, 2, none⟩ = some (.slice (some ⟨b + 1 + 1, 0, none⟩) 2 2) := fun o1 o2 o3 => (q2 o1 o2 o3).cell 2
  have p23 : ∀ o1 o2 o3, (((w2.alloc o1).alloc o2).alloc o3).cell? ⟨w1.heap.size, 3, none⟩ = some (.slice (some ⟨b + 1 + 1 + 1, 0, none⟩) 1 1) := fun o1 o2 o3 => (q2 o1 o2 o3).cell 3
  clear q2
  clear ho2 hc2 hic hB2
  unfold Stt.val
  simp only [List.length_cons, List.length_nil, Nat.reduceAdd, Nat.zero_add]
  simp only [List.length_cons, List.length_nil, Nat.reduceAdd, Nat.zero_add] at HO2
  obtain ⟨t0, ht0⟩ : ∃ x : Stt, x = { closed := ⟨A0, 2, c0, [false, false]⟩, locked := ⟨A1, 2, c1, [false, false]⟩, badLink := ⟨A2, 2, c2, [false, false]⟩, on := ⟨A3, 2, c3, [false, false]⟩, badSource := ⟨A4, 2, c4, [false, false]⟩, earthed := ⟨A5, 3, c5, [false, false, false]⟩, badBus := ⟨A6, 3, c6, [false, false, false]⟩ } := ⟨_, rfl⟩
  have AW : Hid (∀ W o1 o2 o3, (((w2.alloc o1).alloc o2).alloc o3) = W → o1 = .cells (sBox (exS w2.heap.size t0 false)) 29 → o2 = .cells #[.bool true, .bool true] 4 → o3 = .cells #[.bool true, .bool false] 4 → Aw w b w1.heap.size w2.heap.size t0 false W) := by
    intro W o1 o2 o3 hW h1 h2 h3
    have hst : Blk W w2.heap.size 29 (sBox (exS w2.heap.size t0 false)) := by
      subst hW h1
      exact Blk.alloc (Blk.alloc (heap_alloc_new w2 _) _) _
    subst ht0
    have hb : Below w2.heap.size w2 W := by subst hW; exact (((Below.refl _ _).alloc (Nat.le_refl _) _).alloc (by simp) _).alloc (by simp; omega) _
    have hl : Below w.heap.size w w2 := by
      have hB1 := HB1.out
      have hB2 := HB2.out
      (repeat' (first | (with_reducible exact Below.refl _ _) | (with_reducible assumption) | (with_reducible refine below_drewN ?_ _) | (with_reducible refine below_after (by assumption) ?_ ?_) | (with_reducible refine Below.drew ?_) | (with_reducible refine Below.alloc ?_ ?_ _) | (with_reducible refine Below.setCell ?_ ?_ _) | omega | (simp; omega) | (simp; done)))
    have hz : w.heap.size ≤ w2.heap.size := hl.size
    have hs := (sttIn_of HO2.out).below hb
    have m : w2.heap.size ≤ w2.heap.size + 1 + 1 := by omega
    have hon : Blk W (w2.heap.size + 1) 4 #[.bool true, .bool true] := by
      subst hW h2
      refine Blk.alloc ?_ _
      have := heap_alloc_new (w2.alloc o1) (.cells #[.bool true, .bool true] 4)
      rw [World.size_alloc] at this
      exact this
    have hcl : Blk W (w2.heap.size + 1 + 1) 4 #[.bool true, .bool false] := by
      subst hW h3
      have := heap_alloc_new ((w2.alloc o1).alloc o2) (.cells #[.bool true, .bool false] 4)
      rw [World.size_alloc, World.size_alloc] at this
      exact this
    have hp : PltIn W w2.heap.size (exP b) := by
      have hB2 := HB2.out
      have := HP1.out.next ((Below.refl _ _).alloc (Nat.le_refl _) _) |>.next hB2
      exact this.below hb
    exact ⟨below_after hb (Nat.le_refl _) hl, by omega, hp.more m, HP2.out.below hb y1, by omega, hst, hs.locked.more m, hs.badLink.more m, blk_bs (l := [true, true]) hon rfl (by omega) (by decide), hs.badSource.more m, hs.earthed.more m, hs.badBus.more m, hcl⟩
  clear HO2 HP1
  go_wp2_with fail
  subst ht0
  have hA3 := AW.out _ _ _ _ rfl rfl rfl rfl
  refine (IS.out _ ⟨rfl, rfl, rfl, rfl, rfl, rfl, rfl⟩ _ hA3.plt_in hA3.stt_in).mono ?_
  rintro e w4 ⟨l4, A4', n4, c4', rfl, hB4, hI4, hl4⟩
  have hl4 : l4.map Isle.two = [([0, 1], [0]), ([2], [1])] := by
    have hx : ExIs (exS w2.heap.size { closed := ⟨A0, 2, c0, [false, false]⟩, locked := ⟨A1, 2, c1, [false, false]⟩, badLink := ⟨A2, 2, c2, [false, false]⟩, on := ⟨A3, 2, c3, [false, false]⟩, badSource := ⟨A4, 2, c4, [false, false]⟩, earthed := ⟨A5, 3, c5, [false, false, false]⟩, badBus := ⟨A6, 3, c6, [false, false, false]⟩ } false) [true, false] [false, false] [false, false, false] := ⟨rfl, rfl, rfl, rfl, rfl⟩
    rw [hl4, ex1_home b _ hx, ex_feed b _ hx 0 2 [0, 0, 2] rfl rfl]
    exact ex_isles1
  have hA4 := hA3.next hB4
  obtain ⟨p40, p41, p42, p43⟩ := hA4.pc
  obtain ⟨s40, s41, s42, s43, s44, s45, s46⟩ := hA4.sc
  have HA4 := Lib.hid hA4
  have HI4 := Lib.hid hI4
  have HL4 := Lib.hid hl4
  clear hA3 hA4 hI4 hB4 hl4 AW HP2 HB2 HB1 hz1 hz2 y1 p20 p21 p22 p23 IN
  simp only at s41 s42 s44 s45 s46
  go_wp2_with fail
  refine (FE.out _ ⟨rfl, rfl, rfl, rfl, rfl, rfl, rfl⟩ _ HA4.out.plt_in HA4.out.stt_in).mono ?_
  rintro e w5 ⟨g5, rfl, hB5, -, hF5⟩
  have hF5 : Blk w5 g5 75 #[.bool true, .bool false] := by
    have hx : ExIs (exS w2.heap.size { closed := ⟨A0, 2, c0, [false, false]⟩, locked := ⟨A1, 2, c1, [false, false]⟩, badLink := ⟨A2, 2, c2, [false, false]⟩, on := ⟨A3, 2, c3, [false, false]⟩, badSource := ⟨A4, 2, c4, [false, false]⟩, earthed := ⟨A5, 3, c5, [false, false, false]⟩, badBus := ⟨A6, 3, c6, [false, false, false]⟩ } false) [true, false] [false, false] [false, false, false] := ⟨rfl, rfl, rfl, rfl, rfl⟩
    have := hF5
    rw [ex_live b _ _ _ (ex1_home b _ hx) (ex_feed b _ hx 0 2 [0, 0, 2] rfl rfl), show fedTo (exP b).rcks (liveTo 3 [0, 0, 2] (fedOf [(0, (0 : Fin 3)), (1, (2 : Fin 3))]) 3) (exP b).rn ((exP b).rn * 2) = [true, false] from ex_live1] at this
    exact this
  have f50 : w5.cell? ⟨g5, 0, none⟩ = some (.bool true) := hF5.cell 0
  have HA5 := Lib.hid (HA4.out.next hB5)
  have HI5 := Lib.hid (HI4.out.next hB5)
  rw [show (exP b).rn = 1 from rfl]
  clear hF5 hB5 HA4 HI4 p40 p41 p42 p43 s40 s41 s42 s43 s44 s45 s46
  go_wp2_with fail
  obtain ⟨W6, e6, hI6, hB6⟩ := isles_lit w5 78 [0, 1] [0] [2] [1] (by decide) (by decide) (by decide) (by decide)
  subst e6
  refine (SI.out _ _ _ _ _ _ _ _ _ (HI5.out.next hB6) hI6).mono ?_
  rintro e w7 ⟨he, hB7⟩
  have hs7 : ∀ m : List Isle, m.map Isle.two = [([0, 1], [0]), ([2], [1])] → sameIsl l4 m = true := fun m hm => by unfold sameIsl; rw [HL4.out, hm]; rfl
  rw [hs7 _ rfl] at he
  subst he
  have hA7 := (HA5.out.next hB6).next hB7
  have HA7 := Lib.hid hA7
  obtain ⟨s70, s71, s72, s73, s74, s75, s76⟩ := hA7.sc
  have k70 : w7.cell? ⟨w2.heap.size + 1 + 1, 1, none⟩ = some (.bool false) := hA7.closed.cell 1
  have k71 := hA7.closed.frozen 1
  obtain ⟨p80, p81, p82, p83⟩ := (hA7.store true).pc
  obtain ⟨s80, s81, s82, s83, s84, s85, s86⟩ := (hA7.store true).sc
  have HA8 := Lib.hid (hA7.store true)
  clear hA7 hB7 HI5 HL4 hI6 hB6 HA5 f50 hs7
  simp only at s71 s72 s74 s75 s76 s81 s82 s84 s85 s86
  go_wp2_with fail
  refine (CL.out _ ⟨rfl, rfl, rfl, rfl, rfl, rfl, rfl⟩ _ HA8.out.plt_in HA8.out.stt_in).mono ?_
  rintro e w9 ⟨A9, c9, rfl, hB9, hO9⟩
  have hL9 : clashL (exP b) (exS w2.heap.size { closed := ⟨A0, 2, c0, [false, false]⟩, locked := ⟨A1, 2, c1, [false, false]⟩, badLink := ⟨A2, 2, c2, [false, false]⟩, on := ⟨A3, 2, c3, [false, false]⟩, badSource := ⟨A4, 2, c4, [false, false]⟩, earthed := ⟨A5, 3, c5, [false, false, false]⟩, badBus := ⟨A6, 3, c6, [false, false, false]⟩ } true) (exL (b + 1)) = [(0, 1)] := by
    have hx : ExIs (exS w2.heap.size { closed := ⟨A0, 2, c0, [false, false]⟩, locked := ⟨A1, 2, c1, [false, false]⟩, badLink := ⟨A2, 2, c2, [false, false]⟩, on := ⟨A3, 2, c3, [false, false]⟩, badSource := ⟨A4, 2, c4, [false, false]⟩, earthed := ⟨A5, 3, c5, [false, false, false]⟩, badBus := ⟨A6, 3, c6, [false, false, false]⟩ } true) [true, true] [false, false] [false, false, false] := ⟨rfl, rfl, rfl, rfl, rfl⟩
    unfold clashL
    rw [ex2_home b _ hx, ex_feed b _ hx 0 0 [0, 0, 0] rfl rfl]
    exact ex_clash
  have hR9 := rd_pairs hO9
  rw [hL9] at hR9 ⊢
  have hA9 := HA8.out.next hB9
  obtain ⟨p90, p91, p92, p93⟩ := hA9.pc
  obtain ⟨s90, s91, s92, s93, s94, s95, s96⟩ := hA9.sc
  have HA9 := Lib.hid hA9
  have HR9 := Lib.hid hR9
  clear hA9 hR9 hL9 hO9 hB9 HA8 HA7 p80 p81 p82 p83 s70 s71 s72 s73 s74 s75 s76 k70 k71 s80 s81 s82 s83 s84 s85 s86
  simp only [List.length_cons, List.length_nil, Nat.reduceAdd, Nat.zero_add] at HR9 ⊢
  simp only at s91 s92 s94 s95 s96
  go_wp2_with fail
  refine (B3.out _ ⟨rfl, rfl, rfl, rfl, rfl, rfl, rfl⟩ (by intro x hx; simp [Stt.lists, exS] at hx; rcases hx with rfl | rfl | rfl | rfl | rfl | rfl | rfl <;> simp only <;> decide) (by simp [exS]) _ HA9.out.plt_in HA9.out.stt_in).mono ?_
  rintro e w10 ⟨t10, rfl, hB10, hO10, hC10⟩
  have hC10 : t10.cont = [[true, true], [false, false], [true, false], [true, true], [false, false], [false, false, false], [false, false, false]] := hC10
  obtain ⟨D0, D1, D2, D3, D4, D5, D6, d0, d1, d2, d3, d4, d5, d6, rfl⟩ := stt_lit hO10 hC10
  have hA10 := HA9.out.next hB10
  have hS10 := sttIn_of hO10
  simp only [List.length_cons, List.length_nil, Nat.reduceAdd, Nat.zero_add] at hS10
  have q10 : ∀ o, Aw w b w1.heap.size w2.heap.size _ true (w10.alloc o) := fun o => hA10.alloc o
  have p100 : ∀ o, (w10.alloc o).cell? ⟨w1.heap.size, 0, none⟩ = some (.int .i64 3) := fun o => (q10 o).pc.1
  have p101 : ∀ o, (w10.alloc o).cell? ⟨w1.heap.size, 1, none⟩ = some (.slice (some ⟨b, 0, none⟩) 2 2) := fun o => (q10 o).pc.2.1
  have p102 : ∀ o, (w10.alloc o).cell? ⟨w1.heap.size, 2, none⟩ = some (.slice (some ⟨b + 1 + 1, 0, none⟩) 2 2) := fun o => (q10 o).pc.2.2.1
  have p103 : ∀ o, (w10.alloc o).cell? ⟨w1.heap.size, 3, none⟩ = some (.slice (some ⟨b + 1 + 1 + 1, 0, none⟩) 1 1) := fun o => (q10 o).pc.2.2.2
  have HA10 := Lib.hid hA10
  have HS10 := Lib.hid hS10
  have HR10 := Lib.hid (HR9.out.next hB10)
  have HB10 := Lib.hid hB10
  clear hA10 hS10 hC10 hO10 hB10 HR9 HA9 q10 p90 p91 p92 p93 s90 s91 s92 s93 s94 s95 s96
  unfold Stt.val
  simp only [List.length_cons, List.length_nil, Nat.reduceAdd, Nat.zero_add]
  go_wp2_with fail
  refine (IS.out { closed := ⟨D0, 2, d0, [true, true]⟩, locked := ⟨D1, 2, d1, [false, false]⟩, badLink := ⟨D2, 2, d2, [true, false]⟩, on := ⟨D3, 2, d3, [true, true]⟩, badSource := ⟨D4, 2, d4, [false, false]⟩, earthed := ⟨D5, 3, d5, [false, false, false]⟩, badBus := ⟨D6, 3, d6, [false, false, false]⟩ } ⟨rfl, rfl, rfl, rfl, rfl, rfl, rfl⟩ _ (HA10.out.alloc _).plt_in (HS10.out.next ((Below.refl _ _).alloc (Nat.le_refl _) _))).mono ?_
  rintro e w11 ⟨l11, A11, n11, c11, rfl, hB11, hI11, hl11⟩
  have hl11 : l11.map Isle.two = [([0], [0]), ([1, 2], [1])] := by
    have hx : ExIs { closed := ⟨D0, 2, d0, [true, true]⟩, locked := ⟨D1, 2, d1, [false, false]⟩, badLink := ⟨D2, 2, d2, [true, false]⟩, on := ⟨D3, 2, d3, [true, true]⟩, badSource := ⟨D4, 2, d4, [false, false]⟩, earthed := ⟨D5, 3, d5, [false, false, false]⟩, badBus := ⟨D6, 3, d6, [false, false, false]⟩ } [true, true] [true, false] [false, false, false] := ⟨rfl, rfl, rfl, rfl, rfl⟩
    rw [hl11, ex3_home b _ hx, ex_feed b _ hx 0 1 [0, 1, 1] rfl rfl]
    exact ex_isles3
  have HA11 := Lib.hid ((HA10.out.alloc _).next hB11)
  have HR11 := Lib.hid ((HR10.out.next ((Below.refl _ _).alloc (Nat.le_refl _) _)).next hB11)
  have HI11 := Lib.hid hI11
  have HL11 := Lib.hid hl11
  clear HA10 HR10 HS10 HB10 hl11 hI11 hB11 p100 p101 p102 p103
  go_wp2_with fail
  have hz11 : Below w11.heap.size w11 (w11.alloc (.cells ([((0 : Int), (1 : Int))].flatMap encP).toArray 79)) := (Below.refl _ _).alloc (Nat.le_refl _) _
  have hm11 := Rd.lit w11 79 encP 2 [((0 : Int), (1 : Int))] (fun _ _ => rfl)
  rw [← World.size_alloc] at hm11
  refine (SP.out _ _ _ _ _ _ [((0 : Int), (1 : Int))] [((0 : Int), (1 : Int))] _ (HR11.out.next hz11) hm11 (by decide) (by decide)).mono ?_
  rintro e w12 ⟨he, hB12⟩
  rw [show sameL [((0 : Int), (1 : Int))] [((0 : Int), (1 : Int))] = true from rfl] at he
  subst he
  have HA12 := Lib.hid ((HA11.out.next hz11).next hB12)
  have HI12 := Lib.hid ((HI11.out.next hz11).next hB12)
  clear HA11 HI11 HR11 hz11 hm11 hB12
  go_wp2_with fail
  obtain ⟨W13, e13, hI13, hB13⟩ := isles_lit w12 78 [0] [0] [1, 2] [1] (by decide) (by decide) (by decide) (by decide)
  subst e13
  refine (SI.out _ _ _ _ _ _ _ _ _ (HI12.out.next hB13) hI13).mono ?_
  rintro e w14 ⟨he, hB14⟩
  have hs14 : ∀ m : List Isle, m.map Isle.two = [([0], [0]), ([1, 2], [1])] → sameIsl l11 m = true := fun m hm => by unfold sameIsl; rw [HL11.out, hm]; rfl
  rw [hs14 _ rfl] at he
  subst he
  have hA14 := (HA12.out.next hB13).next hB14
  obtain ⟨p140, p141, p142, p143⟩ := hA14.pc
  obtain ⟨s140, s141, s142, s143, s144, s145, s146⟩ := hA14.sc
  have HA14 := Lib.hid hA14
  clear hA14 HA12 HI12 hB13 hI13 hB14 HL11 hs14
  simp only at s141 s142 s144 s145 s146
  go_wp2_with fail
  refine (B1.out _ ⟨rfl, rfl, rfl, rfl, rfl, rfl, rfl⟩ (by intro x hx; simp [Stt.lists, exS] at hx; rcases hx with rfl | rfl | rfl | rfl | rfl | rfl | rfl <;> simp only <;> decide) (by simp [exS]) _ HA14.out.plt_in HA14.out.stt_in).mono ?_
  rintro e w15 ⟨t15, rfl, hB15, hO15, hC15⟩
  have hC15 : t15.cont = [[true, true], [false, false], [false, false], [true, true], [false, false], [false, false, false], [false, true, false]] := hC15
  obtain ⟨E0, E1, E2, E3, E4, E5, E6, e0, e1, e2, e3, e4, e5, e6, rfl⟩ := stt_lit hO15 hC15
  have hA15 := HA14.out.next hB15
  have hS15 := sttIn_of hO15
  simp only [List.length_cons, List.length_nil, Nat.reduceAdd, Nat.zero_add] at hS15
  have q15 : ∀ o, Aw w b w1.heap.size w2.heap.size _ true (w15.alloc o) := fun o => hA15.alloc o
  have p150 : ∀ o, (w15.alloc o).cell? ⟨w1.heap.size, 0, none⟩ = some (.int .i64 3) := fun o => (q15 o).pc.1
  have p151 : ∀ o, (w15.alloc o).cell? ⟨w1.heap.size, 1, none⟩ = some (.slice (some ⟨b, 0, none⟩) 2 2) := fun o => (q15 o).pc.2.1
  have p152 : ∀ o, (w15.alloc o).cell? ⟨w1.heap.size, 2, none⟩ = some (.slice (some ⟨b + 1 + 1, 0, none⟩) 2 2) := fun o => (q15 o).pc.2.2.1
  have p153 : ∀ o, (w15.alloc o).cell? ⟨w1.heap.size, 3, none⟩ = some (.slice (some ⟨b + 1 + 1 + 1, 0, none⟩) 1 1) := fun o => (q15 o).pc.2.2.2
  have HA15 := Lib.hid hA15
  have HS15 := Lib.hid hS15
  clear hA15 hS15 hC15 hO15 hB15 HA14 q15 p140 p141 p142 p143 s140 s141 s142 s143 s144 s145 s146
  unfold Stt.val
  simp only [List.length_cons, List.length_nil, Nat.reduceAdd, Nat.zero_add]
  go_wp2_with fail
  refine (FE.out { closed := ⟨E0, 2, e0, [true, true]⟩, locked := ⟨E1, 2, e1, [false, false]⟩, badLink := ⟨E2, 2, e2, [false, false]⟩, on := ⟨E3, 2, e3, [true, true]⟩, badSource := ⟨E4, 2, e4, [false, false]⟩, earthed := ⟨E5, 3, e5, [false, false, false]⟩, badBus := ⟨E6, 3, e6, [false, true, false]⟩ } ⟨rfl, rfl, rfl, rfl, rfl, rfl, rfl⟩ _ (HA15.out.alloc _).plt_in (HS15.out.next ((Below.refl _ _).alloc (Nat.le_refl _) _))).mono ?_
  rintro e w16 ⟨g16, rfl, hB16, hg16, hF16⟩
  have hF16 : Blk w16 g16 75 #[.bool false, .bool false] := by
    have hx : ExIs { closed := ⟨E0, 2, e0, [true, true]⟩, locked := ⟨E1, 2, e1, [false, false]⟩, badLink := ⟨E2, 2, e2, [false, false]⟩, on := ⟨E3, 2, e3, [true, true]⟩, badSource := ⟨E4, 2, e4, [false, false]⟩, earthed := ⟨E5, 3, e5, [false, false, false]⟩, badBus := ⟨E6, 3, e6, [false, true, false]⟩ } [true, true] [false, false] [false, true, false] := ⟨rfl, rfl, rfl, rfl, rfl⟩
    have := hF16
    rw [ex_live b _ _ _ (ex4_home b _ hx) (ex_feed b _ hx 0 2 [0, -1, 2] rfl rfl), show fedTo (exP b).rcks (liveTo 3 [0, -1, 2] (fedOf [(0, (0 : Fin 3)), (1, (2 : Fin 3))]) 3) (exP b).rn ((exP b).rn * 2) = [false, false] from ex_live4] at this
    exact this
  have hA16 := (HA15.out.alloc _).next hB16
  obtain ⟨p160, p161, p162, p163⟩ := hA16.pc
  have HA16 := Lib.hid hA16
  have HF16 := Lib.hid hF16
  rw [show (exP b).rn = 1 from rfl]
  clear hA16 hF16 HA15 HS15 p150 p151 p152 p153 hB16 hg16
  go_wp2_with fail
  refine (FO.out _ HA16.out.plt_in (HPow.out.below HA16.out.low)).mono ?_
  rintro e w17 ⟨rfl, hB17⟩
  have hF17 := HF16.out.below hB17 HF16.out.lt
  have f170 : w17.cell? ⟨g16, 0, none⟩ = some (.bool false) := hF17.cell 0
  have HLOW := Lib.hid (below_after hB17 (Nat.le_refl _) HA16.out.low)
  rw [ex_text]
  clear hF17 hB17 HA16 HF16 p160 p161 p162 p163
  go_wp2_with fail
  have hT : ∀ l : List UInt8, ((ba l).toList == l) = true := fun l => by
    have h1 : (ba l).toList = l := by
      simp [ba]
    rw [h1]
    simp
  simp only [hT]
  go_ret
  exact ⟨rfl, HLOW.out⟩
end Go.Proofs.YtnngdcidopaabaaGreatDoor

/- The law that what is valid, connected, live, fed and clashes is as the reference says. -/
namespace Go.Proofs.YtnngdcidopaabaaGreatDoor
open Go.RowKit

theorem big_bounds {p : Plt} (h : bigP p = false) : p.sn ≤ 60 ∧ p.ln ≤ 60 ∧ p.rn ≤ 60 ∧ ∀ x ∈ p.lnks, x.tn ≤ 20 := by
  unfold bigP at h
  simp only [Bool.or_eq_false_iff, decide_eq_false_iff_not, List.any_eq_false, decide_eq_true_eq] at h
  obtain ⟨⟨⟨h1, h2⟩, h3⟩, h4⟩ := h
  exact ⟨by omega, by omega, by omega, fun x hx => by have := h4 x hx; omega⟩
theorem PltOwn.storeT {W W' : World} {base rx : Nat} {q : Plt} {T : TypeId} {cs : Array Value} (h : PltOwn W base q) (hk : W.grownBy W' (some rx)) (hb : Blk W rx T cs) (t1 : T ≠ 89) (t2 : T ≠ 73) (t3 : T ≠ 125) (t4 : T ≠ 95) : PltOwn W' base q :=
  ⟨row_store h.src hk hb t1, ⟨row_store h.lnk.1 hk hb t2, fun y hy => (h.lnk.2 y hy).kept hk hb t3⟩, row_store h.rck hk hb t4⟩
theorem SttOwn.storeT {W W' : World} {base rx : Nat} {t : Stt} {T : TypeId} {cs : Array Value} (h : SttOwn W base t) (hk : W.grownBy W' (some rx)) (hb : Blk W rx T cs) (t1 : T ≠ 4) : SttOwn W' base t :=
  ⟨fun b hb' => ⟨row_store (h.own b hb').own hk hb t1, (h.own b hb').len⟩, h.apart⟩
theorem SttOwn.next {W W' : World} {base : Nat} {t : Stt} (h : SttOwn W base t) (hb : Below W.heap.size W W') : SttOwn W' base t :=
  ⟨fun b hb' => ⟨row_next (h.own b hb').own hb, (h.own b hb').len⟩, h.apart⟩
def chPhi (n0 : Nat) (p : Plt) (s : Stt) : Nat → Value → World → (Nat → Nat) → Prop
  | 0, v, _, _ => v = .agg (pBox p)
  | 1, v, W, _ => ∃ q, v = .agg (pBox q) ∧ CopyOf p q ∧ PltOwn W n0 q
  | 2, v, _, _ => v = .agg (sBox s)
  | 3, v, W, _ => ∃ t, v = .agg (sBox t) ∧ t.cont = s.cont ∧ SttOwn W n0 t
  | 4, v, W, γ => v = .pointer (some ⟨γ 0, 0, none⟩) ∧ n0 ≤ γ 0 ∧ ∃ c0 c1 c2 c3, Blk W (γ 0) 26 #[c0, c1, c2, c3]
  | 5, v, W, γ => v = .pointer (some ⟨γ 1, 0, none⟩) ∧ n0 ≤ γ 1 ∧ ∃ c0 c1 c2 c3 c4 c5 c6, Blk W (γ 1) 29 #[c0, c1, c2, c3, c4, c5, c6]
  | 6, _, W, γ => ∃ q, Blk W (γ 0) 26 (pBox q) ∧ CopyOf p q ∧ PltOwn W n0 q
  | 7, _, W, γ => ∃ t, Blk W (γ 1) 29 (sBox t) ∧ t.cont = s.cont ∧ SttOwn W n0 t
  | _, _, _, _ => True
theorem chPhi_kept {n0 : Nat} {p : Plt} {s : Stt} {W W' : World} {γ γ' : Nat → Nat} (hb : Below W.heap.size W W') (j : Nat) (v : Value) (h0 : j = 4 ∨ j = 6 → γ' 0 = γ 0) (h1 : j = 5 ∨ j = 7 → γ' 1 = γ 1) (hv : chPhi n0 p s j v W γ) : chPhi n0 p s j v W' γ' := by
  unfold chPhi at hv ⊢
  split at hv
  · exact hv
  · obtain ⟨q, a, b, c⟩ := hv; exact ⟨q, a, b, c.next hb⟩
  · exact hv
  · obtain ⟨q, a, b, c⟩ := hv; exact ⟨q, a, b, c.next hb⟩
  · obtain ⟨a, b, c0, c1, c2, c3, c⟩ := hv
    rw [h0 (.inl rfl)]
    exact ⟨a, b, c0, c1, c2, c3, Blk.below c hb (Blk.lt c)⟩
  · obtain ⟨a, b, c0, c1, c2, c3, c4, c5, c6, c⟩ := hv
    rw [h1 (.inl rfl)]
    exact ⟨a, b, c0, c1, c2, c3, c4, c5, c6, Blk.below c hb (Blk.lt c)⟩
  · obtain ⟨q, a, b, c⟩ := hv
    rw [h0 (.inr rfl)]
    exact ⟨q, Blk.below a hb (Blk.lt a), b, c.next hb⟩
  · obtain ⟨q, a, b, c⟩ := hv
    rw [h1 (.inr rfl)]
    exact ⟨q, Blk.below a hb (Blk.lt a), b, c.next hb⟩
  · trivial
theorem chPhi_plant {n0 : Nat} {p : Plt} {s : Stt} {W W' : World} {γ : Nat → Nat} {cs : Array Value} {d0 d1 d2 d3 : Value} (hk : W.grownBy W' (some (γ 0))) (hb : Blk W (γ 0) 26 cs) (hn : Blk W' (γ 0) 26 #[d0, d1, d2, d3]) (j : Nat) (v : Value) (h6 : j ≠ 6) (h7 : j ≠ 7) (hv : chPhi n0 p s j v W γ) : chPhi n0 p s j v W' γ := by
  unfold chPhi at hv ⊢
  split at hv
  · exact hv
  · obtain ⟨q, a, b, c⟩ := hv; exact ⟨q, a, b, c.storeT hk hb (by decide) (by decide) (by decide) (by decide)⟩
  · exact hv
  · obtain ⟨q, a, b, c⟩ := hv; exact ⟨q, a, b, c.storeT hk hb (by decide)⟩
  · exact ⟨hv.1, hv.2.1, _, _, _, _, hn⟩
  · obtain ⟨a, b, c0, c1, c2, c3, c4, c5, c6, c⟩ := hv
    exact ⟨a, b, c0, c1, c2, c3, c4, c5, c6, c.kept hk (fun e => blk_apart c hb (by decide) (Option.some.inj e))⟩
  · exact absurd rfl h6
  · exact absurd rfl h7
  · trivial
theorem chPhi_state {n0 : Nat} {p : Plt} {s : Stt} {W W' : World} {γ : Nat → Nat} {cs : Array Value} {d0 d1 d2 d3 d4 d5 d6 : Value} (hk : W.grownBy W' (some (γ 1))) (hb : Blk W (γ 1) 29 cs) (hn : Blk W' (γ 1) 29 #[d0, d1, d2, d3, d4, d5, d6]) (j : Nat) (v : Value) (h7 : j ≠ 7) (hv : chPhi n0 p s j v W γ) : chPhi n0 p s j v W' γ := by
  unfold chPhi at hv ⊢
  split at hv
  · exact hv
  · obtain ⟨q, a, b, c⟩ := hv; exact ⟨q, a, b, c.storeT hk hb (by decide) (by decide) (by decide) (by decide)⟩
  · exact hv
  · obtain ⟨q, a, b, c⟩ := hv; exact ⟨q, a, b, c.storeT hk hb (by decide)⟩
  · obtain ⟨a, b, c0, c1, c2, c3, c⟩ := hv
    exact ⟨a, b, c0, c1, c2, c3, c.kept hk (fun e => blk_apart c hb (by decide) (Option.some.inj e))⟩
  · exact ⟨hv.1, hv.2.1, _, _, _, _, _, _, _, hn⟩
  · obtain ⟨q, a, b, c⟩ := hv
    exact ⟨q, a.kept hk (fun e => blk_apart a hb (by decide) (Option.some.inj e)), b, c.storeT hk hb (by decide) (by decide) (by decide) (by decide)⟩
  · exact absurd rfl h7
  · trivial
/-- What the law keeps. -/
structure Ch (w : World) (p q : Plt) (s t : Stt) (g5 g6 : Nat) (W : World) : Prop where
  lo : Lo w p s w.heap.size (w.heap.size + 1) W
  bq : Blk W g5 26 (pBox q)
  bt : Blk W g6 29 (sBox t)
  pq : PltIn W W.heap.size q
  st : SttIn W W.heap.size t
theorem Ch.next {w : World} {p q : Plt} {s t : Stt} {g5 g6 : Nat} {W W' : World} (h : Ch w p q s t g5 g6 W) (hb : Below W.heap.size W W') : Ch w p q s t g5 g6 W' :=
  ⟨h.lo.next hb, Blk.below h.bq hb (Blk.lt h.bq), Blk.below h.bt hb (Blk.lt h.bt), h.pq.next hb, h.st.next hb⟩
theorem pBox_cells {W : World} {g : Nat} {q : Plt} (h : Blk W g 26 (pBox q)) : W.cell? ⟨g, 0, none⟩ = some (.int .i64 q.buses) ∧ W.cell? ⟨g, 1, none⟩ = some (.slice q.sA q.sn q.sc) ∧ W.cell? ⟨g, 2, none⟩ = some (.slice q.lA q.ln q.lc) ∧ W.cell? ⟨g, 3, none⟩ = some (.slice q.rA q.rn q.rc) :=
  ⟨h.cell 0, h.cell 1, h.cell 2, h.cell 3⟩
set_option maxRecDepth 100000 in
set_option maxHeartbeats 8000000 in
theorem checks_any (p : Plt) (s : Stt) (w : World) (hP : Pow w) (hp : PltIn w w.heap.size p) (hs : SttIn w w.heap.size s) (hf : SttFit s) :
    Calls Tryz.prog 3 #[p.val, s.val] w fun e w' => e = .returned (.bool true) ∧ Below w.heap.size w w' := by
  have AW := Lib.hid (fun W h => awake_any W h)
  have BIG := Lib.hid (fun W hp => big_any p W hp)
  have LO0 : Lo w p s w.heap.size (w.heap.size + 1) ((w.alloc (.cells (pBox p) 26)).alloc (.cells (sBox s) 29)) := by
    have hb : Below w.heap.size w ((w.alloc (.cells (pBox p) 26)).alloc (.cells (sBox s) 29)) := by (repeat' (first | (with_reducible exact Below.refl _ _) | (with_reducible assumption) | (with_reducible refine below_drewN ?_ _) | (with_reducible refine below_after (by assumption) ?_ ?_) | (with_reducible refine Below.drew ?_) | (with_reducible refine Below.alloc ?_ ?_ _) | (with_reducible refine Below.setCell ?_ ?_ _) | omega | (simp; omega) | (simp; done)))
    refine ⟨hb, hp.next hb, hs.next hb, Blk.alloc (heap_alloc_new w _) _, ?_⟩
    have := heap_alloc_new (w.alloc (.cells (pBox p) 26)) (.cells (sBox s) 29)
    rw [World.size_alloc] at this
    exact this
  have HPow := Lib.hid hP
  have HPlt := Lib.hid hp
  have HStt := Lib.hid hs
  have HLO0 := Lib.hid LO0
  have CSt := Lib.hid (fun W hs => CopyState_any s W hs hf)
  clear hP hp hs LO0
  unfold Plt.val Stt.val at *
  go_enter Tryz.func3, Tryz.ntmps3
  go_wp2_with fail
  refine (BIG.out _ HLO0.out.plt).mono ?_
  rintro e w1 ⟨rfl, hB1⟩
  have HLO1 := Lib.hid (HLO0.out.next hB1)
  clear hB1 HLO0
  by_cases hq : bigP p = true
  · rw [hq]
    go_wp2_with fail
    refine (AW.out _ (HPow.out.below HLO1.out.low)).mono ?_
    rintro e w2 ⟨rfl, hB2⟩
    go_wp2_with fail
    go_ret
    exact ⟨rfl, below_after hB2 (Nat.le_refl _) HLO1.out.low⟩
  have hqf : bigP p = false := by simpa using hq
  rw [hqf]
  obtain ⟨k1, k2, k3, k4⟩ := big_bounds hqf
  have CPl := Lib.hid (fun W hp => CopyPlant_any p W hp k1 k2 k3 k4)
  unfold Plt.val at CPl
  have K4 := Lib.hid k4
  clear hq hqf k4
  go_wp2
  refine wp_region_free8 [some 20, some 21, some 22, some 23, some 5, some 6, none, none] [[], [0], [], [2, 1], [], [], [4, 1, 3, 0, 1, 4, 5], [5, 3, 6, 0, 1, 2, 3, 4, 5, 6]] [(2, .pointer (some ⟨w.heap.size, 0, none⟩)), (3, .pointer (some ⟨w.heap.size + 1, 0, none⟩))] (fun W _ => Below w1.heap.size w1 W) (chPhi w1.heap.size p s) (by kernel_rfl) (by kernel_rfl) rfl (by kernel_rfl) ?_ ?_ ⟨fun _ => 0, (Below.refl _ _).drew⟩ ?_ ?_
  · intro z hz
    simp only [List.mem_cons, List.mem_nil_iff, or_false] at hz
    rcases hz with rfl | rfl
    · exact ⟨rfl, rfl⟩
    · exact ⟨rfl, rfl⟩
  · intro i v W γ hi h
    rcases i with _ | _ | _ | _ | _ | _ | _ | _ | i
    all_goals first | exact h | (simp at hi)
  · refine ⟨?_, ?_, ?_, ?_, ?_, ?_, ?_, ?_, trivial⟩
    all_goals
      intro a W γ ev hcc hff hfx hR hpre
      simp only [List.mem_cons, List.mem_nil_iff, or_false, forall_eq, forall_eq_or_imp] at hfx
      obtain ⟨f2, f3⟩ := hfx
      have HR := Lib.hid hR
      have HLW := Lib.hid (HLO1.out.next hR)
      have hz := hR.size
      clear hR
      refine ⟨fun _ K hK => ?_, trivial⟩
    · obtain ⟨p0, p1, p2, p3⟩ := HLW.out.pc
      clear hpre
      go_simp
      exact hK _ _ _ HR.out (fun _ _ _ _ h => h) rfl
    · have q1 : ev (.tmp 20) = .agg #[.int .i64 p.buses, .slice p.sA p.sn p.sc, .slice p.lA p.ln p.lc, .slice p.rA p.rn p.rc] := hpre 0 (by decide)
      have C := Lib.hid (CPl.out W HLW.out.plt)
      clear hpre
      go_simp
      refine C.out.mono ?_
      rintro e w5 ⟨q, rfl, hB, hPQ, hC, hO⟩
      exact hK _ w5 γ (below_after hB (Nat.le_refl _) HR.out) (fun j u _ _ h => chPhi_kept hB j u (fun _ => rfl) (fun _ => rfl) h) ⟨q, rfl, hC, ⟨World.ownsRow.mono_base hO.src hz, ⟨World.ownsRow.mono_base hO.lnk.1 hz, fun y hy => World.ownsRow.mono_base (hO.lnk.2 y hy) hz⟩, World.ownsRow.mono_base hO.rck hz⟩⟩
    · obtain ⟨s0, s1, s2, s3, s4, s5, s6⟩ := sBox_cells HLW.out.bs
      clear hpre
      go_simp
      exact hK _ _ _ HR.out (fun _ _ _ _ h => h) rfl
    · have q1 : ev (.tmp 22) = .agg #[.slice s.closed.A s.closed.n s.closed.c, .slice s.locked.A s.locked.n s.locked.c, .slice s.badLink.A s.badLink.n s.badLink.c, .slice s.on.A s.on.n s.on.c, .slice s.badSource.A s.badSource.n s.badSource.c, .slice s.earthed.A s.earthed.n s.earthed.c, .slice s.badBus.A s.badBus.n s.badBus.c] := hpre 2 (by decide)
      have C := Lib.hid (CSt.out W HLW.out.stt)
      clear hpre
      go_simp
      refine C.out.mono ?_
      rintro e w5 ⟨t, rfl, hB, hO, hc⟩
      exact hK _ w5 γ (below_after hB (Nat.le_refl _) HR.out) (fun j u _ _ h => chPhi_kept hB j u (fun _ => rfl) (fun _ => rfl) h) ⟨t, rfl, eq_cont hc, hO.mono_base hz⟩
    · clear hpre
      go_simp
      have hbw : ∀ o, Below W.heap.size W (W.alloc o) := fun o => (Below.refl _ _).alloc (Nat.le_refl _) _
      refine hK _ _ (also γ 0 W.heap.size) (HR.out.alloc hz _) (fun j u hj hne h => chPhi_kept (γ := γ) (γ' := also γ 0 W.heap.size) (hbw _) j u (fun e => ?_) (fun _ => by simp [also]) h) ⟨?_, ?_, .int .i64 0, .slice none 0 0, .slice none 0 0, .slice none 0 0, ?_⟩
      · rcases e with e | e
        · exact absurd e hne
        · subst e; exact absurd (by decide) hj
      · rw [also_same]
      · rw [also_same]; exact hz
      · rw [also_same]; exact heap_alloc_new W _
    · clear hpre
      go_simp
      have hbw : ∀ o, Below W.heap.size W (W.alloc o) := fun o => (Below.refl _ _).alloc (Nat.le_refl _) _
      refine hK _ _ (also γ 1 W.heap.size) (HR.out.alloc hz _) (fun j u hj hne h => chPhi_kept (γ := γ) (γ' := also γ 1 W.heap.size) (hbw _) j u (fun _ => by simp [also]) (fun e => ?_) h) ⟨?_, ?_, .slice none 0 0, .slice none 0 0, .slice none 0 0, .slice none 0 0, .slice none 0 0, .slice none 0 0, .slice none 0 0, ?_⟩
      · rcases e with e | e
        · exact absurd e hne
        · subst e; exact absurd (by decide) hj
      · rw [also_same]
      · rw [also_same]; exact hz
      · rw [also_same]; exact heap_alloc_new W _
    · obtain ⟨q, q1, hC, hO⟩ := hpre 1 (by decide)
      obtain ⟨q2, hg, c0, c1, c2, c3, hb⟩ := hpre 4 (by decide)
      replace q1 : ev (.tmp 21) = .agg #[.int .i64 q.buses, .slice q.sA q.sn q.sc, .slice q.lA q.ln q.lc, .slice q.rA q.rn q.rc] := q1
      replace q2 : ev (.tmp 5) = _ := q2
      obtain ⟨S1, S2⟩ := store4 hb (.int .i64 q.buses) (.slice q.sA q.sn q.sc) (.slice q.lA q.ln q.lc) (.slice q.rA q.rn q.rc)
      have HS1 := Lib.hid S1
      have HS2 := Lib.hid S2
      have HC := Lib.hid hC
      have HO := Lib.hid hO
      have d0 : W.cell? ⟨γ 0, 0, none⟩ = some c0 := hb.cell 0
      have d1 : W.cell? ⟨γ 0, 1, none⟩ = some c1 := hb.cell 1
      have d2 : W.cell? ⟨γ 0, 2, none⟩ = some c2 := hb.cell 2
      have d3 : W.cell? ⟨γ 0, 3, none⟩ = some c3 := hb.cell 3
      have fz := hb.frozen
      have HB := Lib.hid hb
      clear hpre hC hO hb S1 S2
      go_simp
      refine hK undef _ γ (HR.out.grown HS2.out hz (fun k e => by cases e; exact hg)) (fun j u hj hne h => chPhi_plant HS2.out HB.out HS1.out j u hne (fun e => ?_) h) ⟨q, HS1.out, HC.out, HO.out.storeT HS2.out HB.out (by decide) (by decide) (by decide) (by decide)⟩
      subst e
      exact absurd (by decide) hj
    · obtain ⟨t, q1, hC, hO⟩ := hpre 3 (by decide)
      obtain ⟨q2, hg, c0, c1, c2, c3, c4, c5, c6, hb⟩ := hpre 5 (by decide)
      replace q1 : ev (.tmp 23) = .agg #[.slice t.closed.A t.closed.n t.closed.c, .slice t.locked.A t.locked.n t.locked.c, .slice t.badLink.A t.badLink.n t.badLink.c, .slice t.on.A t.on.n t.on.c, .slice t.badSource.A t.badSource.n t.badSource.c, .slice t.earthed.A t.earthed.n t.earthed.c, .slice t.badBus.A t.badBus.n t.badBus.c] := q1
      replace q2 : ev (.tmp 6) = _ := q2
      obtain ⟨S1, S2⟩ := store7 hb (.slice t.closed.A t.closed.n t.closed.c) (.slice t.locked.A t.locked.n t.locked.c) (.slice t.badLink.A t.badLink.n t.badLink.c) (.slice t.on.A t.on.n t.on.c) (.slice t.badSource.A t.badSource.n t.badSource.c) (.slice t.earthed.A t.earthed.n t.earthed.c) (.slice t.badBus.A t.badBus.n t.badBus.c)
      have HS1 := Lib.hid S1
      have HS2 := Lib.hid S2
      have HC := Lib.hid hC
      have HO := Lib.hid hO
      have d0 : W.cell? ⟨γ 1, 0, none⟩ = some c0 := hb.cell 0
      have d1 : W.cell? ⟨γ 1, 1, none⟩ = some c1 := hb.cell 1
      have d2 : W.cell? ⟨γ 1, 2, none⟩ = some c2 := hb.cell 2
      have d3 : W.cell? ⟨γ 1, 3, none⟩ = some c3 := hb.cell 3
      have d4 : W.cell? ⟨γ 1, 4, none⟩ = some c4 := hb.cell 4
      have d5 : W.cell? ⟨γ 1, 5, none⟩ = some c5 := hb.cell 5
      have d6 : W.cell? ⟨γ 1, 6, none⟩ = some c6 := hb.cell 6
      have fz := hb.frozen
      have HB := Lib.hid hb
      clear hpre hC hO hb S1 S2
      go_simp
      exact hK undef _ γ (HR.out.grown HS2.out hz (fun k e => by cases e; exact hg)) (fun j u hj hne h => chPhi_state HS2.out HB.out HS1.out j u hne h) ⟨t, HS1.out, HC.out, HO.out.storeT HS2.out HB.out (by decide)⟩
  · intro vs w2 γ hvl hR hφ
    obtain ⟨q, hbq, hC, hOq⟩ := hφ 6 (by decide)
    obtain ⟨t, hbt, hct, hOt⟩ := hφ 7 (by decide)
    have h4 := (hφ 4 (by decide)).1
    have h5 := (hφ 5 (by decide)).1
    obtain ⟨g5, hg5⟩ : ∃ x, γ 0 = x := ⟨_, rfl⟩
    obtain ⟨g6, hg6⟩ : ∃ x, γ 1 = x := ⟨_, rfl⟩
    rw [hg5] at hbq h4
    rw [hg6] at hbt h5
    have hpq := hOq.plt hC HPlt.out.src.1 HPlt.out.lnk.1 HPlt.out.rck.1 (fun x hx => ⟨(HPlt.out.trip x hx).1, K4.out x hx⟩) k1 k2 k3
    have hco : Copied p q s t := ⟨hC, hct, HStt.out.sized, hOt.sized, HPlt.out.src.1, HPlt.out.lnk.1⟩
    have CH2 := Lib.hid (⟨HLO1.out.next hR, hbq, hbt, hpq, sttIn_of hOt⟩ : Ch w p q s t g5 g6 w2)
    have HCO := Lib.hid hco
    clear hφ hbq hbt hC hct hOq hOt hpq hR hg5 hg6 HLO1 CPl CSt hco
    match vs, hvl with
    | [z0, z1, z2, z3, z4, z5, z6, z7], _ =>
    replace h4 : z4 = _ := h4
    replace h5 : z5 = _ := h5
    subst h4
    subst h5
    simp [putAll]
    obtain ⟨ci, I1, I2⟩ := both_islands HCO.out HPlt.out
    obtain ⟨cl, ll, V1, V2⟩ := both_live HCO.out HPlt.out
    obtain ⟨cf, lf, F1, F2⟩ := both_fed HCO.out HPlt.out
    obtain ⟨cx, lx, X1, X2⟩ := both_clashes HCO.out HPlt.out
    have C1 := Lib.hid (fun W h => check_any q W h)
    have C2 := Lib.hid (fun W h => refCheck_any p W h)
    have C3 := Lib.hid (fun W h k => checkState_any q t W h k)
    have C4 := Lib.hid (fun W h k => refCheckState_any p s W h k)
    rw [copy_check HCO.out.plt] at C1
    rw [copy_checkState HCO.out] at C3
    have SP := Lib.hid (fun W hp hq => SamePlant_yes p q W hp hq HCO.out.plt k1 k2 k3 K4.out)
    have hss : sameS s t = true := by
      obtain ⟨e0, e1, e2, e3, e4, e5, e6⟩ := cont_eq HCO.out.cont
      unfold sameS sameL
      simp [e0, e1, e2, e3, e4, e5, e6]
    have SS := Lib.hid (fun W hs ht => SameState_any s t W hs ht)
    rw [hss] at SS
    obtain ⟨cv, hcv⟩ : ∃ x, check p = x := ⟨_, rfl⟩
    obtain ⟨sv, hsv⟩ : ∃ x, checkState p s = x := ⟨_, rfl⟩
    rw [hcv] at C1 C2
    rw [hsv] at C3 C4 I1 I2 V1 V2 F1 F2 X1 X2
    have HI1 := Lib.hid I1
    have HI2 := Lib.hid I2
    have HV1 := Lib.hid V1
    have HV2 := Lib.hid V2
    have HF1 := Lib.hid F1
    have HF2 := Lib.hid F2
    have HX1 := Lib.hid X1
    have HX2 := Lib.hid X2
    clear I1 I2 V1 V2 F1 F2 X1 X2 hcv hsv hss
    unfold Plt.val at C1 C2 C3 C4 SP HI1 HI2 HV1 HV2 HF1 HF2 HX1 HX2
    unfold Stt.val at C3 C4 SS HI1 HI2 HV1 HV2 HF1 HF2 HX1 HX2
    obtain ⟨p0, p1, p2, p3⟩ := CH2.out.lo.pc
    obtain ⟨s0, s1, s2, s3, s4, s5, s6⟩ := sBox_cells CH2.out.lo.bs
    obtain ⟨q0, q1, q2, q3⟩ := pBox_cells CH2.out.bq
    obtain ⟨t0, t1, t2, t3, t4, t5, t6⟩ := sBox_cells CH2.out.bt
    have rp0 := cell_regrown p0
    have rp1 := cell_regrown p1
    have rp2 := cell_regrown p2
    have rp3 := cell_regrown p3
    have rs0 := cell_regrown s0
    have rs1 := cell_regrown s1
    have rs2 := cell_regrown s2
    have rs3 := cell_regrown s3
    have rs4 := cell_regrown s4
    have rs5 := cell_regrown s5
    have rs6 := cell_regrown s6
    have rq0 := cell_regrown q0
    have rq1 := cell_regrown q1
    have rq2 := cell_regrown q2
    have rq3 := cell_regrown q3
    have rt0 := cell_regrown t0
    have rt1 := cell_regrown t1
    have rt2 := cell_regrown t2
    have rt3 := cell_regrown t3
    have rt4 := cell_regrown t4
    have rt5 := cell_regrown t5
    have rt6 := cell_regrown t6
    have D1 := Lib.hid (fun d os => C1.out (Go.Sort.grow (redrawn w2 d) os) (CH2.out.next (below_regrown w2 d os)).pq)
    have D2 := Lib.hid (fun d os => C2.out (Go.Sort.grow (redrawn w2 d) os) (CH2.out.next (below_regrown w2 d os)).lo.plt)
    have D3 := Lib.hid (fun d os => C3.out (Go.Sort.grow (redrawn w2 d) os) (CH2.out.next (below_regrown w2 d os)).pq (CH2.out.next (below_regrown w2 d os)).st)
    have D4 := Lib.hid (fun d os => C4.out (Go.Sort.grow (redrawn w2 d) os) (CH2.out.next (below_regrown w2 d os)).lo.plt (CH2.out.next (below_regrown w2 d os)).lo.stt)
    go_wp2_with fail
    refine wp_region_quiet_below (by kernel_rfl) (by kernel_rfl) ?_
    repeat (go_big_quiet_step (first | exact Calls.regrown_of (D1.out _ _) | exact Calls.regrown_of (D2.out _ _) | exact Calls.regrown_of (D3.out _ _) | exact Calls.regrown_of (D4.out _ _)))
    refine wpQuiet_nil ?_
    intro _ hw'
    obtain ⟨⟨dq, osq⟩, hw''⟩ := hw'
    subst hw''
    have CH3 := Lib.hid (CH2.out.next (below_regrown w2 dq osq))
    clear rp0 rp1 rp2 rp3 rs0 rs1 rs2 rs3 rs4 rs5 rs6 rq0 rq1 rq2 rq3 rt0 rt1 rt2 rt3 rt4 rt5 rt6 p0 p1 p2 p3 s0 s1 s2 s3 s4 s5 s6 q0 q1 q2 q3 t0 t1 t2 t3 t4 t5 t6 D1 D2 D3 D4 C1 C2 C3 C4
    obtain ⟨w3, hw3⟩ : ∃ z, Go.Sort.grow (redrawn w2 dq) osq = z := ⟨_, rfl⟩
    rw [hw3] at CH3 ⊢
    clear hw3 CH2
    -- islands
    obtain ⟨q0, q1, q2, q3⟩ := pBox_cells CH3.out.bq
    obtain ⟨t0, t1, t2, t3, t4, t5, t6⟩ := sBox_cells CH3.out.bt
    go_wp2_with fail
    refine (HI1.out _ CH3.out.pq CH3.out.st).mono ?_
    rintro e w4 ⟨la, Aa, na, ca, rfl, hB, hra, hla⟩
    have CH4 := Lib.hid (CH3.out.next hB)
    have HRA := Lib.hid hra
    clear hB CH3 hra q0 q1 q2 q3 t0 t1 t2 t3 t4 t5 t6 HI1
    obtain ⟨p0, p1, p2, p3⟩ := CH4.out.lo.pc
    obtain ⟨s0, s1, s2, s3, s4, s5, s6⟩ := sBox_cells CH4.out.lo.bs
    go_wp2_with fail
    refine (HI2.out _ CH4.out.lo.plt CH4.out.lo.stt).mono ?_
    rintro e w5 ⟨lb, Ab, nb, cb, rfl, hB, hrb, hlb⟩
    have CH5 := Lib.hid (CH4.out.next hB)
    have SI := Lib.hid (sameIslands_any Aa Ab na nb ca cb la lb w5 (HRA.out.next hB) hrb)
    have hsi : sameIsl la lb = true := by unfold sameIsl sameL; rw [hla, hlb]; simp
    rw [hsi] at SI
    clear hB CH4 HRA hrb p0 p1 p2 p3 s0 s1 s2 s3 s4 s5 s6 HI2 hla hlb hsi
    go_wp2_with fail
    refine SI.out.mono ?_
    rintro e w6 ⟨rfl, hB⟩
    have CH6 := Lib.hid (CH5.out.next hB)
    clear hB CH5 SI
    -- live
    obtain ⟨q0, q1, q2, q3⟩ := pBox_cells CH6.out.bq
    obtain ⟨t0, t1, t2, t3, t4, t5, t6⟩ := sBox_cells CH6.out.bt
    go_wp2_with fail
    refine (HV1.out _ CH6.out.pq CH6.out.st).mono ?_
    rintro e w7 ⟨Ac, nc, cc, rfl, hB, hrc⟩
    have CH7 := Lib.hid (CH6.out.next hB)
    have HRC := Lib.hid hrc
    clear hB CH6 hrc q0 q1 q2 q3 t0 t1 t2 t3 t4 t5 t6 HV1
    obtain ⟨p0, p1, p2, p3⟩ := CH7.out.lo.pc
    obtain ⟨s0, s1, s2, s3, s4, s5, s6⟩ := sBox_cells CH7.out.lo.bs
    go_wp2_with fail
    refine (HV2.out _ CH7.out.lo.plt CH7.out.lo.stt).mono ?_
    rintro e w8 ⟨Ad, nd, cd, rfl, hB, hrd⟩
    have CH8 := Lib.hid (CH7.out.next hB)
    have ST := Lib.hid (SameTruths_any Ac Ad nc nd cc cd cl cl w8 (HRC.out.next hB) hrd (by have := HRC.out.1; omega) (by have := hrd.1; omega))
    have hst : sameL cl cl = true := by unfold sameL; simp
    rw [hst] at ST
    clear hB CH7 HRC hrd p0 p1 p2 p3 s0 s1 s2 s3 s4 s5 s6 HV2 hst
    go_wp2_with fail
    refine ST.out.mono ?_
    rintro e w9 ⟨rfl, hB⟩
    have CH9 := Lib.hid (CH8.out.next hB)
    clear hB CH8 ST
    -- fed
    obtain ⟨q0, q1, q2, q3⟩ := pBox_cells CH9.out.bq
    obtain ⟨t0, t1, t2, t3, t4, t5, t6⟩ := sBox_cells CH9.out.bt
    go_wp2_with fail
    refine (HF1.out _ CH9.out.pq CH9.out.st).mono ?_
    rintro e w10 ⟨Ae, ne, ce, rfl, hB, hre⟩
    have CH10 := Lib.hid (CH9.out.next hB)
    have HRE := Lib.hid hre
    clear hB CH9 hre q0 q1 q2 q3 t0 t1 t2 t3 t4 t5 t6 HF1
    obtain ⟨p0, p1, p2, p3⟩ := CH10.out.lo.pc
    obtain ⟨s0, s1, s2, s3, s4, s5, s6⟩ := sBox_cells CH10.out.lo.bs
    go_wp2_with fail
    refine (HF2.out _ CH10.out.lo.plt CH10.out.lo.stt).mono ?_
    rintro e w11 ⟨Af, nf, cff, rfl, hB, hrf⟩
    have CH11 := Lib.hid (CH10.out.next hB)
    obtain rfl : ne = nf := HRE.out.1.symm.trans hrf.1
    have SF := Lib.hid (sameFeeds_yes Ae Af ne ce cff cf w11 (HRE.out.next hB) hrf (by have := hrf.1; omega))
    clear hB CH10 HRE hrf p0 p1 p2 p3 s0 s1 s2 s3 s4 s5 s6 HF2
    go_wp2_with fail
    refine SF.out.mono ?_
    rintro e w12 ⟨rfl, hB⟩
    have CH12 := Lib.hid (CH11.out.next hB)
    clear hB CH11 SF
    -- clashes
    obtain ⟨q0, q1, q2, q3⟩ := pBox_cells CH12.out.bq
    obtain ⟨t0, t1, t2, t3, t4, t5, t6⟩ := sBox_cells CH12.out.bt
    go_wp2_with fail
    refine (HX1.out _ CH12.out.pq CH12.out.st).mono ?_
    rintro e w13 ⟨Ag, ng, cg, rfl, hB, hrg⟩
    have CH13 := Lib.hid (CH12.out.next hB)
    have HRG := Lib.hid hrg
    clear hB CH12 hrg q0 q1 q2 q3 t0 t1 t2 t3 t4 t5 t6 HX1
    obtain ⟨p0, p1, p2, p3⟩ := CH13.out.lo.pc
    obtain ⟨s0, s1, s2, s3, s4, s5, s6⟩ := sBox_cells CH13.out.lo.bs
    go_wp2_with fail
    refine (HX2.out _ CH13.out.lo.plt CH13.out.lo.stt).mono ?_
    rintro e w14 ⟨Ah, nh, ch, rfl, hB, hrh⟩
    have CH14 := Lib.hid (CH13.out.next hB)
    have SX := Lib.hid (samePairs_any Ag Ah ng nh cg ch cx cx w14 (HRG.out.next hB) hrh (by have := HRG.out.1; omega) (by have := hrh.1; omega))
    have hst : sameL cx cx = true := by unfold sameL; simp
    rw [hst] at SX
    clear hB CH13 HRG hrh p0 p1 p2 p3 s0 s1 s2 s3 s4 s5 s6 HX2 hst
    go_wp2_with fail
    refine SX.out.mono ?_
    rintro e w15 ⟨rfl, hB⟩
    have CH15 := Lib.hid (CH14.out.next hB)
    clear hB CH14 SX
    obtain ⟨p0, p1, p2, p3⟩ := CH15.out.lo.pc
    obtain ⟨q0, q1, q2, q3⟩ := pBox_cells CH15.out.bq
    go_wp2_with fail
    refine (SP.out _ CH15.out.lo.plt CH15.out.pq).mono ?_
    rintro e w16 ⟨rfl, hB⟩
    have CH16 := Lib.hid (CH15.out.next hB)
    clear hB CH15 SP p0 p1 p2 p3 q0 q1 q2 q3
    obtain ⟨s0, s1, s2, s3, s4, s5, s6⟩ := sBox_cells CH16.out.lo.bs
    obtain ⟨t0, t1, t2, t3, t4, t5, t6⟩ := sBox_cells CH16.out.bt
    go_wp2_with fail
    refine (SS.out _ CH16.out.lo.stt CH16.out.st).mono ?_
    rintro e w17 ⟨rfl, hB⟩
    have CH17 := Lib.hid (CH16.out.next hB)
    clear hB CH16 SS s0 s1 s2 s3 s4 s5 s6 t0 t1 t2 t3 t4 t5 t6
    go_wp2_with fail
    refine (AW.out _ (HPow.out.below CH17.out.lo.low)).mono ?_
    rintro e w18 ⟨rfl, hB⟩
    have HF := Lib.hid (below_after hB (Nat.le_refl _) CH17.out.lo.low)
    clear hB CH17
    go_wp2
    go_ret
    exact ⟨rfl, HF.out⟩
end Go.Proofs.YtnngdcidopaabaaGreatDoor
