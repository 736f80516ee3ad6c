/- keep: Product of valid games. -/
import Derived.Test.YtalngalikblgkaaKpZ
import Derived.Laws.ResultCell

set_option linter.unusedSimpArgs false
set_option linter.unusedVariables false
namespace Go.Proofs.Ytalngalikblgkaa
open Go.RowKit

set_option maxRecDepth 100000 in
set_option maxHeartbeats 2000000 in
/-- A product that is not too large. -/
theorem Product_ok (aN bN : Option Addr) (ann anc agc bnn bnc bgc ab ao bb bo : Nat) (a b : Gm) (w : World) (hia : GmIn w w.heap.size ⟨aN, some ⟨ab, ao, none⟩, ann, anc, a.S, agc⟩ a) (hib : GmIn w w.heap.size ⟨bN, some ⟨bb, bo, none⟩, bnn, bnc, b.S, bgc⟩ b) (oa : GmOk a) (ob : GmOk b) (hfit : a.S * b.S ≤ 400 ∧ a.C * b.C ≤ 16 ∧ a.H * b.H ≤ 16) :
    Calls Try.prog 13 #[.agg #[.int .i64 (a.S : Int), .int .i64 (a.C : Int), .int .i64 (a.H : Int), .slice aN ann anc, .slice (some ⟨ab, ao, none⟩) a.S agc], .agg #[.int .i64 (b.S : Int), .int .i64 (b.C : Int), .int .i64 (b.H : Int), .slice bN bnn bnc, .slice (some ⟨bb, bo, none⟩) b.S bgc]] w fun e w' => ∃ A n c A2 c2, e = .returned (.tuple #[.agg #[.int .i64 ((a.S * b.S : Nat) : Int), .int .i64 ((a.C * b.C : Nat) : Int), .int .i64 ((a.H * b.H : Nat) : Int), .slice A n c, .slice A2 (a.S * b.S) c2], .int .i64 0]) ∧ GmIn w' w'.heap.size ⟨A, A2, n, c, a.S * b.S, c2⟩ (prodG a b) ∧ Below w.heap.size w w' := by
  have hfit0 := Lib.hid hfit
  have KCA := Lib.hid (fun W (h : Below w.heap.size w W) => check_ok aN (some ⟨ab, ao, none⟩) ann anc a.S agc a W (hia.next' h) oa)
  have KCB := Lib.hid (fun W (h : Below w.heap.size w W) => check_ok bN (some ⟨bb, bo, none⟩) bnn bnc b.S bgc b W (hib.next' h) ob)
  have KZ := Lib.hid (fun W => sizes_any a.S a.C a.H b.S b.C b.H (.slice aN ann anc) (.slice (some ⟨ab, ao, none⟩) a.S agc) (.slice bN bnn bnc) (.slice (some ⟨bb, bo, none⟩) b.S bgc) W ⟨oa.s1, ob.s1, oa.c1, ob.c1, oa.h1, ob.h1⟩)
  obtain ⟨p, hp⟩ : ∃ z, z = a.S * b.S := ⟨_, rfl⟩
  obtain ⟨q, hq⟩ : ∃ z, z = a.C * b.C := ⟨_, rfl⟩
  obtain ⟨r, hr⟩ : ∃ z, z = a.H * b.H := ⟨_, rfl⟩
  have p0 : 1 ≤ p := by rw [hp]; exact Nat.mul_pos oa.s0 ob.s0
  have q0 : 1 ≤ q := by rw [hq]; exact Nat.mul_pos oa.c0 ob.c0
  have r0 : 1 ≤ r := by rw [hr]; exact Nat.mul_pos oa.h0 ob.h0
  rw [← hp, ← hq, ← hr] at KZ
  rw [← hp, ← hq, ← hr] at hfit
  have KF := Lib.hid (fun W => fits_any p q r (.slice none 0 0) (.slice none 0 0) W)
  rw [inB_yes (show (1 : Int) ≤ (p : Int) ∧ (p : Int) ≤ 400 by omega), inB_yes (show (1 : Int) ≤ (q : Int) ∧ (q : Int) ≤ 16 by omega), inB_yes (show (1 : Int) ≤ (r : Int) ∧ (r : Int) ≤ 16 by omega)] at KF
  simp only [Bool.and_self] at KF
  clear hfit p0 q0 r0
  have HPQ := Lib.hid (And.intro hp (And.intro hq hr))
  have HIA := Lib.hid hia
  have HIB := Lib.hid hib
  have HOA := Lib.hid oa
  have HOB := Lib.hid ob
  clear hia hib oa ob hp hq hr
  go_enter Try.func13, Try.ntmps13
  go_wp2_with fail
  obtain ⟨ax, hax⟩ : ∃ z, z = w.heap.size := ⟨_, rfl⟩
  obtain ⟨bx, hbx⟩ : ∃ z, z = ax + 1 := ⟨_, rfl⟩
  obtain ⟨rx, hrx⟩ : ∃ z, z = ax + 1 + 1 := ⟨_, rfl⟩
  obtain ⟨w1, hw1⟩ : ∃ z, z = ((w.alloc (.cells #[.int .i64 (a.S : Int), .int .i64 (a.C : Int), .int .i64 (a.H : Int), .slice aN ann anc, .slice (some ⟨ab, ao, none⟩) a.S agc] 25)).alloc (.cells #[.int .i64 (b.S : Int), .int .i64 (b.C : Int), .int .i64 (b.H : Int), .slice bN bnn bnc, .slice (some ⟨bb, bo, none⟩) b.S bgc] 25)).alloc (.cells #[.int .i64 0, .int .i64 0, .int .i64 0, .slice none 0 0, .slice none 0 0] 25) := ⟨_, rfl⟩
  have hl1 : Below w.heap.size w w1 := by rw [hw1]; (repeat' (first | (with_reducible exact Below.refl _ _) | (with_reducible assumption) | (with_reducible refine below_drewN ?_ _) | (with_reducible refine below_after (by assumption) ?_ ?_) | (with_reducible refine Below.drew ?_) | (with_reducible refine Below.alloc ?_ ?_ _) | (with_reducible refine Below.setCell ?_ ?_ _) | omega | (simp; omega) | (simp; done)))
  have ha1 : Blk w1 ax 25 #[.int .i64 (a.S : Int), .int .i64 (a.C : Int), .int .i64 (a.H : Int), .slice aN ann anc, .slice (some ⟨ab, ao, none⟩) a.S agc] := by rw [hw1, hax]; exact Blk.alloc (Blk.alloc (heap_alloc_new w _) _) _
  have hb1 : Blk w1 bx 25 #[.int .i64 (b.S : Int), .int .i64 (b.C : Int), .int .i64 (b.H : Int), .slice bN bnn bnc, .slice (some ⟨bb, bo, none⟩) b.S bgc] := by
    have e2 := heap_alloc_new (w.alloc (.cells #[.int .i64 (a.S : Int), .int .i64 (a.C : Int), .int .i64 (a.H : Int), .slice aN ann anc, .slice (some ⟨ab, ao, none⟩) a.S agc] 25)) (.cells #[.int .i64 (b.S : Int), .int .i64 (b.C : Int), .int .i64 (b.H : Int), .slice bN bnn bnc, .slice (some ⟨bb, bo, none⟩) b.S bgc] 25)
    simp only [World.size_alloc] at e2
    rw [hw1, hbx, hax]
    exact Blk.alloc e2 _
  have hr1 : Blk w1 rx 25 #[.int .i64 0, .int .i64 0, .int .i64 0, .slice none 0 0, .slice none 0 0] := by
    have e2 := heap_alloc_new ((w.alloc (.cells #[.int .i64 (a.S : Int), .int .i64 (a.C : Int), .int .i64 (a.H : Int), .slice aN ann anc, .slice (some ⟨ab, ao, none⟩) a.S agc] 25)).alloc (.cells #[.int .i64 (b.S : Int), .int .i64 (b.C : Int), .int .i64 (b.H : Int), .slice bN bnn bnc, .slice (some ⟨bb, bo, none⟩) b.S bgc] 25)) (.cells #[.int .i64 0, .int .i64 0, .int .i64 0, .slice none 0 0, .slice none 0 0] 25)
    simp only [World.size_alloc] at e2
    rw [hw1, hrx, hax]
    exact e2
  rw [← hw1, ← hax]
  rw [← hrx, ← hbx]
  have HZ : Hid (w.heap.size ≤ rx ∧ rx = w.heap.size + 2) := Lib.hid (by rw [hrx, hax]; omega)
  clear hw1 hax hbx hrx
  refine (KCA.out _ hl1).mono ?_
  rintro e w2 ⟨rfl, hB2⟩
  have ha2 := ha1.below hB2 ha1.lt
  have hb2 := hb1.below hB2 hb1.lt
  have hr2 := hr1.below hB2 hr1.lt
  have hl2 := below3 hl1 hB2 (Nat.le_refl _)
  have u0 := ha2.cell 0
  have v0 := hb2.cell 0
  have u1 := ha2.cell 1
  have v1 := hb2.cell 1
  have u2 := ha2.cell 2
  have v2 := hb2.cell 2
  have u3 := ha2.cell 3
  have v3 := hb2.cell 3
  have u4 := ha2.cell 4
  have v4 := hb2.cell 4
  simp only [List.getElem?_toArray, List.getElem?_cons_zero, List.getElem?_cons_succ] at u0 v0 u1 v1 u2 v2 u3 v3 u4 v4
  have zu := ha2.lt
  have zv := hb2.lt
  have H2 := Lib.hid (And.intro ha2 (And.intro hb2 (And.intro hr2 hl2)))
  clear hB2
  clear ha1 hb1 hr1 hl1 ha2 hb2 hr2 hl2
  go_wp2_with fail
  refine (KCB.out _ H2.out.2.2.2).mono ?_
  rintro e w3 ⟨rfl, hB3⟩
  have ha3 := H2.out.1.below hB3 H2.out.1.lt
  have hb3 := H2.out.2.1.below hB3 H2.out.2.1.lt
  have hr3 := H2.out.2.2.1.below hB3 H2.out.2.2.1.lt
  have hl3 := below3 H2.out.2.2.2 hB3 (Nat.le_refl _)
  clear u0 v0 u1 v1 u2 v2 u3 v3 u4 v4 zu zv
  have u0 := ha3.cell 0
  have v0 := hb3.cell 0
  have u1 := ha3.cell 1
  have v1 := hb3.cell 1
  have u2 := ha3.cell 2
  have v2 := hb3.cell 2
  have u3 := ha3.cell 3
  have v3 := hb3.cell 3
  have u4 := ha3.cell 4
  have v4 := hb3.cell 4
  simp only [List.getElem?_toArray, List.getElem?_cons_zero, List.getElem?_cons_succ] at u0 v0 u1 v1 u2 v2 u3 v3 u4 v4
  have zu := ha3.lt
  have zv := hb3.lt
  have H3 := Lib.hid (And.intro ha3 (And.intro hb3 (And.intro hr3 hl3)))
  clear hB3
  clear ha3 hb3 hr3 hl3
  go_wp2_with fail
  refine (KZ.out _).mono ?_
  rintro e w4 ⟨rfl, hB4⟩
  have ha4 := H3.out.1.below hB4 H3.out.1.lt
  have hb4 := H3.out.2.1.below hB4 H3.out.2.1.lt
  have hr4 := H3.out.2.2.1.below hB4 H3.out.2.2.1.lt
  have hl4 := below3 H3.out.2.2.2 hB4 (Nat.le_refl _)
  clear u0 v0 u1 v1 u2 v2 u3 v3 u4 v4 zu zv
  have u0 := ha4.cell 0
  have v0 := hb4.cell 0
  have u1 := ha4.cell 1
  have v1 := hb4.cell 1
  have u2 := ha4.cell 2
  have v2 := hb4.cell 2
  have u3 := ha4.cell 3
  have v3 := hb4.cell 3
  have u4 := ha4.cell 4
  have v4 := hb4.cell 4
  simp only [List.getElem?_toArray, List.getElem?_cons_zero, List.getElem?_cons_succ] at u0 v0 u1 v1 u2 v2 u3 v3 u4 v4
  have zu := ha4.lt
  have zv := hb4.lt
  have H4 := Lib.hid (And.intro ha4 (And.intro hb4 (And.intro hr4 hl4)))
  clear hB4
  clear ha4 hb4 hr4 hl4
  go_wp2_with fail
  refine (KF.out _).mono ?_
  rintro e w5 ⟨rfl, hB5⟩
  have ha5 := H4.out.1.below hB5 H4.out.1.lt
  have hb5 := H4.out.2.1.below hB5 H4.out.2.1.lt
  have hr5 := H4.out.2.2.1.below hB5 H4.out.2.2.1.lt
  have hl5 := below3 H4.out.2.2.2 hB5 (Nat.le_refl _)
  clear u0 v0 u1 v1 u2 v2 u3 v3 u4 v4 zu zv
  have u0 := ha5.cell 0
  have v0 := hb5.cell 0
  have u1 := ha5.cell 1
  have v1 := hb5.cell 1
  have u2 := ha5.cell 2
  have v2 := hb5.cell 2
  have u3 := ha5.cell 3
  have v3 := hb5.cell 3
  have u4 := ha5.cell 4
  have v4 := hb5.cell 4
  simp only [List.getElem?_toArray, List.getElem?_cons_zero, List.getElem?_cons_succ] at u0 v0 u1 v1 u2 v2 u3 v3 u4 v4
  have zu := ha5.lt
  have zv := hb5.lt
  have H5 := Lib.hid (And.intro ha5 (And.intro hb5 (And.intro hr5 hl5)))
  clear hB5
  clear ha5 hb5 hr5 hl5
  have hr5 := H5.out.2.2.1
  have hl5 := H5.out.2.2.2
  have hz5 := hr5.lt
  have KP := Lib.hid (product_any aN bN ann anc agc bnn bnc bgc ab ao bb bo a b w5 (HIA.out.next' hl5) (HIB.out.next' hl5) HOA.out HOB.out hfit0.out.1 hfit0.out.2.1 hfit0.out.2.2)
  rw [← HPQ.out.1, ← HPQ.out.2.1, ← HPQ.out.2.2] at KP
  clear hr5 hl5
  go_wp2_with fail
  refine KP.out.mono ?_
  rintro e w6 ⟨A, n, c, A2, c2, rfl, hnb, hB6⟩
  have hr6 := H5.out.2.2.1.below hB6 H5.out.2.2.1.lt
  have d0 := hr6.cell 0
  have d1 := hr6.cell 1
  have d2 := hr6.cell 2
  have d3 := hr6.cell 3
  have d4 := hr6.cell 4
  simp only [List.getElem?_toArray, List.getElem?_cons_zero, List.getElem?_cons_succ] at d0 d1 d2 d3 d4
  have zr := hr6.lt
  have fr := hr6.frozen
  obtain ⟨W', hW'⟩ : ∃ z, z = (((((w6.setCell ⟨rx, 0, none⟩ (.int .i64 (p : Int))).setCell ⟨rx, 1, none⟩ (.int .i64 (q : Int))).setCell ⟨rx, 2, none⟩ (.int .i64 (r : Int))).setCell ⟨rx, 3, none⟩ (.slice A n c)).setCell ⟨rx, 4, none⟩ (.slice A2 p c2)) := ⟨_, rfl⟩
  have hkk : Keep (fun b => b = rx) w6 W' := by rw [hW']; exact ((((((Keep.refl (fun b => b = rx) w6).setCell rfl _).setCell rfl _).setCell rfl _).setCell rfl _).setCell rfl _)
  have hrow : Blk W' rx 25 #[.int .i64 (p : Int), .int .i64 (q : Int), .int .i64 (r : Int), .slice A n c, .slice A2 p c2] := by
    have h := (((((hr6.set_ 0 (.int .i64 (p : Int))).set_ 1 (.int .i64 (q : Int))).set_ 2 (.int .i64 (r : Int))).set_ 3 (.slice A n c)).set_ 4 (.slice A2 p c2))
    rw [hW']
    simpa using h
  have e0 := hrow.cell 0
  have e1 := hrow.cell 1
  have e2 := hrow.cell 2
  have e3 := hrow.cell 3
  have e4 := hrow.cell 4
  simp only [List.getElem?_toArray, List.getElem?_cons_zero, List.getElem?_cons_succ] at e0 e1 e2 e3 e4
  have HFIN : Hid (GmIn W' W'.heap.size ⟨A, A2, n, c, p, c2⟩ (prodG a b) ∧ Below w.heap.size w W') := Lib.hid ⟨hnb W' rx hkk hz5, (below3 H5.out.2.2.2 hB6 (Nat.le_refl _)).trans (hkk.below (by have := H5.out.2.2.2.size; have := hB6.size; omega) (fun b e => by rw [e]; exact HZ.out.1))⟩
  have HE := Lib.hid (And.intro e0 (And.intro e1 (And.intro e2 (And.intro e3 e4))))
  clear hnb hB6 hr6 hkk hrow e0 e1 e2 e3 e4
  go_wp2
  rw [← hW']
  obtain ⟨e0, e1, e2, e3, e4⟩ := HE.out
  rw [← HPQ.out.1, ← HPQ.out.2.1, ← HPQ.out.2.2]
  refine bodyPost_ret (v := .tuple #[.agg #[.int .i64 (p : Int), .int .i64 (q : Int), .int .i64 (r : Int), .slice A n c, .slice A2 p c2], .int .i64 0]) ?_ rfl ?_
  · simp [results, Try.results13, go_sem, e0, e1, e2, e3, e4]
  · exact ⟨A, n, c, A2, c2, rfl, HFIN.out⟩
set_option maxRecDepth 100000 in
set_option maxHeartbeats 2000000 in
/-- A product that is too large. -/
theorem Product_many (aN bN : Option Addr) (ann anc agc bnn bnc bgc ab ao bb bo : Nat) (a b : Gm) (w : World) (hia : GmIn w w.heap.size ⟨aN, some ⟨ab, ao, none⟩, ann, anc, a.S, agc⟩ a) (hib : GmIn w w.heap.size ⟨bN, some ⟨bb, bo, none⟩, bnn, bnc, b.S, bgc⟩ b) (oa : GmOk a) (ob : GmOk b) (hfit : ¬ (a.S * b.S ≤ 400 ∧ a.C * b.C ≤ 16 ∧ a.H * b.H ≤ 16)) :
    Calls Try.prog 13 #[.agg #[.int .i64 (a.S : Int), .int .i64 (a.C : Int), .int .i64 (a.H : Int), .slice aN ann anc, .slice (some ⟨ab, ao, none⟩) a.S agc], .agg #[.int .i64 (b.S : Int), .int .i64 (b.C : Int), .int .i64 (b.H : Int), .slice bN bnn bnc, .slice (some ⟨bb, bo, none⟩) b.S bgc]] w fun e w' => e = .returned (.tuple #[.agg #[.int .i64 0, .int .i64 0, .int .i64 0, .slice none 0 0, .slice none 0 0], .int .i64 2]) ∧ Below w.heap.size w w' := by
  have KCA := Lib.hid (fun W (h : Below w.heap.size w W) => check_ok aN (some ⟨ab, ao, none⟩) ann anc a.S agc a W (hia.next' h) oa)
  have KCB := Lib.hid (fun W (h : Below w.heap.size w W) => check_ok bN (some ⟨bb, bo, none⟩) bnn bnc b.S bgc b W (hib.next' h) ob)
  have KZ := Lib.hid (fun W => sizes_any a.S a.C a.H b.S b.C b.H (.slice aN ann anc) (.slice (some ⟨ab, ao, none⟩) a.S agc) (.slice bN bnn bnc) (.slice (some ⟨bb, bo, none⟩) b.S bgc) W ⟨oa.s1, ob.s1, oa.c1, ob.c1, oa.h1, ob.h1⟩)
  obtain ⟨p, hp⟩ : ∃ z, z = a.S * b.S := ⟨_, rfl⟩
  obtain ⟨q, hq⟩ : ∃ z, z = a.C * b.C := ⟨_, rfl⟩
  obtain ⟨r, hr⟩ : ∃ z, z = a.H * b.H := ⟨_, rfl⟩
  have p0 : 1 ≤ p := by rw [hp]; exact Nat.mul_pos oa.s0 ob.s0
  have q0 : 1 ≤ q := by rw [hq]; exact Nat.mul_pos oa.c0 ob.c0
  have r0 : 1 ≤ r := by rw [hr]; exact Nat.mul_pos oa.h0 ob.h0
  rw [← hp, ← hq, ← hr] at KZ
  rw [← hp, ← hq, ← hr] at hfit
  have KF := Lib.hid (fun W => fits_any p q r (.slice none 0 0) (.slice none 0 0) W)
  have hf : (inB 1 (p : Int) 400 && inB 1 (q : Int) 16 && inB 1 (r : Int) 16) = false := by
    rw [Bool.eq_false_iff]
    intro h
    simp only [Bool.and_eq_true, inB_iff] at h
    omega
  rw [hf] at KF
  clear hfit p0 q0 r0 hf
  have HPQ := Lib.hid (And.intro hp (And.intro hq hr))
  have HIA := Lib.hid hia
  have HIB := Lib.hid hib
  have HOA := Lib.hid oa
  have HOB := Lib.hid ob
  clear hia hib oa ob hp hq hr
  go_enter Try.func13, Try.ntmps13
  go_wp2_with fail
  obtain ⟨ax, hax⟩ : ∃ z, z = w.heap.size := ⟨_, rfl⟩
  obtain ⟨bx, hbx⟩ : ∃ z, z = ax + 1 := ⟨_, rfl⟩
  obtain ⟨rx, hrx⟩ : ∃ z, z = ax + 1 + 1 := ⟨_, rfl⟩
  obtain ⟨w1, hw1⟩ : ∃ z, z = ((w.alloc (.cells #[.int .i64 (a.S : Int), .int .i64 (a.C : Int), .int .i64 (a.H : Int), .slice aN ann anc, .slice (some ⟨ab, ao, none⟩) a.S agc] 25)).alloc (.cells #[.int .i64 (b.S : Int), .int .i64 (b.C : Int), .int .i64 (b.H : Int), .slice bN bnn bnc, .slice (some ⟨bb, bo, none⟩) b.S bgc] 25)).alloc (.cells #[.int .i64 0, .int .i64 0, .int .i64 0, .slice none 0 0, .slice none 0 0] 25) := ⟨_, rfl⟩
  have hl1 : Below w.heap.size w w1 := by rw [hw1]; (repeat' (first | (with_reducible exact Below.refl _ _) | (with_reducible assumption) | (with_reducible refine below_drewN ?_ _) | (with_reducible refine below_after (by assumption) ?_ ?_) | (with_reducible refine Below.drew ?_) | (with_reducible refine Below.alloc ?_ ?_ _) | (with_reducible refine Below.setCell ?_ ?_ _) | omega | (simp; omega) | (simp; done)))
  have ha1 : Blk w1 ax 25 #[.int .i64 (a.S : Int), .int .i64 (a.C : Int), .int .i64 (a.H : Int), .slice aN ann anc, .slice (some ⟨ab, ao, none⟩) a.S agc] := by rw [hw1, hax]; exact Blk.alloc (Blk.alloc (heap_alloc_new w _) _) _
  have hb1 : Blk w1 bx 25 #[.int .i64 (b.S : Int), .int .i64 (b.C : Int), .int .i64 (b.H : Int), .slice bN bnn bnc, .slice (some ⟨bb, bo, none⟩) b.S bgc] := by
    have e2 := heap_alloc_new (w.alloc (.cells #[.int .i64 (a.S : Int), .int .i64 (a.C : Int), .int .i64 (a.H : Int), .slice aN ann anc, .slice (some ⟨ab, ao, none⟩) a.S agc] 25)) (.cells #[.int .i64 (b.S : Int), .int .i64 (b.C : Int), .int .i64 (b.H : Int), .slice bN bnn bnc, .slice (some ⟨bb, bo, none⟩) b.S bgc] 25)
    simp only [World.size_alloc] at e2
    rw [hw1, hbx, hax]
    exact Blk.alloc e2 _
  have hr1 : Blk w1 rx 25 #[.int .i64 0, .int .i64 0, .int .i64 0, .slice none 0 0, .slice none 0 0] := by
    have e2 := heap_alloc_new ((w.alloc (.cells #[.int .i64 (a.S : Int), .int .i64 (a.C : Int), .int .i64 (a.H : Int), .slice aN ann anc, .slice (some ⟨ab, ao, none⟩) a.S agc] 25)).alloc (.cells #[.int .i64 (b.S : Int), .int .i64 (b.C : Int), .int .i64 (b.H : Int), .slice bN bnn bnc, .slice (some ⟨bb, bo, none⟩) b.S bgc] 25)) (.cells #[.int .i64 0, .int .i64 0, .int .i64 0, .slice none 0 0, .slice none 0 0] 25)
    simp only [World.size_alloc] at e2
    rw [hw1, hrx, hax]
    exact e2
  rw [← hw1, ← hax]
  rw [← hrx, ← hbx]
  have HZ : Hid (w.heap.size ≤ rx ∧ rx = w.heap.size + 2) := Lib.hid (by rw [hrx, hax]; omega)
  clear hw1 hax hbx hrx
  refine (KCA.out _ hl1).mono ?_
  rintro e w2 ⟨rfl, hB2⟩
  have ha2 := ha1.below hB2 ha1.lt
  have hb2 := hb1.below hB2 hb1.lt
  have hr2 := hr1.below hB2 hr1.lt
  have hl2 := below3 hl1 hB2 (Nat.le_refl _)
  have u0 := ha2.cell 0
  have v0 := hb2.cell 0
  have u1 := ha2.cell 1
  have v1 := hb2.cell 1
  have u2 := ha2.cell 2
  have v2 := hb2.cell 2
  have u3 := ha2.cell 3
  have v3 := hb2.cell 3
  have u4 := ha2.cell 4
  have v4 := hb2.cell 4
  simp only [List.getElem?_toArray, List.getElem?_cons_zero, List.getElem?_cons_succ] at u0 v0 u1 v1 u2 v2 u3 v3 u4 v4
  have zu := ha2.lt
  have zv := hb2.lt
  have H2 := Lib.hid (And.intro ha2 (And.intro hb2 (And.intro hr2 hl2)))
  clear hB2
  clear ha1 hb1 hr1 hl1 ha2 hb2 hr2 hl2
  go_wp2_with fail
  refine (KCB.out _ H2.out.2.2.2).mono ?_
  rintro e w3 ⟨rfl, hB3⟩
  have ha3 := H2.out.1.below hB3 H2.out.1.lt
  have hb3 := H2.out.2.1.below hB3 H2.out.2.1.lt
  have hr3 := H2.out.2.2.1.below hB3 H2.out.2.2.1.lt
  have hl3 := below3 H2.out.2.2.2 hB3 (Nat.le_refl _)
  clear u0 v0 u1 v1 u2 v2 u3 v3 u4 v4 zu zv
  have u0 := ha3.cell 0
  have v0 := hb3.cell 0
  have u1 := ha3.cell 1
  have v1 := hb3.cell 1
  have u2 := ha3.cell 2
  have v2 := hb3.cell 2
  have u3 := ha3.cell 3
  have v3 := hb3.cell 3
  have u4 := ha3.cell 4
  have v4 := hb3.cell 4
  simp only [List.getElem?_toArray, List.getElem?_cons_zero, List.getElem?_cons_succ] at u0 v0 u1 v1 u2 v2 u3 v3 u4 v4
  have zu := ha3.lt
  have zv := hb3.lt
  have H3 := Lib.hid (And.intro ha3 (And.intro hb3 (And.intro hr3 hl3)))
  clear hB3
  clear ha3 hb3 hr3 hl3
  go_wp2_with fail
  refine (KZ.out _).mono ?_
  rintro e w4 ⟨rfl, hB4⟩
  have ha4 := H3.out.1.below hB4 H3.out.1.lt
  have hb4 := H3.out.2.1.below hB4 H3.out.2.1.lt
  have hr4 := H3.out.2.2.1.below hB4 H3.out.2.2.1.lt
  have hl4 := below3 H3.out.2.2.2 hB4 (Nat.le_refl _)
  clear u0 v0 u1 v1 u2 v2 u3 v3 u4 v4 zu zv
  have u0 := ha4.cell 0
  have v0 := hb4.cell 0
  have u1 := ha4.cell 1
  have v1 := hb4.cell 1
  have u2 := ha4.cell 2
  have v2 := hb4.cell 2
  have u3 := ha4.cell 3
  have v3 := hb4.cell 3
  have u4 := ha4.cell 4
  have v4 := hb4.cell 4
  simp only [List.getElem?_toArray, List.getElem?_cons_zero, List.getElem?_cons_succ] at u0 v0 u1 v1 u2 v2 u3 v3 u4 v4
  have zu := ha4.lt
  have zv := hb4.lt
  have H4 := Lib.hid (And.intro ha4 (And.intro hb4 (And.intro hr4 hl4)))
  clear hB4
  clear ha4 hb4 hr4 hl4
  go_wp2_with fail
  refine (KF.out _).mono ?_
  rintro e w5 ⟨rfl, hB5⟩
  have ha5 := H4.out.1.below hB5 H4.out.1.lt
  have hb5 := H4.out.2.1.below hB5 H4.out.2.1.lt
  have hr5 := H4.out.2.2.1.below hB5 H4.out.2.2.1.lt
  have hl5 := below3 H4.out.2.2.2 hB5 (Nat.le_refl _)
  clear u0 v0 u1 v1 u2 v2 u3 v3 u4 v4 zu zv
  have u0 := ha5.cell 0
  have v0 := hb5.cell 0
  have u1 := ha5.cell 1
  have v1 := hb5.cell 1
  have u2 := ha5.cell 2
  have v2 := hb5.cell 2
  have u3 := ha5.cell 3
  have v3 := hb5.cell 3
  have u4 := ha5.cell 4
  have v4 := hb5.cell 4
  simp only [List.getElem?_toArray, List.getElem?_cons_zero, List.getElem?_cons_succ] at u0 v0 u1 v1 u2 v2 u3 v3 u4 v4
  have zu := ha5.lt
  have zv := hb5.lt
  have H5 := Lib.hid (And.intro ha5 (And.intro hb5 (And.intro hr5 hl5)))
  clear hB5
  clear ha5 hb5 hr5 hl5
  have hr5 := H5.out.2.2.1
  have hl5 := H5.out.2.2.2
  have d0 := hr5.cell 0
  have d1 := hr5.cell 1
  have d2 := hr5.cell 2
  have d3 := hr5.cell 3
  have d4 := hr5.cell 4
  simp only [List.getElem?_toArray, List.getElem?_cons_zero, List.getElem?_cons_succ] at d0 d1 d2 d3 d4
  have zr := hr5.lt
  have fr := hr5.frozen
  obtain ⟨W', hW'⟩ : ∃ z, z = (((((w5.setCell ⟨rx, 0, none⟩ (.int .i64 0)).setCell ⟨rx, 1, none⟩ (.int .i64 0)).setCell ⟨rx, 2, none⟩ (.int .i64 0)).setCell ⟨rx, 3, none⟩ (.slice none 0 0)).setCell ⟨rx, 4, none⟩ (.slice none 0 0)) := ⟨_, rfl⟩
  have hkk : Keep (fun b => b = rx) w5 W' := by rw [hW']; exact ((((((Keep.refl (fun b => b = rx) w5).setCell rfl _).setCell rfl _).setCell rfl _).setCell rfl _).setCell rfl _)
  have hrow : Blk W' rx 25 #[.int .i64 0, .int .i64 0, .int .i64 0, .slice none 0 0, .slice none 0 0] := by
    have h := (((((hr5.set_ 0 (.int .i64 0)).set_ 1 (.int .i64 0)).set_ 2 (.int .i64 0)).set_ 3 (.slice none 0 0)).set_ 4 (.slice none 0 0))
    rw [hW']
    simpa using h
  have e0 := hrow.cell 0
  have e1 := hrow.cell 1
  have e2 := hrow.cell 2
  have e3 := hrow.cell 3
  have e4 := hrow.cell 4
  simp only [List.getElem?_toArray, List.getElem?_cons_zero, List.getElem?_cons_succ] at e0 e1 e2 e3 e4
  have HFIN : Hid (Below w.heap.size w W') := Lib.hid (hl5.trans (hkk.below (by have := hl5.size; omega) (fun b e => by rw [e]; exact HZ.out.1)))
  have HE := Lib.hid (And.intro e0 (And.intro e1 (And.intro e2 (And.intro e3 e4))))
  clear hr5 hl5 hkk hrow e0 e1 e2 e3 e4
  go_wp2
  rw [← hW']
  obtain ⟨e0, e1, e2, e3, e4⟩ := HE.out
  refine bodyPost_ret (v := .tuple #[.agg #[.int .i64 0, .int .i64 0, .int .i64 0, .slice none 0 0, .slice none 0 0], .int .i64 2]) ?_ rfl ?_
  · simp [results, Try.results13, go_sem, e0, e1, e2, e3, e4]
  · exact ⟨rfl, HFIN.out⟩
end Go.Proofs.Ytalngalikblgkaa
