/- keep: Without of a valid game. -/
import Derived.Test.YtalngalikblgkaaKpW
import Derived.Laws.ResultCell

set_option linter.unusedSimpArgs false
set_option linter.unusedVariables false
namespace Go.Proofs.Ytalngalikblgkaa
open Go.RowKit

/-- As without_any; and what is written elsewhere later keeps the game. -/
theorem without_base (nA gA : Option Addr) (nn nc gc : Nat) (g : Gm) (u : Nat) (w : World) (hin : GmIn w w.heap.size ⟨nA, gA, nn, nc, g.S, gc⟩ g) (ok : GmOk g) (hu : u < g.C) :
    Calls Try.prog 46 #[.agg #[.int .i64 (g.S : Int), .int .i64 (g.C : Int), .int .i64 (g.H : Int), .slice nA nn nc, .slice gA g.S gc], .int .i64 (u : Int)] w fun e w' => ∃ A n c ib ic, e = .returned (.agg #[.int .i64 (g.S : Int), .int .i64 ((g.C : Int) - 1), .int .i64 (g.H : Int), .slice A n c, .slice (some ⟨ib, 0, none⟩) g.S ic]) ∧ GmIn w' w'.heap.size ⟨A, some ⟨ib, 0, none⟩, n, c, g.S, ic⟩ (lessG g u) ∧ (∀ W' (Sx : Nat → Prop), Keep Sx w' W' → (∀ b, Sx b → b < w.heap.size) → GmIn W' W'.heap.size ⟨A, some ⟨ib, 0, none⟩, n, c, g.S, ic⟩ (lessG g u)) ∧ (∀ W' rx, Keep (fun b => b = rx) w' W' → rx < w.heap.size → GmIn W' W'.heap.size ⟨A, some ⟨ib, 0, none⟩, n, c, g.S, ic⟩ (lessG g u)) ∧ Below w.heap.size w w' :=
  (without_any nA gA nn nc gc g u w hin ok hu).mono (fun e w' ⟨A, n, c, ib, ic, h1, h2, h3, h4⟩ => ⟨A, n, c, ib, ic, h1, h2, h3, fun W' rx hk hr => h3 W' (fun b => b = rx) hk (fun b e => by rw [e]; exact hr), h4⟩)
set_option maxRecDepth 100000 in
set_option maxHeartbeats 2000000 in
/-- A control less. -/
theorem Without_keep (nA gA : Option Addr) (nn nc gc : Nat) (g : Gm) (u : Nat) (w : World) (hin : GmIn w w.heap.size ⟨nA, gA, nn, nc, g.S, gc⟩ g) (ok : GmOk g) (hu : u < g.C) (h2 : 2 ≤ g.C) :
    Calls Try.prog 16 #[.agg #[.int .i64 (g.S : Int), .int .i64 (g.C : Int), .int .i64 (g.H : Int), .slice nA nn nc, .slice gA g.S gc], .int .i64 (u : Int)] w fun e w' => ∃ A n c ib ic, e = .returned (.tuple #[.agg #[.int .i64 (g.S : Int), .int .i64 ((g.C : Int) - 1), .int .i64 (g.H : Int), .slice A n c, .slice (some ⟨ib, 0, none⟩) g.S ic], .int .i64 0]) ∧ GmIn w' w'.heap.size ⟨A, some ⟨ib, 0, none⟩, n, c, g.S, ic⟩ (lessG g u) ∧ (∀ W' (Sx : Nat → Prop), Keep Sx w' W' → (∀ b, Sx b → b < w.heap.size) → GmIn W' W'.heap.size ⟨A, some ⟨ib, 0, none⟩, n, c, g.S, ic⟩ (lessG g u)) ∧ Below w.heap.size w w' := by
  have KC := Lib.hid (fun W (h : Below w.heap.size w W) => check_ok nA gA nn nc g.S gc g W (hin.next' h) ok)
  have hc1 := ok.c1
  have KH := Lib.hid (fun W => hasControl_any g.S g.C g.H (u : Int) (.slice nA nn nc) (.slice gA g.S gc) W (by omega) (by omega))
  rw [inB_yes (show (0 : Int) ≤ (u : Int) ∧ (u : Int) ≤ (g.C : Int) - 1 by omega)] at KH
  have HIN := Lib.hid hin
  have HOK := Lib.hid ok
  clear hin ok
  go_enter Try.func16, Try.ntmps16
  go_wp2_with fail
  obtain ⟨gx, hgx⟩ : ∃ z, z = w.heap.size := ⟨_, rfl⟩
  obtain ⟨rx, hrx⟩ : ∃ z, z = gx + 1 := ⟨_, rfl⟩
  obtain ⟨w1, hw1⟩ : ∃ z, z = (w.alloc (.cells #[.int .i64 (g.S : Int), .int .i64 (g.C : Int), .int .i64 (g.H : Int), .slice nA nn nc, .slice gA g.S gc] 25)).alloc (.cells #[.int .i64 0, .int .i64 0, .int .i64 0, .slice none 0 0, .slice none 0 0] 25) := ⟨_, rfl⟩
  have hl1 : Below w.heap.size w w1 := by rw [hw1]; (repeat' (first | (with_reducible exact Below.refl _ _) | (with_reducible assumption) | (with_reducible refine below_drewN ?_ _) | (with_reducible refine below_after (by assumption) ?_ ?_) | (with_reducible refine Below.drew ?_) | (with_reducible refine Below.alloc ?_ ?_ _) | (with_reducible refine Below.setCell ?_ ?_ _) | omega | (simp; omega) | (simp; done)))
  have hg1 : Blk w1 gx 25 #[.int .i64 (g.S : Int), .int .i64 (g.C : Int), .int .i64 (g.H : Int), .slice nA nn nc, .slice gA g.S gc] := by rw [hw1, hgx]; exact Blk.alloc (heap_alloc_new w _) _
  have hr1 : Blk w1 rx 25 #[.int .i64 0, .int .i64 0, .int .i64 0, .slice none 0 0, .slice none 0 0] := by
    have e2 := heap_alloc_new (w.alloc (.cells #[.int .i64 (g.S : Int), .int .i64 (g.C : Int), .int .i64 (g.H : Int), .slice nA nn nc, .slice gA g.S gc] 25)) (.cells #[.int .i64 0, .int .i64 0, .int .i64 0, .slice none 0 0, .slice none 0 0] 25)
    simp only [World.size_alloc] at e2
    rw [hw1, hrx, hgx]
    exact e2
  have HZ : Hid (w.heap.size ≤ rx ∧ gx ≠ rx) := Lib.hid (by omega)
  rw [← hw1, ← hgx, ← hrx]
  clear hw1 hgx hrx
  refine (KC.out _ hl1).mono ?_
  rintro e w2 ⟨rfl, hB2⟩
  have hg2 := hg1.below hB2 hg1.lt
  have hr2 := hr1.below hB2 hr1.lt
  have hl2 := below3 hl1 hB2 (Nat.le_refl _)
  have c0 := hg2.cell 0
  have c1 := hg2.cell 1
  have c2 := hg2.cell 2
  have c3 := hg2.cell 3
  have c4 := hg2.cell 4
  simp only [List.getElem?_toArray, List.getElem?_cons_zero, List.getElem?_cons_succ] at c0 c1 c2 c3 c4
  have z2 := hg2.lt
  have H2 := Lib.hid (And.intro hg2 (And.intro hr2 hl2))
  clear hg1 hr1 hl1 hB2 hg2 hr2 hl2
  go_wp2_with fail
  refine (KH.out _).mono ?_
  rintro e w3 ⟨rfl, hB3⟩
  have hg3 := H2.out.1.below hB3 H2.out.1.lt
  have hr3 := H2.out.2.1.below hB3 H2.out.2.1.lt
  have hl3 := below3 H2.out.2.2 hB3 (Nat.le_refl _)
  clear c0 c1 c2 c3 c4 z2 H2
  have c0 := hg3.cell 0
  have c1 := hg3.cell 1
  have c2 := hg3.cell 2
  have c3 := hg3.cell 3
  have c4 := hg3.cell 4
  simp only [List.getElem?_toArray, List.getElem?_cons_zero, List.getElem?_cons_succ] at c0 c1 c2 c3 c4
  have z3 := hg3.lt
  have hC1 : ((g.C : Int) == 1) = false := by rw [beq_eq_false_iff_ne]; omega
  have H3 := Lib.hid (And.intro hr3 hl3)
  clear hB3 hg3 hr3 hl3
  go_wp2_with fail
  refine (without_base nA gA nn nc gc g u _ (HIN.out.next' H3.out.2) HOK.out hu).mono ?_
  rintro e w4 ⟨A, n, c, ib, ic, rfl, hgi, hib, hnb, hB4⟩
  have hr4 := H3.out.1.below hB4 H3.out.1.lt
  have hzr := H3.out.1.lt
  have d0 := hr4.cell 0
  have d1 := hr4.cell 1
  have d2 := hr4.cell 2
  have d3 := hr4.cell 3
  have d4 := hr4.cell 4
  simp only [List.getElem?_toArray, List.getElem?_cons_zero, List.getElem?_cons_succ] at d0 d1 d2 d3 d4
  have zr := hr4.lt
  have fr := hr4.frozen
  obtain ⟨W', hW'⟩ : ∃ z, z = (((((w4.setCell ⟨rx, 0, none⟩ (.int .i64 (g.S : Int))).setCell ⟨rx, 1, none⟩ (.int .i64 ((g.C : Int) - 1))).setCell ⟨rx, 2, none⟩ (.int .i64 (g.H : Int))).setCell ⟨rx, 3, none⟩ (.slice A n c)).setCell ⟨rx, 4, none⟩ (.slice (some ⟨ib, 0, none⟩) g.S ic)) := ⟨_, rfl⟩
  have hkk : Keep (fun b => b = rx) w4 W' := by rw [hW']; exact ((((((Keep.refl (fun b => b = rx) w4).setCell rfl _).setCell rfl _).setCell rfl _).setCell rfl _).setCell rfl _)
  have hrow : Blk W' rx 25 #[.int .i64 (g.S : Int), .int .i64 ((g.C : Int) - 1), .int .i64 (g.H : Int), .slice A n c, .slice (some ⟨ib, 0, none⟩) g.S ic] := by
    have h := (((((hr4.set_ 0 (.int .i64 (g.S : Int))).set_ 1 (.int .i64 ((g.C : Int) - 1))).set_ 2 (.int .i64 (g.H : Int))).set_ 3 (.slice A n c)).set_ 4 (.slice (some ⟨ib, 0, none⟩) g.S ic))
    rw [hW']
    simpa using h
  have e0 := hrow.cell 0
  have e1 := hrow.cell 1
  have e2 := hrow.cell 2
  have e3 := hrow.cell 3
  have e4 := hrow.cell 4
  simp only [List.getElem?_toArray, List.getElem?_cons_zero, List.getElem?_cons_succ] at e0 e1 e2 e3 e4
  have HFIN : Hid (GmIn W' W'.heap.size ⟨A, some ⟨ib, 0, none⟩, n, c, g.S, ic⟩ (lessG g u) ∧ (∀ W2 (Sx : Nat → Prop), Keep Sx W' W2 → (∀ b, Sx b → b < w.heap.size) → GmIn W2 W2.heap.size ⟨A, some ⟨ib, 0, none⟩, n, c, g.S, ic⟩ (lessG g u)) ∧ Below w.heap.size w W') := Lib.hid ⟨hnb W' rx hkk (by omega), fun W2 Sx hk2 hS2 => hib W2 (fun b => Sx b ∨ b = rx) ((hkk.mono (fun b e => Or.inr e)).trans (hk2.mono (fun b e => Or.inl e))) (fun b e => by have := H3.out.2.size; rcases e with e | e; have := hS2 b e; omega; omega), (below3 H3.out.2 hB4 (Nat.le_refl _)).trans (hkk.below (by have := H3.out.2.size; have := hB4.size; omega) (fun b e => by rw [e]; exact HZ.out.1))⟩
  have HE := Lib.hid (And.intro e0 (And.intro e1 (And.intro e2 (And.intro e3 e4))))
  clear hgi hnb hB4 hr4 hkk hrow e0 e1 e2 e3 e4
  go_wp2
  rw [← hW']
  obtain ⟨e0, e1, e2, e3, e4⟩ := HE.out
  refine bodyPost_ret (v := .tuple #[.agg #[.int .i64 (g.S : Int), .int .i64 ((g.C : Int) - 1), .int .i64 (g.H : Int), .slice A n c, .slice (some ⟨ib, 0, none⟩) g.S ic], .int .i64 0]) ?_ rfl ?_
  · simp [results, Try.results16, go_sem, e0, e1, e2, e3, e4]
  · exact ⟨A, n, c, ib, ic, rfl, HFIN.out⟩
/-- As Without_keep, and no more than is wanted mostly. -/
theorem Without_ok (nA gA : Option Addr) (nn nc gc : Nat) (g : Gm) (u : Nat) (w : World) (hin : GmIn w w.heap.size ⟨nA, gA, nn, nc, g.S, gc⟩ g) (ok : GmOk g) (hu : u < g.C) (h2 : 2 ≤ g.C) :
    Calls Try.prog 16 #[.agg #[.int .i64 (g.S : Int), .int .i64 (g.C : Int), .int .i64 (g.H : Int), .slice nA nn nc, .slice gA g.S gc], .int .i64 (u : Int)] w fun e w' => ∃ A n c ib ic, e = .returned (.tuple #[.agg #[.int .i64 (g.S : Int), .int .i64 ((g.C : Int) - 1), .int .i64 (g.H : Int), .slice A n c, .slice (some ⟨ib, 0, none⟩) g.S ic], .int .i64 0]) ∧ GmIn w' w'.heap.size ⟨A, some ⟨ib, 0, none⟩, n, c, g.S, ic⟩ (lessG g u) ∧ Below w.heap.size w w' :=
  (Without_keep nA gA nn nc gc g u w hin ok hu h2).mono (fun e w' ⟨A, n, c, ib, ic, h1, h2, _, h4⟩ => ⟨A, n, c, ib, ic, h1, h2, h4⟩)
set_option maxRecDepth 100000 in
set_option maxHeartbeats 2000000 in
/-- The last control stays. -/
theorem Without_one (nA gA : Option Addr) (nn nc gc : Nat) (g : Gm) (u : Nat) (w : World) (hin : GmIn w w.heap.size ⟨nA, gA, nn, nc, g.S, gc⟩ g) (ok : GmOk g) (hu : u < g.C) (h2 : g.C = 1) :
    Calls Try.prog 16 #[.agg #[.int .i64 (g.S : Int), .int .i64 (g.C : Int), .int .i64 (g.H : Int), .slice nA nn nc, .slice gA g.S gc], .int .i64 (u : Int)] w fun e w' => e = .returned (.tuple #[.agg #[.int .i64 0, .int .i64 0, .int .i64 0, .slice none 0 0, .slice none 0 0], .int .i64 2]) ∧ Below w.heap.size w w' := by
  have HC1 := Lib.hid h2
  clear h2
  have KC := Lib.hid (fun W (h : Below w.heap.size w W) => check_ok nA gA nn nc g.S gc g W (hin.next' h) ok)
  have hc1 := ok.c1
  have KH := Lib.hid (fun W => hasControl_any g.S g.C g.H (u : Int) (.slice nA nn nc) (.slice gA g.S gc) W (by omega) (by omega))
  rw [inB_yes (show (0 : Int) ≤ (u : Int) ∧ (u : Int) ≤ (g.C : Int) - 1 by omega)] at KH
  have HIN := Lib.hid hin
  have HOK := Lib.hid ok
  clear hin ok
  go_enter Try.func16, Try.ntmps16
  go_wp2_with fail
  obtain ⟨gx, hgx⟩ : ∃ z, z = w.heap.size := ⟨_, rfl⟩
  obtain ⟨rx, hrx⟩ : ∃ z, z = gx + 1 := ⟨_, rfl⟩
  obtain ⟨w1, hw1⟩ : ∃ z, z = (w.alloc (.cells #[.int .i64 (g.S : Int), .int .i64 (g.C : Int), .int .i64 (g.H : Int), .slice nA nn nc, .slice gA g.S gc] 25)).alloc (.cells #[.int .i64 0, .int .i64 0, .int .i64 0, .slice none 0 0, .slice none 0 0] 25) := ⟨_, rfl⟩
  have hl1 : Below w.heap.size w w1 := by rw [hw1]; (repeat' (first | (with_reducible exact Below.refl _ _) | (with_reducible assumption) | (with_reducible refine below_drewN ?_ _) | (with_reducible refine below_after (by assumption) ?_ ?_) | (with_reducible refine Below.drew ?_) | (with_reducible refine Below.alloc ?_ ?_ _) | (with_reducible refine Below.setCell ?_ ?_ _) | omega | (simp; omega) | (simp; done)))
  have hg1 : Blk w1 gx 25 #[.int .i64 (g.S : Int), .int .i64 (g.C : Int), .int .i64 (g.H : Int), .slice nA nn nc, .slice gA g.S gc] := by rw [hw1, hgx]; exact Blk.alloc (heap_alloc_new w _) _
  have hr1 : Blk w1 rx 25 #[.int .i64 0, .int .i64 0, .int .i64 0, .slice none 0 0, .slice none 0 0] := by
    have e2 := heap_alloc_new (w.alloc (.cells #[.int .i64 (g.S : Int), .int .i64 (g.C : Int), .int .i64 (g.H : Int), .slice nA nn nc, .slice gA g.S gc] 25)) (.cells #[.int .i64 0, .int .i64 0, .int .i64 0, .slice none 0 0, .slice none 0 0] 25)
    simp only [World.size_alloc] at e2
    rw [hw1, hrx, hgx]
    exact e2
  have HZ : Hid (w.heap.size ≤ rx ∧ gx ≠ rx) := Lib.hid (by omega)
  rw [← hw1, ← hgx, ← hrx]
  clear hw1 hgx hrx
  refine (KC.out _ hl1).mono ?_
  rintro e w2 ⟨rfl, hB2⟩
  have hg2 := hg1.below hB2 hg1.lt
  have hr2 := hr1.below hB2 hr1.lt
  have hl2 := below3 hl1 hB2 (Nat.le_refl _)
  have c0 := hg2.cell 0
  have c1 := hg2.cell 1
  have c2 := hg2.cell 2
  have c3 := hg2.cell 3
  have c4 := hg2.cell 4
  simp only [List.getElem?_toArray, List.getElem?_cons_zero, List.getElem?_cons_succ] at c0 c1 c2 c3 c4
  have z2 := hg2.lt
  have H2 := Lib.hid (And.intro hg2 (And.intro hr2 hl2))
  clear hg1 hr1 hl1 hB2 hg2 hr2 hl2
  go_wp2_with fail
  refine (KH.out _).mono ?_
  rintro e w3 ⟨rfl, hB3⟩
  have hg3 := H2.out.1.below hB3 H2.out.1.lt
  have hr3 := H2.out.2.1.below hB3 H2.out.2.1.lt
  have hl3 := below3 H2.out.2.2 hB3 (Nat.le_refl _)
  clear c0 c1 c2 c3 c4 z2 H2
  have c0 := hg3.cell 0
  have c1 := hg3.cell 1
  have c2 := hg3.cell 2
  have c3 := hg3.cell 3
  have c4 := hg3.cell 4
  simp only [List.getElem?_toArray, List.getElem?_cons_zero, List.getElem?_cons_succ] at c0 c1 c2 c3 c4
  have z3 := hg3.lt
  have hC1 : ((g.C : Int) == 1) = true := by have := HC1.out; rw [beq_iff_eq]; omega
  have d0 := hr3.cell 0
  have d1 := hr3.cell 1
  have d2 := hr3.cell 2
  have d3 := hr3.cell 3
  have d4 := hr3.cell 4
  simp only [List.getElem?_toArray, List.getElem?_cons_zero, List.getElem?_cons_succ] at d0 d1 d2 d3 d4
  have zr := hr3.lt
  have fr := hr3.frozen
  obtain ⟨W', hW'⟩ : ∃ z, z = (((((w3.setCell ⟨rx, 0, none⟩ (.int .i64 0)).setCell ⟨rx, 1, none⟩ (.int .i64 0)).setCell ⟨rx, 2, none⟩ (.int .i64 0)).setCell ⟨rx, 3, none⟩ (.slice none 0 0)).setCell ⟨rx, 4, none⟩ (.slice none 0 0)) := ⟨_, rfl⟩
  have hkk : Keep (fun b => b = rx) w3 W' := by rw [hW']; exact ((((((Keep.refl (fun b => b = rx) w3).setCell rfl _).setCell rfl _).setCell rfl _).setCell rfl _).setCell rfl _)
  have hrow : Blk W' rx 25 #[.int .i64 0, .int .i64 0, .int .i64 0, .slice none 0 0, .slice none 0 0] := by
    have h := (((((hr3.set_ 0 (.int .i64 0)).set_ 1 (.int .i64 0)).set_ 2 (.int .i64 0)).set_ 3 (.slice none 0 0)).set_ 4 (.slice none 0 0))
    rw [hW']
    simpa using h
  have e0 := hrow.cell 0
  have e1 := hrow.cell 1
  have e2 := hrow.cell 2
  have e3 := hrow.cell 3
  have e4 := hrow.cell 4
  simp only [List.getElem?_toArray, List.getElem?_cons_zero, List.getElem?_cons_succ] at e0 e1 e2 e3 e4
  have HFIN : Hid (Below w.heap.size w W') := Lib.hid (hl3.trans (hkk.below (by have := hl3.size; omega) (fun b e => by rw [e]; exact HZ.out.1)))
  have HE := Lib.hid (And.intro e0 (And.intro e1 (And.intro e2 (And.intro e3 e4))))
  clear hB3 hg3 hr3 hl3 hkk hrow e0 e1 e2 e3 e4
  go_wp2
  rw [← hW']
  obtain ⟨e0, e1, e2, e3, e4⟩ := HE.out
  refine bodyPost_ret (v := .tuple #[.agg #[.int .i64 0, .int .i64 0, .int .i64 0, .slice none 0 0, .slice none 0 0], .int .i64 2]) ?_ rfl ?_
  · simp [results, Try.results16, go_sem, e0, e1, e2, e3, e4]
  · exact ⟨rfl, HFIN.out⟩
end Go.Proofs.Ytalngalikblgkaa
