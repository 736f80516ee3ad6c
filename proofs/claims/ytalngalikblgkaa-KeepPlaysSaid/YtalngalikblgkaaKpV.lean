/- keep: Solve of a valid game. -/
import Derived.Test.YtalngalikblgkaaKpS
import Derived.Laws.ResultCell

set_option linter.unusedSimpArgs false
set_option linter.unusedVariables false
namespace Go.Proofs.Ytalngalikblgkaa
open Go.RowKit

set_option maxRecDepth 100000 in
set_option maxHeartbeats 2000000 in
theorem Solve_any (nA gA : Option Addr) (nn nc gc : Nat) (g : Gm) (w : World) (hin : GmIn w w.heap.size ⟨nA, gA, nn, nc, g.S, gc⟩ g) (ok : GmOk g) :
    Calls Try.prog 20 #[.agg #[.int .i64 (g.S : Int), .int .i64 (g.C : Int), .int .i64 (g.H : Int), .slice nA nn nc, .slice gA g.S gc]] w fun e w' => ∃ ib ic cb rb k, e = .returned (.tuple #[.agg #[.slice (some ⟨ib, 0, none⟩) g.S ic, .slice (some ⟨cb, 0, none⟩) g.S g.S, .slice (some ⟨rb, 0, none⟩) g.S g.S], .int .i64 0]) ∧ Solved g k ∧ SRows w.heap.size w' (itR g k).1 (ctL g (itR g k).1) (itR g k).2 ib cb rb ∧ Below w.heap.size w w' := by
  have KC := Lib.hid (fun W (h : Below w.heap.size w W) => check_ok nA gA nn nc g.S gc g W (hin.next' h) ok)
  have KS := Lib.hid (fun W (h : Below w.heap.size w W) => solve_any nA gA nn nc gc g W (hin.next' h) ok)
  have HLN : Hid (∀ k, 1 ≤ (itR g k).1.length ∧ 1 ≤ (ctL g (itR g k).1).length ∧ 1 ≤ (itR g k).2.length) := Lib.hid (fun k => ⟨by rw [(itR_len g ok k).1]; exact ok.s0, by unfold ctL; rw [ctTo_len]; exact ok.s0, by rw [(itR_len g ok k).2]; exact ok.s0⟩)
  clear hin ok
  go_enter Try.func20, Try.ntmps20
  go_wp2_with fail
  refine (KC.out _ (by (repeat' (first | (with_reducible exact Below.refl _ _) | (with_reducible assumption) | (with_reducible refine below_drewN ?_ _) | (with_reducible refine below_after (by assumption) ?_ ?_) | (with_reducible refine Below.drew ?_) | (with_reducible refine Below.alloc ?_ ?_ _) | (with_reducible refine Below.setCell ?_ ?_ _) | omega | (simp; omega) | (simp; done))))).mono ?_
  rintro e w2 ⟨rfl, hB2⟩
  have hr0 : Blk ((w.alloc (.cells #[.int .i64 (g.S : Int), .int .i64 (g.C : Int), .int .i64 (g.H : Int), .slice nA nn nc, .slice gA g.S gc] 25)).alloc (.cells #[.slice none 0 0, .slice none 0 0, .slice none 0 0] 27)) (w.heap.size + 1) 27 #[.slice none 0 0, .slice none 0 0, .slice none 0 0] := by
    have e2 := heap_alloc_new (w.alloc (.cells #[.int .i64 (g.S : Int), .int .i64 (g.C : Int), .int .i64 (g.H : Int), .slice nA nn nc, .slice gA g.S gc] 25)) (.cells #[.slice none 0 0, .slice none 0 0, .slice none 0 0] 27)
    simp only [World.size_alloc] at e2
    exact e2
  have hg0 : Blk ((w.alloc (.cells #[.int .i64 (g.S : Int), .int .i64 (g.C : Int), .int .i64 (g.H : Int), .slice nA nn nc, .slice gA g.S gc] 25)).alloc (.cells #[.slice none 0 0, .slice none 0 0, .slice none 0 0] 27)) w.heap.size 25 #[.int .i64 (g.S : Int), .int .i64 (g.C : Int), .int .i64 (g.H : Int), .slice nA nn nc, .slice gA g.S gc] := Blk.alloc (heap_alloc_new w _) _
  have hr2 := hr0.below hB2 hr0.lt
  have hg2 := hg0.below hB2 hg0.lt
  have hBw : Below w.heap.size w w2 := by
    have h1 : Below w.heap.size w ((w.alloc (.cells #[.int .i64 (g.S : Int), .int .i64 (g.C : Int), .int .i64 (g.H : Int), .slice nA nn nc, .slice gA g.S gc] 25)).alloc (.cells #[.slice none 0 0, .slice none 0 0, .slice none 0 0] 27)) := by (repeat' (first | (with_reducible exact Below.refl _ _) | (with_reducible assumption) | (with_reducible refine below_drewN ?_ _) | (with_reducible refine below_after (by assumption) ?_ ?_) | (with_reducible refine Below.drew ?_) | (with_reducible refine Below.alloc ?_ ?_ _) | (with_reducible refine Below.setCell ?_ ?_ _) | omega | (simp; omega) | (simp; done)))
    exact below3 h1 hB2 (Nat.le_refl _)
  have c0 := hg2.cell 0
  have c1 := hg2.cell 1
  have c2 := hg2.cell 2
  have c3 := hg2.cell 3
  have c4 := hg2.cell 4
  simp only [List.getElem?_toArray, List.getElem?_cons_zero, List.getElem?_cons_succ] at c0 c1 c2 c3 c4
  have z2 := hg2.lt
  have HR2 := Lib.hid hr2
  have HBW := Lib.hid hBw
  clear hr0 hg0 hr2 hg2 hB2 hBw
  go_wp2_with fail
  refine (KS.out _ HBW.out).mono ?_
  rintro e w3 ⟨ib, ic, cb, rb, k, rfl, hsv, hsr, hB3⟩
  obtain ⟨bx, hbx⟩ : ∃ z, z = w.heap.size + 1 := ⟨_, rfl⟩
  have hr3 := HR2.out.below hB3 HR2.out.lt
  rw [← hbx] at hr3
  have hbw2 : bx < w2.heap.size := by rw [hbx]; exact HR2.out.lt
  have d0 := hr3.cell 0
  have d1 := hr3.cell 1
  have d2 := hr3.cell 2
  simp only [List.getElem?_toArray, List.getElem?_cons_zero, List.getElem?_cons_succ] at d0 d1 d2
  have z3 := hr3.lt
  have f3 := hr3.frozen
  have hkk : Keep (fun b => b = bx) w3 (((w3.setCell ⟨bx, 0, none⟩ (.slice (some ⟨ib, 0, none⟩) g.S ic)).setCell ⟨bx, 1, none⟩ (.slice (some ⟨cb, 0, none⟩) g.S g.S)).setCell ⟨bx, 2, none⟩ (.slice (some ⟨rb, 0, none⟩) g.S g.S)) := (((Keep.refl (fun b => b = bx) w3).setCell rfl _).setCell rfl _).setCell rfl _
  have hrow : Blk (((w3.setCell ⟨bx, 0, none⟩ (.slice (some ⟨ib, 0, none⟩) g.S ic)).setCell ⟨bx, 1, none⟩ (.slice (some ⟨cb, 0, none⟩) g.S g.S)).setCell ⟨bx, 2, none⟩ (.slice (some ⟨rb, 0, none⟩) g.S g.S)) bx 27 #[.slice (some ⟨ib, 0, none⟩) g.S ic, .slice (some ⟨cb, 0, none⟩) g.S g.S, .slice (some ⟨rb, 0, none⟩) g.S g.S] := by
    have h := ((hr3.set_ 0 (.slice (some ⟨ib, 0, none⟩) g.S ic)).set_ 1 (.slice (some ⟨cb, 0, none⟩) g.S g.S)).set_ 2 (.slice (some ⟨rb, 0, none⟩) g.S g.S)
    simpa using h
  obtain ⟨W', hW'⟩ : ∃ z, z = (((w3.setCell ⟨bx, 0, none⟩ (.slice (some ⟨ib, 0, none⟩) g.S ic)).setCell ⟨bx, 1, none⟩ (.slice (some ⟨cb, 0, none⟩) g.S g.S)).setCell ⟨bx, 2, none⟩ (.slice (some ⟨rb, 0, none⟩) g.S g.S)) := ⟨_, rfl⟩
  rw [← hW'] at hkk hrow
  have e0 := hrow.cell 0
  have e1 := hrow.cell 1
  have e2 := hrow.cell 2
  simp only [List.getElem?_toArray, List.getElem?_cons_zero, List.getElem?_cons_succ] at e0 e1 e2
  have HFIN : Hid (Solved g k ∧ SRows w.heap.size W' (itR g k).1 (ctL g (itR g k).1) (itR g k).2 ib cb rb ∧ Below w.heap.size w W') := Lib.hid ⟨hsv, by
    obtain ⟨s1, s2, s3, s4, s5, s6, s7, s8, s9⟩ := hsr
    have hz := HBW.out.size
    exact ⟨rowW_keep s1 hkk (by omega), rowW_keep s2 hkk (by omega), rowW_keep s3 hkk (by omega), by omega, by omega, by omega, s7, s8, s9⟩, (HBW.out.trans (hB3.mono HBW.out.size)).trans (hkk.below (by have := HBW.out.size; have := hB3.size; omega) (fun b e => by rw [e, hbx]; omega))⟩
  have HE := Lib.hid (And.intro e0 (And.intro e1 e2))
  clear hsv hsr hB3 hr3 hkk hrow e0 e1 e2
  rw [← hbx]
  clear hbx
  go_wp2
  rw [← hW']
  obtain ⟨e0, e1, e2⟩ := HE.out
  refine bodyPost_ret (v := .tuple #[.agg #[.slice (some ⟨ib, 0, none⟩) g.S ic, .slice (some ⟨cb, 0, none⟩) g.S g.S, .slice (some ⟨rb, 0, none⟩) g.S g.S], .int .i64 0]) ?_ rfl ?_
  · simp [results, Try.results20, go_sem, e0, e1, e2]
  · exact ⟨ib, ic, cb, rb, k, rfl, HFIN.out⟩
end Go.Proofs.Ytalngalikblgkaa
