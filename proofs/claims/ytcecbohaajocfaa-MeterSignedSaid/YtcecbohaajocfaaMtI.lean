/- meter: the example and the tariff of awake. -/
import Derived.Test.YtcecbohaajocfaaMtH
import Derived.Laws.ResultCell

set_option linter.unusedSimpArgs false
set_option linter.unusedVariables false
namespace Go.Proofs.Ytcecbohaajocfaa
open Go.RowKit

set_option maxRecDepth 100000 in
set_option maxHeartbeats 2000000 in
theorem example_any (w : World) :
    Calls Try.prog 36 #[] w fun e w' => ∃ nb vb, e = .returned (.agg #[.slice (some ⟨nb, 0, none⟩) 3 3, .slice (some ⟨vb, 0, none⟩) 3 3]) ∧ KsIn w' w'.heap.size 3 (some ⟨nb, 0, none⟩) (some ⟨vb, 0, none⟩) exK ∧ w.heap.size ≤ nb ∧ w.heap.size ≤ vb ∧ Below w.heap.size w w' := by
  have g1 : w.heap.size < w.heap.size + 1 := by omega
  have g2 : w.heap.size < w.heap.size + 1 + 1 := by omega
  have g3 : w.heap.size < w.heap.size + 1 + 1 + 1 := by omega
  have g4 : w.heap.size + 1 < w.heap.size + 1 + 1 := by omega
  have g5 : w.heap.size + 1 < w.heap.size + 1 + 1 + 1 := by omega
  have g6 : w.heap.size + 1 + 1 < w.heap.size + 1 + 1 + 1 := by omega
  go_enter Try.func36, Try.ntmps36
  go_wp2
  obtain ⟨W3, hW3⟩ : ∃ z, z = ((w.alloc (.cells #[.slice (some ⟨w.heap.size + 1, 0, none⟩) 3 3, .slice (some ⟨w.heap.size + 1 + 1, 0, none⟩) 3 3] 35)).alloc (.cells #[.int .i64 (-1), .int .i64 0, .int .i64 5, .int .i64 0, .int .i64 0, .int .i64 0, .int .i64 0, .int .i64 0, .int .i64 0] 107)).alloc (.cells #[.int .i64 100, .int .i64 60, .int .i64 50] 3) := ⟨_, rfl⟩
  have HB : Below w.heap.size w W3 := by rw [hW3]; (repeat' (first | (with_reducible exact Below.refl _ _) | (with_reducible assumption) | (with_reducible refine below_drewN ?_ _) | (with_reducible refine below_after (by assumption) ?_ ?_) | (with_reducible refine Below.drew ?_) | (with_reducible refine Below.alloc ?_ ?_ _) | (with_reducible refine Below.setCell ?_ ?_ _) | omega | (simp; omega) | (simp; done)))
  have hr : Blk W3 w.heap.size 35 #[.slice (some ⟨w.heap.size + 1, 0, none⟩) 3 3, .slice (some ⟨w.heap.size + 1 + 1, 0, none⟩) 3 3] := by
    rw [hW3]
    exact ((show Blk (w.alloc (.cells #[.slice (some ⟨w.heap.size + 1, 0, none⟩) 3 3, .slice (some ⟨w.heap.size + 1 + 1, 0, none⟩) 3 3] 35)) w.heap.size 35 #[.slice (some ⟨w.heap.size + 1, 0, none⟩) 3 3, .slice (some ⟨w.heap.size + 1 + 1, 0, none⟩) 3 3] from heap_alloc_new w _).alloc _).alloc _
  have hn : Blk W3 (w.heap.size + 1) 107 #[.int .i64 (-1), .int .i64 0, .int .i64 5, .int .i64 0, .int .i64 0, .int .i64 0, .int .i64 0, .int .i64 0, .int .i64 0] := by
    have e2 := heap_alloc_new (w.alloc (.cells #[.slice (some ⟨w.heap.size + 1, 0, none⟩) 3 3, .slice (some ⟨w.heap.size + 1 + 1, 0, none⟩) 3 3] 35)) (.cells #[.int .i64 (-1), .int .i64 0, .int .i64 5, .int .i64 0, .int .i64 0, .int .i64 0, .int .i64 0, .int .i64 0, .int .i64 0] 107)
    simp only [World.size_alloc] at e2
    rw [hW3]
    exact (show Blk _ (w.heap.size + 1) 107 #[.int .i64 (-1), .int .i64 0, .int .i64 5, .int .i64 0, .int .i64 0, .int .i64 0, .int .i64 0, .int .i64 0, .int .i64 0] from e2).alloc _
  have hv : Blk W3 (w.heap.size + 1 + 1) 3 #[.int .i64 100, .int .i64 60, .int .i64 50] := by
    have e2 := heap_alloc_new ((w.alloc (.cells #[.slice (some ⟨w.heap.size + 1, 0, none⟩) 3 3, .slice (some ⟨w.heap.size + 1 + 1, 0, none⟩) 3 3] 35)).alloc (.cells #[.int .i64 (-1), .int .i64 0, .int .i64 5, .int .i64 0, .int .i64 0, .int .i64 0, .int .i64 0, .int .i64 0, .int .i64 0] 107)) (.cells #[.int .i64 100, .int .i64 60, .int .i64 50] 3)
    simp only [World.size_alloc] at e2
    rw [hW3]
    exact e2
  have x0 := hr.cell 0
  have x1 := hr.cell 1
  simp only [List.getElem?_toArray, List.getElem?_cons_zero, List.getElem?_cons_succ] at x0 x1
  rw [← hW3]
  refine bodyPost_ret (v := .agg #[.slice (some ⟨w.heap.size + 1, 0, none⟩) 3 3, .slice (some ⟨w.heap.size + 1 + 1, 0, none⟩) 3 3]) ?_ rfl ?_
  · simp [results, Try.results36, go_sem, x0, x1]
  · exact ⟨_, _, rfl, ⟨RowW.rd (T := 107) (b := w.heap.size + 1) (l := exK.nodes) (fun _ => rfl) rfl (.inr ⟨rfl, _, hn, fun j u h => by rw [List.getElem?_toArray]; exact h⟩), RowW.rd (T := 3) (b := w.heap.size + 1 + 1) (l := exK.vals) (fun _ => rfl) rfl (.inr ⟨rfl, _, hv, fun j u h => by rw [List.getElem?_toArray]; exact h⟩)⟩, by omega, by omega, HB⟩
set_option maxRecDepth 100000 in
set_option maxHeartbeats 2000000 in
theorem tariff_any (w : World) :
    Calls Try.prog 37 #[] w fun e w' => ∃ pb tb, e = .returned (.agg #[.slice (some ⟨pb, 0, none⟩) 24 24, .int .i64 100, .slice (some ⟨tb, 0, none⟩) 2 2, .int .i64 20]) ∧ TrfIn w' w'.heap.size 2 (some ⟨pb, 0, none⟩) (some ⟨tb, 0, none⟩) ⟨List.replicate 24 10, 100, [(30, 10), (120, 25)], 20⟩ ∧ Below w.heap.size w w' := by
  have KR := Lib.hid (fun (xb xc : Nat) W (h : Blk W xb 3 (encI 10).toArray) => repeatI_any xb xc 24 10 W h (by omega))
  have g1 : w.heap.size < w.heap.size + 1 := by omega
  have g2 : w.heap.size < w.heap.size + 1 + 1 := by omega
  have g4 : w.heap.size + 1 < w.heap.size + 1 + 1 := by omega
  go_enter Try.func37, Try.ntmps37
  go_wp2_with fail
  obtain ⟨rb, hrb⟩ : ∃ z, z = w.heap.size := ⟨_, rfl⟩
  obtain ⟨w2, hw2⟩ : ∃ z, z = (w.alloc (.cells #[.slice none 0 0, .int .i64 0, .slice none 0 0, .int .i64 0] 25)).alloc (.cells #[.int .i64 10] 3) := ⟨_, rfl⟩
  have HB2 : Hid (Below w.heap.size w w2) := Lib.hid (by rw [hw2]; (repeat' (first | (with_reducible exact Below.refl _ _) | (with_reducible assumption) | (with_reducible refine below_drewN ?_ _) | (with_reducible refine below_after (by assumption) ?_ ?_) | (with_reducible refine Below.drew ?_) | (with_reducible refine Below.alloc ?_ ?_ _) | (with_reducible refine Below.setCell ?_ ?_ _) | omega | (simp; omega) | (simp; done))))
  have HR2 : Hid (Blk w2 rb 25 #[.slice none 0 0, .int .i64 0, .slice none 0 0, .int .i64 0]) := Lib.hid (by
    rw [hw2, hrb]
    exact (show Blk (w.alloc (.cells #[.slice none 0 0, .int .i64 0, .slice none 0 0, .int .i64 0] 25)) w.heap.size 25 #[.slice none 0 0, .int .i64 0, .slice none 0 0, .int .i64 0] from heap_alloc_new w _).alloc _)
  have HX2 : Hid (Blk w2 (rb + 1) 3 #[.int .i64 10]) := Lib.hid (by
    have e2 := heap_alloc_new (w.alloc (.cells #[.slice none 0 0, .int .i64 0, .slice none 0 0, .int .i64 0] 25)) (.cells #[.int .i64 10] 3)
    simp only [World.size_alloc] at e2
    rw [hw2, hrb]
    exact e2)
  have HRB := Lib.hid hrb
  rw [← hw2, ← hrb]
  clear hw2 hrb g1 g2 g4
  refine (KR.out (rb + 1) 1 w2 HX2.out).mono ?_
  rintro e w3 ⟨pb, rfl, hpb, hpr, hB⟩
  have HP := Lib.hid (And.intro hpb (And.intro hpr hB))
  have HR3 := Lib.hid (HR2.out.below hB HR2.out.lt)
  clear hpb hpr hB
  have c0 := HR3.out.cell 0
  have c1 := HR3.out.cell 1
  have c2 := HR3.out.cell 2
  have c3 := HR3.out.cell 3
  simp only [List.getElem?_toArray, List.getElem?_cons_zero, List.getElem?_cons_succ] at c0 c1 c2 c3
  have zr := HR3.out.lt
  have fr := HR3.out.frozen
  have g1 : w3.heap.size < w3.heap.size + 1 := by omega
  go_wp2
  obtain ⟨ws, hws⟩ : ∃ z, z = (((w3.setCell ⟨rb, 0, none⟩ (.slice (some ⟨pb, 0, none⟩) 24 24)).setCell ⟨rb, 1, none⟩ (.int .i64 100)).setCell ⟨rb, 2, none⟩ (.slice (some ⟨w3.heap.size, 0, none⟩) 2 2)).setCell ⟨rb, 3, none⟩ (.int .i64 20) := ⟨_, rfl⟩
  have hsz : ws.heap.size = w3.heap.size := by rw [hws]; simp
  have hk : Keep (fun b => b = rb) w3 ws := by rw [hws]; exact ((((Keep.refl (fun b => b = rb) w3).setCell rfl _).setCell rfl _).setCell rfl _).setCell rfl _
  have hr : Blk ws rb 25 #[.slice (some ⟨pb, 0, none⟩) 24 24, .int .i64 100, .slice (some ⟨w3.heap.size, 0, none⟩) 2 2, .int .i64 20] := by
    have h := (((HR3.out.set_ 0 (.slice (some ⟨pb, 0, none⟩) 24 24)).set_ 1 (.int .i64 100)).set_ 2 (.slice (some ⟨w3.heap.size, 0, none⟩) 2 2)).set_ 3 (.int .i64 20)
    rw [hws]
    simpa using h
  rw [← hws]
  have hp : Blk ws pb 3 ((List.replicate 24 (10 : Int)).flatMap encI).toArray := hk.blk HP.out.2.1 (by have := HP.out.1; have := HR2.out.lt; omega)
  have ht : Blk (ws.alloc (.cells #[.int .i64 30, .int .i64 10, .int .i64 120, .int .i64 25] 75)) w3.heap.size 75 #[.int .i64 30, .int .i64 10, .int .i64 120, .int .i64 25] := by
    have e2 := heap_alloc_new ws (.cells #[.int .i64 30, .int .i64 10, .int .i64 120, .int .i64 25] 75)
    rw [hsz] at e2
    exact e2
  have HB : Below w.heap.size w (ws.alloc (.cells #[.int .i64 30, .int .i64 10, .int .i64 120, .int .i64 25] 75)) := by
    have h3 := below3 HB2.out HP.out.2.2 (Nat.le_refl _)
    exact (h3.trans (hk.below h3.size (fun b e => by rw [e, HRB.out]; exact Nat.le_refl _))).alloc (by have := h3.size; omega) _
  have x := hr.alloc (.cells #[.int .i64 30, .int .i64 10, .int .i64 120, .int .i64 25] 75)
  have x0 := x.cell 0
  have x1 := x.cell 1
  have x2 := x.cell 2
  have x3 := x.cell 3
  simp only [List.getElem?_toArray, List.getElem?_cons_zero, List.getElem?_cons_succ] at x0 x1 x2 x3
  refine bodyPost_ret (v := .agg #[.slice (some ⟨pb, 0, none⟩) 24 24, .int .i64 100, .slice (some ⟨w3.heap.size, 0, none⟩) 2 2, .int .i64 20]) ?_ rfl ?_
  · simp [results, Try.results37, go_sem, x0, x1, x2, x3]
  · exact ⟨_, _, rfl, ⟨RowW.rd (T := 3) (b := pb) (l := List.replicate 24 10) (fun _ => rfl) rfl (.inr ⟨rfl, _, hp.alloc _, fun j u h => by rw [List.getElem?_toArray]; exact h⟩), RowW.rd (T := 75) (b := w3.heap.size) (l := [(30, 10), (120, 25)]) (fun _ => rfl) rfl (.inr ⟨rfl, _, ht, fun j u h => by rw [List.getElem?_toArray]; exact h⟩)⟩, HB⟩
end Go.Proofs.Ytcecbohaajocfaa
