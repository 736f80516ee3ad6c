/- The reference's Failed, where there is no error. -/
import Derived.Test.YtigefkjabjnmjaaGreatDoorRefF
import Derived.Test.YtigefkjabjnmjaaGreatDoorAwake
namespace Go.Proofs.YtigefkjabjnmjaaGreatDoor
open Go.RowKit

set_option maxRecDepth 100000 in
set_option maxHeartbeats 8000000 in
theorem Failed_ok1 (p : Plt) (s : Stt) (i : Nat) (x : Bool) (w : World) (hp : PltIn w w.heap.size p) (hs : SttIn w w.heap.size s) (hc : checkState p s = 0) (hx : (i : Int) < p.buses) :
    Calls Tryz.prog 33 #[p.val, s.val, .agg #[.int .i64 1, .int .i64 i], .bool x] w fun e w' => ∃ t : Stt, e = .returned (.tuple #[t.val, .int .i64 0]) ∧ Below w.heap.size w w' ∧ SttIn w' w'.heap.size t ∧ t.cont = (brk s 1 i x).cont := by
  have C := Lib.hid (fun W hp hs => refCheckState_any p s W hp hs)
  have HP := Lib.hid hp
  have HS := Lib.hid hs
  have HF := Lib.hid (fit_of hp hc)
  obtain ⟨l0, l1, l2, l3, l4, l5, l6⟩ := state_lens hc
  have hin : i < s.badBus.n := by omega
  have WA := Lib.hid (fun W hb => with_any s.badBus i x W hb (HF.out s.badBus (by simp [Stt.lists])) hin)
  rw [hc] at C
  clear hp hs hc l0 l1 l2 l3 l4 l5 l6 hin
  have g1 : (i : Int) < p.buses := hx
  have hn0 : ¬ (i : Int) < 0 := by omega
  clear hx
  have hB0 : Below w.heap.size w ((((w.alloc (.cells (pBox0 p) 26)).alloc (.cells (sBox0 s) 29)).alloc (.cells #[.int .i64 1, .int .i64 i] 60)).alloc (.cells #[.slice none 0 0, .slice none 0 0, .slice none 0 0, .slice none 0 0, .slice none 0 0, .slice none 0 0, .slice none 0 0] 29)) := by (repeat' (first | (with_reducible exact Below.refl _ _) | (with_reducible assumption) | (with_reducible refine below_drewN ?_ _) | (with_reducible refine below_after (by assumption) ?_ ?_) | (with_reducible refine Below.drew ?_) | (with_reducible refine Below.alloc ?_ ?_ _) | (with_reducible refine Below.setCell ?_ ?_ _) | omega | (simp; omega) | (simp; done)))
  unfold Plt.val Stt.val at C
  unfold Plt.val Stt.val
  go_enter Tryz.func33, Tryz.ntmps33
  go_wp2_with fail
  refine (C.out _ (HP.out.next hB0) (HS.out.next hB0)).mono ?_
  rintro e w1 ⟨rfl, hB1⟩
  have hz1 := hB1.size
  simp only [World.size_alloc] at hz1
  have bP : Blk w1 w.heap.size 26 (pBox0 p) := (((show Blk _ _ _ _ from heap_alloc_new w (.cells (pBox0 p) 26)).alloc _).alloc _ |>.alloc _).below hB1 (by simp; omega)
  have bS : Blk w1 (w.heap.size + 1) 29 (sBox0 s) := by
    have h := heap_alloc_new (w.alloc (.cells (pBox0 p) 26)) (.cells (sBox0 s) 29)
    rw [World.size_alloc] at h
    exact (((show Blk _ _ _ _ from h).alloc _).alloc _).below hB1 (by simp)
  obtain ⟨x0, x1, hO, z2, z3⟩ := part_facts (kind := 1) (idx := (i : Int)) rfl hB1 (Below.refl _ _)
  obtain ⟨o0, o1, o2, o3, o4, o5, o6⟩ := cells7 hO
  have hBw1 : Below w.heap.size w w1 := hB0.trans (hB1.mono (by simp; omega))
  have p0 : w1.cell? ⟨w.heap.size, 0, none⟩ = some (.int .i64 p.buses) := bP.cell 0
  have p1 : w1.cell? ⟨w.heap.size, 1, none⟩ = some (.slice p.sA p.sn p.sc) := bP.cell 1
  have p2 : w1.cell? ⟨w.heap.size, 2, none⟩ = some (.slice p.lA p.ln p.lc) := bP.cell 2
  obtain ⟨s0, s1, s2, s3, s4, s5, s6⟩ := cells7 bS
  have HO0 := Lib.hid hO
  have HB0 := Lib.hid bS
  clear hO bP bS hB0 C o0 o1 o2 o3 o4 o5 o6
  go_wp2_with fail
  refine (WA.out _ (HS.out.badBus.next hBw1)).mono ?_
  rintro e w2 ⟨b', rfl, hl, ho, hB2⟩
  have hz2 := hB2.size
  have HO := Lib.hid ho
  have HL := Lib.hid hl
  have bR := HO0.out.below hB2 (Blk.lt HO0.out)
  have bS2 := HB0.out.below hB2 (Blk.lt HB0.out)
  obtain ⟨o0, o1, o2, o3, o4, o5, o6⟩ := cells7 bR
  obtain ⟨t0, t1, t2, t3, t4, t5, t6⟩ := cells7 bS2
  have fz := bR.frozen
  have fs := bS2.frozen
  have z4 : w.heap.size + 1 < w2.heap.size := by omega
  have z5 : w.heap.size + 1 + 1 + 1 < w2.heap.size := by omega
  have hBw2 : Below w.heap.size w w2 := hBw1.trans (hB2.mono (by omega))
  clear s0 s1 s2 s3 s4 s5 s6 p0 p1 p2 x0 x1 ho hl bR bS2 hB1 hB2
  (dsimp only; repeat' (first | go_values | go_skip | go_guarded | go_step | go_upon))
  refine bodyPost_ret (v := .tuple #[Stt.val { s with badBus := b' }, .int .i64 0]) ?_ rfl ⟨{ s with badBus := b' }, rfl, by (repeat' (first | (with_reducible exact Below.refl _ _) | (with_reducible assumption) | (with_reducible refine below_drewN ?_ _) | (with_reducible refine below_after (by assumption) ?_ ?_) | (with_reducible refine Below.drew ?_) | (with_reducible refine Below.alloc ?_ ?_ _) | (with_reducible refine Below.setCell ?_ ?_ _) | omega | (simp; omega) | (simp; done))), ?_, ?_⟩
  · simp [results, Tryz.results33, go_sem, Stt.val, o0, o1, o2, o3, o4, o5, o6, z4, z5]
  · have hBw : Below w.heap.size w ((((((((w2.setCell ⟨w.heap.size + 1, 6, none⟩ (.slice b'.A b'.n b'.c)).setCell ⟨w.heap.size + 1 + 1 + 1, 0, none⟩ (.slice s.closed.A s.closed.n s.closed.c)).setCell ⟨w.heap.size + 1 + 1 + 1, 1, none⟩ (.slice s.locked.A s.locked.n s.locked.c)).setCell ⟨w.heap.size + 1 + 1 + 1, 2, none⟩ (.slice s.badLink.A s.badLink.n s.badLink.c)).setCell ⟨w.heap.size + 1 + 1 + 1, 3, none⟩ (.slice s.on.A s.on.n s.on.c)).setCell ⟨w.heap.size + 1 + 1 + 1, 4, none⟩ (.slice s.badSource.A s.badSource.n s.badSource.c)).setCell ⟨w.heap.size + 1 + 1 + 1, 5, none⟩ (.slice s.earthed.A s.earthed.n s.earthed.c)).setCell ⟨w.heap.size + 1 + 1 + 1, 6, none⟩ (.slice b'.A b'.n b'.c)) := by (repeat' (first | (with_reducible exact Below.refl _ _) | (with_reducible assumption) | (with_reducible refine below_drewN ?_ _) | (with_reducible refine below_after (by assumption) ?_ ?_) | (with_reducible refine Below.drew ?_) | (with_reducible refine Below.alloc ?_ ?_ _) | (with_reducible refine Below.setCell ?_ ?_ _) | omega | (simp; omega) | (simp; done)))
    have hS : SttIn ((((((((w2.setCell ⟨w.heap.size + 1, 6, none⟩ (.slice b'.A b'.n b'.c)).setCell ⟨w.heap.size + 1 + 1 + 1, 0, none⟩ (.slice s.closed.A s.closed.n s.closed.c)).setCell ⟨w.heap.size + 1 + 1 + 1, 1, none⟩ (.slice s.locked.A s.locked.n s.locked.c)).setCell ⟨w.heap.size + 1 + 1 + 1, 2, none⟩ (.slice s.badLink.A s.badLink.n s.badLink.c)).setCell ⟨w.heap.size + 1 + 1 + 1, 3, none⟩ (.slice s.on.A s.on.n s.on.c)).setCell ⟨w.heap.size + 1 + 1 + 1, 4, none⟩ (.slice s.badSource.A s.badSource.n s.badSource.c)).setCell ⟨w.heap.size + 1 + 1 + 1, 5, none⟩ (.slice s.earthed.A s.earthed.n s.earthed.c)).setCell ⟨w.heap.size + 1 + 1 + 1, 6, none⟩ (.slice b'.A b'.n b'.c)) ((((((((w2.setCell ⟨w.heap.size + 1, 6, none⟩ (.slice b'.A b'.n b'.c)).setCell ⟨w.heap.size + 1 + 1 + 1, 0, none⟩ (.slice s.closed.A s.closed.n s.closed.c)).setCell ⟨w.heap.size + 1 + 1 + 1, 1, none⟩ (.slice s.locked.A s.locked.n s.locked.c)).setCell ⟨w.heap.size + 1 + 1 + 1, 2, none⟩ (.slice s.badLink.A s.badLink.n s.badLink.c)).setCell ⟨w.heap.size + 1 + 1 + 1, 3, none⟩ (.slice s.on.A s.on.n s.on.c)).setCell ⟨w.heap.size + 1 + 1 + 1, 4, none⟩ (.slice s.badSource.A s.badSource.n s.badSource.c)).setCell ⟨w.heap.size + 1 + 1 + 1, 5, none⟩ (.slice s.earthed.A s.earthed.n s.earthed.c)).setCell ⟨w.heap.size + 1 + 1 + 1, 6, none⟩ (.slice b'.A b'.n b'.c)).heap.size s := HS.out.next hBw
    have z6 : w.heap.size + 1 < w1.heap.size := by omega
    have hO8 : BsOwn ((((((((w2.setCell ⟨w.heap.size + 1, 6, none⟩ (.slice b'.A b'.n b'.c)).setCell ⟨w.heap.size + 1 + 1 + 1, 0, none⟩ (.slice s.closed.A s.closed.n s.closed.c)).setCell ⟨w.heap.size + 1 + 1 + 1, 1, none⟩ (.slice s.locked.A s.locked.n s.locked.c)).setCell ⟨w.heap.size + 1 + 1 + 1, 2, none⟩ (.slice s.badLink.A s.badLink.n s.badLink.c)).setCell ⟨w.heap.size + 1 + 1 + 1, 3, none⟩ (.slice s.on.A s.on.n s.on.c)).setCell ⟨w.heap.size + 1 + 1 + 1, 4, none⟩ (.slice s.badSource.A s.badSource.n s.badSource.c)).setCell ⟨w.heap.size + 1 + 1 + 1, 5, none⟩ (.slice s.earthed.A s.earthed.n s.earthed.c)).setCell ⟨w.heap.size + 1 + 1 + 1, 6, none⟩ (.slice b'.A b'.n b'.c)) w1.heap.size b' := ⟨ownsRow_setCell_below (ownsRow_setCell_below (ownsRow_setCell_below (ownsRow_setCell_below (ownsRow_setCell_below (ownsRow_setCell_below (ownsRow_setCell_below (ownsRow_setCell_below HO.out.own z6 _) z3 _) z3 _) z3 _) z3 _) z3 _) z3 _) z3 _, HO.out.len⟩
    exact ⟨hS.closed, hS.locked, hS.badLink, hS.on, hS.badSource, hS.earthed, bsIn_of hO8⟩
  · simp [brk, Stt.cont, Stt.lists, HL.out]

set_option maxRecDepth 100000 in
set_option maxHeartbeats 8000000 in
theorem Failed_ok2 (p : Plt) (s : Stt) (i : Nat) (x : Bool) (w : World) (hp : PltIn w w.heap.size p) (hs : SttIn w w.heap.size s) (hc : checkState p s = 0) (hx : i < p.sn) :
    Calls Tryz.prog 33 #[p.val, s.val, .agg #[.int .i64 2, .int .i64 i], .bool x] w fun e w' => ∃ t : Stt, e = .returned (.tuple #[t.val, .int .i64 0]) ∧ Below w.heap.size w w' ∧ SttIn w' w'.heap.size t ∧ t.cont = (brk s 2 i x).cont := by
  have C := Lib.hid (fun W hp hs => refCheckState_any p s W hp hs)
  have HP := Lib.hid hp
  have HS := Lib.hid hs
  have HF := Lib.hid (fit_of hp hc)
  obtain ⟨l0, l1, l2, l3, l4, l5, l6⟩ := state_lens hc
  have hin : i < s.badSource.n := by omega
  have WA := Lib.hid (fun W hb => with_any s.badSource i x W hb (HF.out s.badSource (by simp [Stt.lists])) hin)
  rw [hc] at C
  clear hp hs hc l0 l1 l2 l3 l4 l5 l6 hin
  have g1 : (i : Int) < (p.sn : Int) := by omega
  have hn0 : ¬ (i : Int) < 0 := by omega
  clear hx
  have hB0 : Below w.heap.size w ((((w.alloc (.cells (pBox0 p) 26)).alloc (.cells (sBox0 s) 29)).alloc (.cells #[.int .i64 2, .int .i64 i] 60)).alloc (.cells #[.slice none 0 0, .slice none 0 0, .slice none 0 0, .slice none 0 0, .slice none 0 0, .slice none 0 0, .slice none 0 0] 29)) := by (repeat' (first | (with_reducible exact Below.refl _ _) | (with_reducible assumption) | (with_reducible refine below_drewN ?_ _) | (with_reducible refine below_after (by assumption) ?_ ?_) | (with_reducible refine Below.drew ?_) | (with_reducible refine Below.alloc ?_ ?_ _) | (with_reducible refine Below.setCell ?_ ?_ _) | omega | (simp; omega) | (simp; done)))
  unfold Plt.val Stt.val at C
  unfold Plt.val Stt.val
  go_enter Tryz.func33, Tryz.ntmps33
  go_wp2_with fail
  refine (C.out _ (HP.out.next hB0) (HS.out.next hB0)).mono ?_
  rintro e w1 ⟨rfl, hB1⟩
  have hz1 := hB1.size
  simp only [World.size_alloc] at hz1
  have bP : Blk w1 w.heap.size 26 (pBox0 p) := (((show Blk _ _ _ _ from heap_alloc_new w (.cells (pBox0 p) 26)).alloc _).alloc _ |>.alloc _).below hB1 (by simp; omega)
  have bS : Blk w1 (w.heap.size + 1) 29 (sBox0 s) := by
    have h := heap_alloc_new (w.alloc (.cells (pBox0 p) 26)) (.cells (sBox0 s) 29)
    rw [World.size_alloc] at h
    exact (((show Blk _ _ _ _ from h).alloc _).alloc _).below hB1 (by simp)
  obtain ⟨x0, x1, hO, z2, z3⟩ := part_facts (kind := 2) (idx := (i : Int)) rfl hB1 (Below.refl _ _)
  obtain ⟨o0, o1, o2, o3, o4, o5, o6⟩ := cells7 hO
  have hBw1 : Below w.heap.size w w1 := hB0.trans (hB1.mono (by simp; omega))
  have p0 : w1.cell? ⟨w.heap.size, 0, none⟩ = some (.int .i64 p.buses) := bP.cell 0
  have p1 : w1.cell? ⟨w.heap.size, 1, none⟩ = some (.slice p.sA p.sn p.sc) := bP.cell 1
  have p2 : w1.cell? ⟨w.heap.size, 2, none⟩ = some (.slice p.lA p.ln p.lc) := bP.cell 2
  obtain ⟨s0, s1, s2, s3, s4, s5, s6⟩ := cells7 bS
  have HO0 := Lib.hid hO
  have HB0 := Lib.hid bS
  clear hO bP bS hB0 C o0 o1 o2 o3 o4 o5 o6
  go_wp2_with fail
  refine (WA.out _ (HS.out.badSource.next hBw1)).mono ?_
  rintro e w2 ⟨b', rfl, hl, ho, hB2⟩
  have hz2 := hB2.size
  have HO := Lib.hid ho
  have HL := Lib.hid hl
  have bR := HO0.out.below hB2 (Blk.lt HO0.out)
  have bS2 := HB0.out.below hB2 (Blk.lt HB0.out)
  obtain ⟨o0, o1, o2, o3, o4, o5, o6⟩ := cells7 bR
  obtain ⟨t0, t1, t2, t3, t4, t5, t6⟩ := cells7 bS2
  have fz := bR.frozen
  have fs := bS2.frozen
  have z4 : w.heap.size + 1 < w2.heap.size := by omega
  have z5 : w.heap.size + 1 + 1 + 1 < w2.heap.size := by omega
  have hBw2 : Below w.heap.size w w2 := hBw1.trans (hB2.mono (by omega))
  clear s0 s1 s2 s3 s4 s5 s6 p0 p1 p2 x0 x1 ho hl bR bS2 hB1 hB2
  (dsimp only; repeat' (first | go_values | go_skip | go_guarded | go_step | go_upon))
  refine bodyPost_ret (v := .tuple #[Stt.val { s with badSource := b' }, .int .i64 0]) ?_ rfl ⟨{ s with badSource := b' }, rfl, by (repeat' (first | (with_reducible exact Below.refl _ _) | (with_reducible assumption) | (with_reducible refine below_drewN ?_ _) | (with_reducible refine below_after (by assumption) ?_ ?_) | (with_reducible refine Below.drew ?_) | (with_reducible refine Below.alloc ?_ ?_ _) | (with_reducible refine Below.setCell ?_ ?_ _) | omega | (simp; omega) | (simp; done))), ?_, ?_⟩
  · simp [results, Tryz.results33, go_sem, Stt.val, o0, o1, o2, o3, o4, o5, o6, z4, z5]
  · have hBw : Below w.heap.size w ((((((((w2.setCell ⟨w.heap.size + 1, 4, none⟩ (.slice b'.A b'.n b'.c)).setCell ⟨w.heap.size + 1 + 1 + 1, 0, none⟩ (.slice s.closed.A s.closed.n s.closed.c)).setCell ⟨w.heap.size + 1 + 1 + 1, 1, none⟩ (.slice s.locked.A s.locked.n s.locked.c)).setCell ⟨w.heap.size + 1 + 1 + 1, 2, none⟩ (.slice s.badLink.A s.badLink.n s.badLink.c)).setCell ⟨w.heap.size + 1 + 1 + 1, 3, none⟩ (.slice s.on.A s.on.n s.on.c)).setCell ⟨w.heap.size + 1 + 1 + 1, 4, none⟩ (.slice b'.A b'.n b'.c)).setCell ⟨w.heap.size + 1 + 1 + 1, 5, none⟩ (.slice s.earthed.A s.earthed.n s.earthed.c)).setCell ⟨w.heap.size + 1 + 1 + 1, 6, none⟩ (.slice s.badBus.A s.badBus.n s.badBus.c)) := by (repeat' (first | (with_reducible exact Below.refl _ _) | (with_reducible assumption) | (with_reducible refine below_drewN ?_ _) | (with_reducible refine below_after (by assumption) ?_ ?_) | (with_reducible refine Below.drew ?_) | (with_reducible refine Below.alloc ?_ ?_ _) | (with_reducible refine Below.setCell ?_ ?_ _) | omega | (simp; omega) | (simp; done)))
    have hS : SttIn ((((((((w2.setCell ⟨w.heap.size + 1, 4, none⟩ (.slice b'.A b'.n b'.c)).setCell ⟨w.heap.size + 1 + 1 + 1, 0, none⟩ (.slice s.closed.A s.closed.n s.closed.c)).setCell ⟨w.heap.size + 1 + 1 + 1, 1, none⟩ (.slice s.locked.A s.locked.n s.locked.c)).setCell ⟨w.heap.size + 1 + 1 + 1, 2, none⟩ (.slice s.badLink.A s.badLink.n s.badLink.c)).setCell ⟨w.heap.size + 1 + 1 + 1, 3, none⟩ (.slice s.on.A s.on.n s.on.c)).setCell ⟨w.heap.size + 1 + 1 + 1, 4, none⟩ (.slice b'.A b'.n b'.c)).setCell ⟨w.heap.size + 1 + 1 + 1, 5, none⟩ (.slice s.earthed.A s.earthed.n s.earthed.c)).setCell ⟨w.heap.size + 1 + 1 + 1, 6, none⟩ (.slice s.badBus.A s.badBus.n s.badBus.c)) ((((((((w2.setCell ⟨w.heap.size + 1, 4, none⟩ (.slice b'.A b'.n b'.c)).setCell ⟨w.heap.size + 1 + 1 + 1, 0, none⟩ (.slice s.closed.A s.closed.n s.closed.c)).setCell ⟨w.heap.size + 1 + 1 + 1, 1, none⟩ (.slice s.locked.A s.locked.n s.locked.c)).setCell ⟨w.heap.size + 1 + 1 + 1, 2, none⟩ (.slice s.badLink.A s.badLink.n s.badLink.c)).setCell ⟨w.heap.size + 1 + 1 + 1, 3, none⟩ (.slice s.on.A s.on.n s.on.c)).setCell ⟨w.heap.size + 1 + 1 + 1, 4, none⟩ (.slice b'.A b'.n b'.c)).setCell ⟨w.heap.size + 1 + 1 + 1, 5, none⟩ (.slice s.earthed.A s.earthed.n s.earthed.c)).setCell ⟨w.heap.size + 1 + 1 + 1, 6, none⟩ (.slice s.badBus.A s.badBus.n s.badBus.c)).heap.size s := HS.out.next hBw
    have z6 : w.heap.size + 1 < w1.heap.size := by omega
    have hO8 : BsOwn ((((((((w2.setCell ⟨w.heap.size + 1, 4, none⟩ (.slice b'.A b'.n b'.c)).setCell ⟨w.heap.size + 1 + 1 + 1, 0, none⟩ (.slice s.closed.A s.closed.n s.closed.c)).setCell ⟨w.heap.size + 1 + 1 + 1, 1, none⟩ (.slice s.locked.A s.locked.n s.locked.c)).setCell ⟨w.heap.size + 1 + 1 + 1, 2, none⟩ (.slice s.badLink.A s.badLink.n s.badLink.c)).setCell ⟨w.heap.size + 1 + 1 + 1, 3, none⟩ (.slice s.on.A s.on.n s.on.c)).setCell ⟨w.heap.size + 1 + 1 + 1, 4, none⟩ (.slice b'.A b'.n b'.c)).setCell ⟨w.heap.size + 1 + 1 + 1, 5, none⟩ (.slice s.earthed.A s.earthed.n s.earthed.c)).setCell ⟨w.heap.size + 1 + 1 + 1, 6, none⟩ (.slice s.badBus.A s.badBus.n s.badBus.c)) w1.heap.size b' := ⟨ownsRow_setCell_below (ownsRow_setCell_below (ownsRow_setCell_below (ownsRow_setCell_below (ownsRow_setCell_below (ownsRow_setCell_below (ownsRow_setCell_below (ownsRow_setCell_below HO.out.own z6 _) z3 _) z3 _) z3 _) z3 _) z3 _) z3 _) z3 _, HO.out.len⟩
    exact ⟨hS.closed, hS.locked, hS.badLink, hS.on, bsIn_of hO8, hS.earthed, hS.badBus⟩
  · simp [brk, Stt.cont, Stt.lists, HL.out]

set_option maxRecDepth 100000 in
set_option maxHeartbeats 8000000 in
theorem Failed_ok3 (p : Plt) (s : Stt) (i : Nat) (x : Bool) (w : World) (hp : PltIn w w.heap.size p) (hs : SttIn w w.heap.size s) (hc : checkState p s = 0) (hx : i < p.ln) :
    Calls Tryz.prog 33 #[p.val, s.val, .agg #[.int .i64 3, .int .i64 i], .bool x] w fun e w' => ∃ t : Stt, e = .returned (.tuple #[t.val, .int .i64 0]) ∧ Below w.heap.size w w' ∧ SttIn w' w'.heap.size t ∧ t.cont = (brk s 3 i x).cont := by
  have C := Lib.hid (fun W hp hs => refCheckState_any p s W hp hs)
  have HP := Lib.hid hp
  have HS := Lib.hid hs
  have HF := Lib.hid (fit_of hp hc)
  obtain ⟨l0, l1, l2, l3, l4, l5, l6⟩ := state_lens hc
  have hin : i < s.badLink.n := by omega
  have WA := Lib.hid (fun W hb => with_any s.badLink i x W hb (HF.out s.badLink (by simp [Stt.lists])) hin)
  rw [hc] at C
  clear hp hs hc l0 l1 l2 l3 l4 l5 l6 hin
  have g1 : (i : Int) < (p.ln : Int) := by omega
  have hn0 : ¬ (i : Int) < 0 := by omega
  clear hx
  have hB0 : Below w.heap.size w ((((w.alloc (.cells (pBox0 p) 26)).alloc (.cells (sBox0 s) 29)).alloc (.cells #[.int .i64 3, .int .i64 i] 60)).alloc (.cells #[.slice none 0 0, .slice none 0 0, .slice none 0 0, .slice none 0 0, .slice none 0 0, .slice none 0 0, .slice none 0 0] 29)) := by (repeat' (first | (with_reducible exact Below.refl _ _) | (with_reducible assumption) | (with_reducible refine below_drewN ?_ _) | (with_reducible refine below_after (by assumption) ?_ ?_) | (with_reducible refine Below.drew ?_) | (with_reducible refine Below.alloc ?_ ?_ _) | (with_reducible refine Below.setCell ?_ ?_ _) | omega | (simp; omega) | (simp; done)))
  unfold Plt.val Stt.val at C
  unfold Plt.val Stt.val
  go_enter Tryz.func33, Tryz.ntmps33
  go_wp2_with fail
  refine (C.out _ (HP.out.next hB0) (HS.out.next hB0)).mono ?_
  rintro e w1 ⟨rfl, hB1⟩
  have hz1 := hB1.size
  simp only [World.size_alloc] at hz1
  have bP : Blk w1 w.heap.size 26 (pBox0 p) := (((show Blk _ _ _ _ from heap_alloc_new w (.cells (pBox0 p) 26)).alloc _).alloc _ |>.alloc _).below hB1 (by simp; omega)
  have bS : Blk w1 (w.heap.size + 1) 29 (sBox0 s) := by
    have h := heap_alloc_new (w.alloc (.cells (pBox0 p) 26)) (.cells (sBox0 s) 29)
    rw [World.size_alloc] at h
    exact (((show Blk _ _ _ _ from h).alloc _).alloc _).below hB1 (by simp)
  obtain ⟨x0, x1, hO, z2, z3⟩ := part_facts (kind := 3) (idx := (i : Int)) rfl hB1 (Below.refl _ _)
  obtain ⟨o0, o1, o2, o3, o4, o5, o6⟩ := cells7 hO
  have hBw1 : Below w.heap.size w w1 := hB0.trans (hB1.mono (by simp; omega))
  have p0 : w1.cell? ⟨w.heap.size, 0, none⟩ = some (.int .i64 p.buses) := bP.cell 0
  have p1 : w1.cell? ⟨w.heap.size, 1, none⟩ = some (.slice p.sA p.sn p.sc) := bP.cell 1
  have p2 : w1.cell? ⟨w.heap.size, 2, none⟩ = some (.slice p.lA p.ln p.lc) := bP.cell 2
  obtain ⟨s0, s1, s2, s3, s4, s5, s6⟩ := cells7 bS
  have HO0 := Lib.hid hO
  have HB0 := Lib.hid bS
  clear hO bP bS hB0 C o0 o1 o2 o3 o4 o5 o6
  go_wp2_with fail
  refine (WA.out _ (HS.out.badLink.next hBw1)).mono ?_
  rintro e w2 ⟨b', rfl, hl, ho, hB2⟩
  have hz2 := hB2.size
  have HO := Lib.hid ho
  have HL := Lib.hid hl
  have bR := HO0.out.below hB2 (Blk.lt HO0.out)
  have bS2 := HB0.out.below hB2 (Blk.lt HB0.out)
  obtain ⟨o0, o1, o2, o3, o4, o5, o6⟩ := cells7 bR
  obtain ⟨t0, t1, t2, t3, t4, t5, t6⟩ := cells7 bS2
  have fz := bR.frozen
  have fs := bS2.frozen
  have z4 : w.heap.size + 1 < w2.heap.size := by omega
  have z5 : w.heap.size + 1 + 1 + 1 < w2.heap.size := by omega
  have hBw2 : Below w.heap.size w w2 := hBw1.trans (hB2.mono (by omega))
  clear s0 s1 s2 s3 s4 s5 s6 p0 p1 p2 x0 x1 ho hl bR bS2 hB1 hB2
  (dsimp only; repeat' (first | go_values | go_skip | go_guarded | go_step | go_upon))
  refine bodyPost_ret (v := .tuple #[Stt.val { s with badLink := b' }, .int .i64 0]) ?_ rfl ⟨{ s with badLink := b' }, rfl, by (repeat' (first | (with_reducible exact Below.refl _ _) | (with_reducible assumption) | (with_reducible refine below_drewN ?_ _) | (with_reducible refine below_after (by assumption) ?_ ?_) | (with_reducible refine Below.drew ?_) | (with_reducible refine Below.alloc ?_ ?_ _) | (with_reducible refine Below.setCell ?_ ?_ _) | omega | (simp; omega) | (simp; done))), ?_, ?_⟩
  · simp [results, Tryz.results33, go_sem, Stt.val, o0, o1, o2, o3, o4, o5, o6, z4, z5]
  · have hBw : Below w.heap.size w ((((((((w2.setCell ⟨w.heap.size + 1, 2, none⟩ (.slice b'.A b'.n b'.c)).setCell ⟨w.heap.size + 1 + 1 + 1, 0, none⟩ (.slice s.closed.A s.closed.n s.closed.c)).setCell ⟨w.heap.size + 1 + 1 + 1, 1, none⟩ (.slice s.locked.A s.locked.n s.locked.c)).setCell ⟨w.heap.size + 1 + 1 + 1, 2, none⟩ (.slice b'.A b'.n b'.c)).setCell ⟨w.heap.size + 1 + 1 + 1, 3, none⟩ (.slice s.on.A s.on.n s.on.c)).setCell ⟨w.heap.size + 1 + 1 + 1, 4, none⟩ (.slice s.badSource.A s.badSource.n s.badSource.c)).setCell ⟨w.heap.size + 1 + 1 + 1, 5, none⟩ (.slice s.earthed.A s.earthed.n s.earthed.c)).setCell ⟨w.heap.size + 1 + 1 + 1, 6, none⟩ (.slice s.badBus.A s.badBus.n s.badBus.c)) := by (repeat' (first | (with_reducible exact Below.refl _ _) | (with_reducible assumption) | (with_reducible refine below_drewN ?_ _) | (with_reducible refine below_after (by assumption) ?_ ?_) | (with_reducible refine Below.drew ?_) | (with_reducible refine Below.alloc ?_ ?_ _) | (with_reducible refine Below.setCell ?_ ?_ _) | omega | (simp; omega) | (simp; done)))
    have hS : SttIn ((((((((w2.setCell ⟨w.heap.size + 1, 2, none⟩ (.slice b'.A b'.n b'.c)).setCell ⟨w.heap.size + 1 + 1 + 1, 0, none⟩ (.slice s.closed.A s.closed.n s.closed.c)).setCell ⟨w.heap.size + 1 + 1 + 1, 1, none⟩ (.slice s.locked.A s.locked.n s.locked.c)).setCell ⟨w.heap.size + 1 + 1 + 1, 2, none⟩ (.slice b'.A b'.n b'.c)).setCell ⟨w.heap.size + 1 + 1 + 1, 3, none⟩ (.slice s.on.A s.on.n s.on.c)).setCell ⟨w.heap.size + 1 + 1 + 1, 4, none⟩ (.slice s.badSource.A s.badSource.n s.badSource.c)).setCell ⟨w.heap.size + 1 + 1 + 1, 5, none⟩ (.slice s.earthed.A s.earthed.n s.earthed.c)).setCell ⟨w.heap.size + 1 + 1 + 1, 6, none⟩ (.slice s.badBus.A s.badBus.n s.badBus.c)) ((((((((w2.setCell ⟨w.heap.size + 1, 2, none⟩ (.slice b'.A b'.n b'.c)).setCell ⟨w.heap.size + 1 + 1 + 1, 0, none⟩ (.slice s.closed.A s.closed.n s.closed.c)).setCell ⟨w.heap.size + 1 + 1 + 1, 1, none⟩ (.slice s.locked.A s.locked.n s.locked.c)).setCell ⟨w.heap.size + 1 + 1 + 1, 2, none⟩ (.slice b'.A b'.n b'.c)).setCell ⟨w.heap.size + 1 + 1 + 1, 3, none⟩ (.slice s.on.A s.on.n s.on.c)).setCell ⟨w.heap.size + 1 + 1 + 1, 4, none⟩ (.slice s.badSource.A s.badSource.n s.badSource.c)).setCell ⟨w.heap.size + 1 + 1 + 1, 5, none⟩ (.slice s.earthed.A s.earthed.n s.earthed.c)).setCell ⟨w.heap.size + 1 + 1 + 1, 6, none⟩ (.slice s.badBus.A s.badBus.n s.badBus.c)).heap.size s := HS.out.next hBw
    have z6 : w.heap.size + 1 < w1.heap.size := by omega
    have hO8 : BsOwn ((((((((w2.setCell ⟨w.heap.size + 1, 2, none⟩ (.slice b'.A b'.n b'.c)).setCell ⟨w.heap.size + 1 + 1 + 1, 0, none⟩ (.slice s.closed.A s.closed.n s.closed.c)).setCell ⟨w.heap.size + 1 + 1 + 1, 1, none⟩ (.slice s.locked.A s.locked.n s.locked.c)).setCell ⟨w.heap.size + 1 + 1 + 1, 2, none⟩ (.slice b'.A b'.n b'.c)).setCell ⟨w.heap.size + 1 + 1 + 1, 3, none⟩ (.slice s.on.A s.on.n s.on.c)).setCell ⟨w.heap.size + 1 + 1 + 1, 4, none⟩ (.slice s.badSource.A s.badSource.n s.badSource.c)).setCell ⟨w.heap.size + 1 + 1 + 1, 5, none⟩ (.slice s.earthed.A s.earthed.n s.earthed.c)).setCell ⟨w.heap.size + 1 + 1 + 1, 6, none⟩ (.slice s.badBus.A s.badBus.n s.badBus.c)) w1.heap.size b' := ⟨ownsRow_setCell_below (ownsRow_setCell_below (ownsRow_setCell_below (ownsRow_setCell_below (ownsRow_setCell_below (ownsRow_setCell_below (ownsRow_setCell_below (ownsRow_setCell_below HO.out.own z6 _) z3 _) z3 _) z3 _) z3 _) z3 _) z3 _) z3 _, HO.out.len⟩
    exact ⟨hS.closed, hS.locked, bsIn_of hO8, hS.on, hS.badSource, hS.earthed, hS.badBus⟩
  · simp [brk, Stt.cont, Stt.lists, HL.out]

theorem Failed_any (p : Plt) (s : Stt) (K i : Int) (x : Bool) (w : World) (hp : PltIn w w.heap.size p) (hs : SttIn w w.heap.size s) :
    Calls Tryz.prog 33 #[p.val, s.val, .agg #[.int .i64 K, .int .i64 i], .bool x] w fun e w' => ∃ t : Stt, e = .returned (.tuple #[t.val, .int .i64 (failErr p s K i)]) ∧ Below w.heap.size w w' ∧ SttIn w' w'.heap.size t ∧ t.cont = failCont p s K i x := by
  by_cases he : failErr p s K i = 0
  · have hc : checkState p s = 0 := by
      unfold failErr at he
      split at he
      · assumption
      · exact he
    have hin : 0 ≤ i ∧ ((K = 1 ∧ i < p.buses) ∨ (K = 2 ∧ i < p.sn) ∨ (K = 3 ∧ i < p.ln)) := by
      unfold failErr at he
      rw [if_pos hc] at he
      split at he
      · assumption
      · omega
    have e2 : failCont p s K i x = (brk s K i.toNat x).cont := by unfold failCont; rw [if_pos he]
    rw [he, e2]
    obtain ⟨h0, hk⟩ := hin
    obtain ⟨m, rfl⟩ : ∃ m : Nat, i = (m : Int) := ⟨i.toNat, by omega⟩
    rcases hk with ⟨rfl, h⟩ | ⟨rfl, h⟩ | ⟨rfl, h⟩
    · exact Failed_ok1 p s m x w hp hs hc h
    · exact Failed_ok2 p s m x w hp hs hc (by omega)
    · exact Failed_ok3 p s m x w hp hs hc (by omega)
  · refine (Failed_bad p s K i x w hp hs he).mono ?_
    rintro e w' ⟨rfl, hB⟩
    exact ⟨nilS, rfl, hB, nilS_in _ _, by unfold failCont; rw [if_neg he]⟩
end Go.Proofs.YtigefkjabjnmjaaGreatDoor
