/- The reference's Failed. -/
import Derived.Test.YtigefkjabjnmjaaGreatDoorRefV
import Derived.Test.YtigefkjabjnmjaaGreatDoorCopy
import Derived.Test.YtigefkjabjnmjaaGreatDoorWithE
namespace Go.Proofs.YtigefkjabjnmjaaGreatDoor
open Go.RowKit

set_option maxRecDepth 100000 in
set_option maxHeartbeats 2000000 in
theorem with_any (b : Bs) (i : Nat) (x : Bool) (w : World) (hb : BsIn w w.heap.size b) (hn : b.n ≤ 140737488351232) (hi : i < b.n) :
    Calls Tryz.prog 78 #[.slice b.A b.n b.c, .int .i64 i, .bool x] w fun e w' => ∃ b' : Bs, e = .returned (.slice b'.A b'.n b'.c) ∧ b'.l = b.l.set i x ∧ BsOwn w' w.heap.size b' ∧ Below w.heap.size w w' := by
  obtain ⟨A, n, c, l⟩ := b
  obtain ⟨hr, hm⟩ := hb
  have hlen := hr.1
  obtain ⟨i0, hi', hz0, hz1, hz2⟩ := info_parts boolInfo
  dsimp only at hi
  cases A with
  | none =>
    obtain ⟨_, _, e, _⟩ := hr.2 (show 0 < n by omega)
    cases e
  | some ad =>
    simp only at hlen hn hr hm
    have hnews : Hid (∀ W, Below w.heap.size w W → ∀ j u, (l.map Value.bool)[j]? = some u → W.cell? (ad.add j) = some u) := by
      intro W hW j u hu
      replace hr := hr.below hW
      rw [List.getElem?_map] at hu
      obtain ⟨x, hx, rfl⟩ := Option.map_eq_some_iff.1 hu
      have hj := (List.getElem?_eq_some_iff.1 hx).1
      obtain ⟨b, off, e, hb, hc⟩ := hr.2 (by omega)
      cases e
      have := hc j x hx 0 _ rfl
      unfold Addr.add
      split
      · rename_i h0; subst h0; simpa using this
      · simpa using this
    clear hr
    go_enter Tryz.func78, Tryz.ntmps78
    go_wp2_with (at_builtin; refine wpList_append_own_at _ rfl (.tmp 8) (.tmp 9) 27 rfl w.heap.size 4 i0 (.bool false) 1 1 Tryz.underlying27 hi' hz0 hz1 hz2 rfl (by decide) (.slice (some ⟨w.heap.size, 0, none⟩) 0 0) 0 [] rfl (World.ownsRow_lit w #[] 0 (Nat.le_refl _) (by omega) (by simp)) ad n c (l.map Value.bool) rfl ?_ (hnews.out _ (by (repeat' (first | (with_reducible exact Below.refl _ _) | (with_reducible assumption) | (with_reducible refine below_drewN ?_ _) | (with_reducible refine below_after (by assumption) ?_ ?_) | (with_reducible refine Below.drew ?_) | (with_reducible refine Below.alloc ?_ ?_ _) | (with_reducible refine Below.setCell ?_ ?_ _) | omega | (simp; omega) | (simp; done))))) ?_ ?_ ?_ ?_ ?_)
    case _ => simp [hlen]
    case _ =>
      intro u hu
      obtain ⟨x, _, rfl⟩ := List.mem_map.1 hu
      rfl
    case _ => simp only [maxLen]; omega
    case _ => omega
    case _ => simp
    intro v' w1 hown hg _ hat
    have hB : Below w.heap.size w w1 := Below.grown (w := w.alloc (.cells #[] 4)) (by (repeat' (first | (with_reducible exact Below.refl _ _) | (with_reducible assumption) | (with_reducible refine below_drewN ?_ _) | (with_reducible refine below_after (by assumption) ?_ ?_) | (with_reducible refine Below.drew ?_) | (with_reducible refine Below.alloc ?_ ?_ _) | (with_reducible refine Below.setCell ?_ ?_ _) | omega | (simp; omega) | (simp; done)))) hg (by simp) (fun k e => by simp [Value.ownBlock] at e; omega)
    obtain ⟨g, c', rfl, hbg⟩ : ∃ g c', v' = .slice (some ⟨g, 0, none⟩) n c' ∧ w.heap.size ≤ g := by
      rcases hown.2 with ⟨e, h0⟩ | ⟨g, cap, cur, e, hb, _⟩
      · omega
      · exact ⟨_, _, e, hb⟩
    have cg : w1.cell? ⟨g, i, none⟩ = some (.bool (l[i]?.getD false)) := by
      rw [hown.cellAt i (by omega), List.getElem?_map, List.getElem?_eq_getElem (by omega)]
      rfl
    have fg := hown.frozenAt i
    have zg : g < w1.heap.size := (hown.lt g rfl).2
    have hi0 : (0 : Int) ≤ (i : Int) := by omega
    have hin : (i : Int) < (n : Int) := by omega
    have HO : Hid (BsOwn w1 w.heap.size ⟨some ⟨g, 0, none⟩, n, c', l⟩) := ⟨hown, hlen⟩
    have S := lists_stored (L := [⟨some ⟨g, 0, none⟩, n, c', l⟩]) (fun b hb => by simp only [List.mem_singleton] at hb; subst hb; exact HO.out) (by simp) (j := 0) rfl rfl i x
    have HS : Hid (BsOwn (w1.setCell ⟨g, i, none⟩ (.bool x)) w.heap.size ⟨some ⟨g, 0, none⟩, n, c', l.set i x⟩) := S.1 _ (by simp)
    clear hown hat hg S
    go_wp2
    go_ret
    exact ⟨⟨some ⟨g, 0, none⟩, n, c', l.set i x⟩, rfl, rfl, HS.out, by (repeat' (first | (with_reducible exact Below.refl _ _) | (with_reducible assumption) | (with_reducible refine below_drewN ?_ _) | (with_reducible refine below_after (by assumption) ?_ ?_) | (with_reducible refine Below.drew ?_) | (with_reducible refine Below.alloc ?_ ?_ _) | (with_reducible refine Below.setCell ?_ ?_ _) | omega | (simp; omega) | (simp; done)))⟩

set_option maxRecDepth 100000 in
set_option maxHeartbeats 8000000 in
theorem Failed_bad (p : Plt) (s : Stt) (K i : Int) (x : Bool) (w : World) (hp : PltIn w w.heap.size p) (hs : SttIn w w.heap.size s) (h0 : failErr p s K i ≠ 0) :
    Calls Tryz.prog 33 #[p.val, s.val, .agg #[.int .i64 K, .int .i64 i], .bool x] w fun e w' => e = .returned (.tuple #[nilStt, .int .i64 (failErr p s K i)]) ∧ Below w.heap.size w w' := by
  have C := Lib.hid (fun W hp hs => refCheckState_any p s W hp hs)
  have HP := Lib.hid hp
  have HS := Lib.hid hs
  clear hp hs
  obtain ⟨fe, hfe⟩ : ∃ q, failErr p s K i = q := ⟨_, rfl⟩
  rw [hfe] at h0 ⊢
  have hB0 : Below w.heap.size w ((((w.alloc (.cells (pBox0 p) 26)).alloc (.cells (sBox0 s) 29)).alloc (.cells #[.int .i64 K, .int .i64 i] 60)).alloc (.cells #[.slice none 0 0, .slice none 0 0, .slice none 0 0, .slice none 0 0, .slice none 0 0, .slice none 0 0, .slice none 0 0] 29)) := by (repeat' (first | (with_reducible exact Below.refl _ _) | (with_reducible assumption) | (with_reducible refine below_drewN ?_ _) | (with_reducible refine below_after (by assumption) ?_ ?_) | (with_reducible refine Below.drew ?_) | (with_reducible refine Below.alloc ?_ ?_ _) | (with_reducible refine Below.setCell ?_ ?_ _) | omega | (simp; omega) | (simp; done)))
  unfold Plt.val Stt.val at C ⊢
  obtain ⟨cv, hcv⟩ : ∃ q, checkState p s = q := ⟨_, rfl⟩
  rw [hcv] at C
  go_enter Tryz.func33, Tryz.ntmps33
  go_wp2_with fail
  refine (C.out _ (HP.out.next hB0) (HS.out.next hB0)).mono ?_
  rintro e w1 ⟨rfl, hB1⟩
  have hz1 := hB1.size
  simp only [World.size_alloc] at hz1
  obtain ⟨hc1, hf1⟩ := bcell hB1
  have bP : Blk w1 w.heap.size 26 (pBox0 p) := (((show Blk _ _ _ _ from heap_alloc_new w (.cells (pBox0 p) 26)).alloc _).alloc _ |>.alloc _).below hB1 (by simp; omega)
  obtain ⟨x0, x1, hO, z2, z3⟩ := part_facts (kind := K) (idx := i) rfl hB1 (Below.refl _ _)
  obtain ⟨o0, o1, o2, o3, o4, o5, o6⟩ := cells7 hO
  have fz := hO.frozen
  have p0 : w1.cell? ⟨w.heap.size, 0, none⟩ = some (.int .i64 p.buses) := bP.cell 0
  have p1 : w1.cell? ⟨w.heap.size, 1, none⟩ = some (.slice p.sA p.sn p.sc) := bP.cell 1
  have p2 : w1.cell? ⟨w.heap.size, 2, none⟩ = some (.slice p.lA p.ln p.lc) := bP.cell 2
  clear hO hc1 hf1 bP hB0 C
  have hl := HP.out.hl
  have hsn := HP.out.hs
  by_cases hc : cv = 0
  case neg =>
    have e1 : fe = cv := by rw [← hfe]; unfold failErr; rw [hcv, if_neg hc]
    subst e1
    clear hfe hcv
    (dsimp only; repeat' (first | go_values | go_skip | go_guarded | go_step | go_upon))
    refine bodyPost_ret (v := .tuple #[nilStt, .int .i64 fe]) ?_ rfl ⟨rfl, by (repeat' (first | (with_reducible exact Below.refl _ _) | (with_reducible assumption) | (with_reducible refine below_drewN ?_ _) | (with_reducible refine below_after (by assumption) ?_ ?_) | (with_reducible refine Below.drew ?_) | (with_reducible refine Below.alloc ?_ ?_ _) | (with_reducible refine Below.setCell ?_ ?_ _) | omega | (simp; omega) | (simp; done)))⟩
    simp [results, Tryz.results33, go_sem, nilStt, o0, o1, o2, o3, o4, o5, o6, z3]
  subst hc
  have e1 : ¬ (0 ≤ i ∧ ((K = 1 ∧ i < p.buses) ∨ (K = 2 ∧ i < p.sn) ∨ (K = 3 ∧ i < p.ln))) := fun h => by
    apply h0
    rw [← hfe]
    unfold failErr
    rw [hcv, if_pos rfl, if_pos h]
  have e2 : fe = 14 := by
    rw [← hfe]
    unfold failErr
    rw [hcv, if_pos rfl, if_neg e1]
  subst e2
  clear hfe hcv h0
  by_cases hi : i < 0
  · (dsimp only; repeat' (first | go_values | go_skip | go_guarded | go_step | go_upon))
    refine bodyPost_ret (v := .tuple #[nilStt, .int .i64 14]) ?_ rfl ⟨rfl, by (repeat' (first | (with_reducible exact Below.refl _ _) | (with_reducible assumption) | (with_reducible refine below_drewN ?_ _) | (with_reducible refine below_after (by assumption) ?_ ?_) | (with_reducible refine Below.drew ?_) | (with_reducible refine Below.alloc ?_ ?_ _) | (with_reducible refine Below.setCell ?_ ?_ _) | omega | (simp; omega) | (simp; done)))⟩
    simp [results, Tryz.results33, go_sem, nilStt, o0, o1, o2, o3, o4, o5, o6, z3]
  by_cases k1 : K = 1
  · have g1 : ¬ i < p.buses := fun h => e1 ⟨by omega, .inl ⟨k1, h⟩⟩
    have hn0 : ¬ i < 0 := hi
    subst k1
    clear e1
    (dsimp only; repeat' (first | go_values | go_skip | go_guarded | go_step | go_upon))
    refine bodyPost_ret (v := .tuple #[nilStt, .int .i64 14]) ?_ rfl ⟨rfl, by (repeat' (first | (with_reducible exact Below.refl _ _) | (with_reducible assumption) | (with_reducible refine below_drewN ?_ _) | (with_reducible refine below_after (by assumption) ?_ ?_) | (with_reducible refine Below.drew ?_) | (with_reducible refine Below.alloc ?_ ?_ _) | (with_reducible refine Below.setCell ?_ ?_ _) | omega | (simp; omega) | (simp; done)))⟩
    simp [results, Tryz.results33, go_sem, nilStt, o0, o1, o2, o3, o4, o5, o6, z3]
  by_cases k2 : K = 2
  · have g1 : ¬ i < (p.sn : Int) := fun h => e1 ⟨by omega, .inr (.inl ⟨k2, h⟩)⟩
    have hn0 : ¬ i < 0 := hi
    subst k2
    clear e1
    (dsimp only; repeat' (first | go_values | go_skip | go_guarded | go_step | go_upon))
    refine bodyPost_ret (v := .tuple #[nilStt, .int .i64 14]) ?_ rfl ⟨rfl, by (repeat' (first | (with_reducible exact Below.refl _ _) | (with_reducible assumption) | (with_reducible refine below_drewN ?_ _) | (with_reducible refine below_after (by assumption) ?_ ?_) | (with_reducible refine Below.drew ?_) | (with_reducible refine Below.alloc ?_ ?_ _) | (with_reducible refine Below.setCell ?_ ?_ _) | omega | (simp; omega) | (simp; done)))⟩
    simp [results, Tryz.results33, go_sem, nilStt, o0, o1, o2, o3, o4, o5, o6, z3]
  by_cases k3 : K = 3
  · have g1 : ¬ i < (p.ln : Int) := fun h => e1 ⟨by omega, .inr (.inr ⟨k3, h⟩)⟩
    have hn0 : ¬ i < 0 := hi
    subst k3
    clear e1
    (dsimp only; repeat' (first | go_values | go_skip | go_guarded | go_step | go_upon))
    refine bodyPost_ret (v := .tuple #[nilStt, .int .i64 14]) ?_ rfl ⟨rfl, by (repeat' (first | (with_reducible exact Below.refl _ _) | (with_reducible assumption) | (with_reducible refine below_drewN ?_ _) | (with_reducible refine below_after (by assumption) ?_ ?_) | (with_reducible refine Below.drew ?_) | (with_reducible refine Below.alloc ?_ ?_ _) | (with_reducible refine Below.setCell ?_ ?_ _) | omega | (simp; omega) | (simp; done)))⟩
    simp [results, Tryz.results33, go_sem, nilStt, o0, o1, o2, o3, o4, o5, o6, z3]
  have hn0 : ¬ i < 0 := hi
  clear e1
  (dsimp only; repeat' (first | go_values | go_skip | go_guarded | go_step | go_upon))
  refine bodyPost_ret (v := .tuple #[nilStt, .int .i64 14]) ?_ rfl ⟨rfl, by (repeat' (first | (with_reducible exact Below.refl _ _) | (with_reducible assumption) | (with_reducible refine below_drewN ?_ _) | (with_reducible refine below_after (by assumption) ?_ ?_) | (with_reducible refine Below.drew ?_) | (with_reducible refine Below.alloc ?_ ?_ _) | (with_reducible refine Below.setCell ?_ ?_ _) | omega | (simp; omega) | (simp; done)))⟩
  simp [results, Tryz.results33, go_sem, nilStt, o0, o1, o2, o3, o4, o5, o6, z3]
end Go.Proofs.YtigefkjabjnmjaaGreatDoor
