/- keep: isRight, Verify. -/
import Derived.Test.YtalngalikblgkaaKpVb

set_option linter.unusedSimpArgs false
set_option linter.unusedVariables false
namespace Go.Proofs.Ytalngalikblgkaa
open Go.RowKit

/-- Whether a certificate is right. -/
def rightB (g : Gm) (inn : List Bool) (ctl rnk : List Int) : Bool := (List.range g.S).all (rightF g inn ctl rnk)
theorem rightB_no {g : Gm} {inn : List Bool} {ctl rnk : List Int} {s : Nat} (hs : s < g.S) (h : rightF g inn ctl rnk s = false) : rightB g inn ctl rnk = false := by
  unfold rightB
  rw [List.all_eq_false]
  exact ⟨s, List.mem_range.2 hs, by rw [h]; decide⟩
theorem rightB_yes {g : Gm} {inn : List Bool} {ctl rnk : List Int} (h : ∀ s < g.S, rightF g inn ctl rnk s = true) : rightB g inn ctl rnk = true := by
  unfold rightB
  rw [List.all_eq_true]
  exact fun s hs => h s (List.mem_range.1 hs)
theorem rightB_iff {g : Gm} {inn : List Bool} {ctl rnk : List Int} : rightB g inn ctl rnk = true ↔ ∀ s < g.S, rightF g inn ctl rnk s = true := by
  unfold rightB
  rw [List.all_eq_true]
  exact ⟨fun h s hs => h s (List.mem_range.2 hs), fun h s hs => h s (List.mem_range.1 hs)⟩
set_option maxRecDepth 100000 in
set_option maxHeartbeats 2000000 in
theorem isRight_any (nA : Option Addr) (nn nc gb go gc ib io ic cb co cc rb ro rc : Nat) (g : Gm) (inn : List Bool) (ctl rnk : List Int) (w : World) (hin : GmIn w w.heap.size ⟨nA, some ⟨gb, go, none⟩, nn, nc, g.S, gc⟩ g) (ok : GmOk g) (hI : Rd w w.heap.size 1 encB (some ⟨ib, io, none⟩) g.S inn) (hC : Rd w w.heap.size 1 encI (some ⟨cb, co, none⟩) g.S ctl) (hR : Rd w w.heap.size 1 encI (some ⟨rb, ro, none⟩) g.S rnk) :
    Calls Try.prog 54 #[.agg #[.int .i64 (g.S : Int), .int .i64 (g.C : Int), .int .i64 (g.H : Int), .slice nA nn nc, .slice (some ⟨gb, go, none⟩) g.S gc, .slice (some ⟨ib, io, none⟩) g.S ic, .slice (some ⟨cb, co, none⟩) g.S cc, .slice (some ⟨rb, ro, none⟩) g.S rc]] w fun e w' => e = .returned (.bool (rightB g inn ctl rnk)) ∧ Below w.heap.size w w' := by
  have KF := Lib.hid (fun (s : Nat) W (h : Below w.heap.size w W) (hs : s < g.S) => rightFor_any nA nn nc gb go gc ib io ic cb co cc rb ro rc g inn ctl rnk s W (hin.next' h) ok (hI.next h) (hC.next h) (hR.next h) hs)
  have hs1 := ok.s1
  obtain ⟨res, hres⟩ : ∃ z, z = rightB g inn ctl rnk := ⟨_, rfl⟩
  have HRES := Lib.hid hres
  rw [← hres]
  clear hin ok hI hC hR hres
  go_enter Try.func54, Try.ntmps54
  have d1 : ((g.S : Int) == (g.S : Int)) = true := beq_self_eq_true _
  go_wp2_with fail
  obtain ⟨bx, hbx⟩ : ∃ z, z = w.heap.size := ⟨_, rfl⟩
  obtain ⟨w1, hw1⟩ : ∃ z, z = w.alloc (.cells #[.int .i64 (g.S : Int), .int .i64 (g.C : Int), .int .i64 (g.H : Int), .slice nA nn nc, .slice (some ⟨gb, go, none⟩) g.S gc, .slice (some ⟨ib, io, none⟩) g.S ic, .slice (some ⟨cb, co, none⟩) g.S cc, .slice (some ⟨rb, ro, none⟩) g.S rc] 92) := ⟨_, rfl⟩
  have hi1 : Below w.heap.size w w1 := by rw [hw1]; exact (Below.refl _ _).alloc (Nat.le_refl _) _
  have HBX : Hid (Blk w1 bx 92 #[.int .i64 (g.S : Int), .int .i64 (g.C : Int), .int .i64 (g.H : Int), .slice nA nn nc, .slice (some ⟨gb, go, none⟩) g.S gc, .slice (some ⟨ib, io, none⟩) g.S ic, .slice (some ⟨cb, co, none⟩) g.S cc, .slice (some ⟨rb, ro, none⟩) g.S rc]) := Lib.hid (by rw [hw1, hbx]; exact heap_alloc_new w _)
  rw [← hw1, ← hbx]
  have HL := Lib.hid hi1
  clear hw1 hbx hi1
  go_loopw [35] (fun i wr => ∃ s : Nat, s ≤ g.S ∧ i = .int .i64 s ∧ Hid (Below w1.heap.size w1 wr ∧ ∀ t < s, rightF g inn ctl rnk t = true)) (fun i _ => g.S - (intOf i).toNat)
  case atStart => exact ⟨0, by omega, rfl, Lib.hid ⟨Below.refl _ _, fun t ht => absurd ht (by omega)⟩⟩
  case round =>
    obtain ⟨s, hs, rfl, HW⟩ := hrel
    by_cases hlt : s < g.S
    · have K := Lib.hid (KF.out s wr (below3 HL.out HW.out.1 (Nat.le_refl _)) hlt)
      obtain ⟨q, hq⟩ : ∃ z, z = rightF g inn ctl rnk s := ⟨_, rfl⟩
      have HQ := Lib.hid hq
      rw [← hq] at K
      have hk0 : (0 : Int) ≤ (s : Int) := by omega
      have hkn : (s : Int) < (g.S : Int) := by omega
      clear hq
      have hbk := HBX.out.below HW.out.1 HBX.out.lt
      have e0 := hbk.cell 0
      have e1 := hbk.cell 1
      have e2 := hbk.cell 2
      have e3 := hbk.cell 3
      have e4 := hbk.cell 4
      have e5 := hbk.cell 5
      have e6 := hbk.cell 6
      have e7 := hbk.cell 7
      have ze := hbk.lt
      simp only [List.getElem?_toArray, List.getElem?_cons_zero, List.getElem?_cons_succ] at e0 e1 e2 e3 e4 e5 e6 e7
      clear hbk
      go_wp2_with fail
      refine K.out.mono ?_
      rintro e w2 ⟨rfl, hB2⟩
      have HW2 := Lib.hid (below3 HW.out.1 hB2 (Nat.le_refl _))
      clear hB2 e0 e1 e2 e3 e4 e5 e6 e7 ze
      cases q
      · go_wp2
        go_ret
        exact ⟨ret_bool (by rw [HRES.out, rightB_no hlt HQ.out.symm]), below3 HL.out HW2.out (Nat.le_refl _)⟩
      · go_wp2
        go_roundw
        case rel => exact ⟨s + 1, by omega, by go_num, Lib.hid ⟨HW2.out, fun t ht => by
          rcases Nat.lt_succ_iff_lt_or_eq.1 ht with h | h
          · exact HW.out.2 t h
          · rw [h]; exact HQ.out.symm⟩⟩
        case measure => simp [intOf]; omega
    · obtain rfl : g.S = s := by omega
      go_wp2
      go_ret
      exact ⟨ret_bool (by rw [HRES.out, rightB_yes HW.out.2]), below3 HL.out HW.out.1 (Nat.le_refl _)⟩
/-- What Verify answers. -/
def verifyN (b : Bool) : Int := if b then 0 else 7
set_option maxRecDepth 100000 in
set_option maxHeartbeats 2000000 in
theorem Verify_any (nA : Option Addr) (nn nc gb go gc ib io ic cb co cc rb ro rc : Nat) (g : Gm) (inn : List Bool) (ctl rnk : List Int) (w : World) (hin : GmIn w w.heap.size ⟨nA, some ⟨gb, go, none⟩, nn, nc, g.S, gc⟩ g) (ok : GmOk g) (hI : Rd w w.heap.size 1 encB (some ⟨ib, io, none⟩) g.S inn) (hC : Rd w w.heap.size 1 encI (some ⟨cb, co, none⟩) g.S ctl) (hR : Rd w w.heap.size 1 encI (some ⟨rb, ro, none⟩) g.S rnk) :
    Calls Try.prog 23 #[.agg #[.int .i64 (g.S : Int), .int .i64 (g.C : Int), .int .i64 (g.H : Int), .slice nA nn nc, .slice (some ⟨gb, go, none⟩) g.S gc], .agg #[.slice (some ⟨ib, io, none⟩) g.S ic, .slice (some ⟨cb, co, none⟩) g.S cc, .slice (some ⟨rb, ro, none⟩) g.S rc]] w fun e w' => e = .returned (.int .i64 (verifyN (rightB g inn ctl rnk))) ∧ Below w.heap.size w w' := by
  have KC := Lib.hid (fun W (h : Below w.heap.size w W) => check_ok nA (some ⟨gb, go, none⟩) nn nc g.S gc g W (hin.next' h) ok)
  have KR := Lib.hid (fun W (h : Below w.heap.size w W) => isRight_any nA nn nc gb go gc ib io ic cb co cc rb ro rc g inn ctl rnk W (hin.next' h) ok (hI.next h) (hC.next h) (hR.next h))
  obtain ⟨q, hq⟩ : ∃ z, z = rightB g inn ctl rnk := ⟨_, rfl⟩
  rw [← hq] at KR ⊢
  clear hin ok hI hC hR hq
  go_enter Try.func23, Try.ntmps23
  go_wp2_with fail
  obtain ⟨bx, hbx⟩ : ∃ z, z = w.heap.size := ⟨_, rfl⟩
  obtain ⟨by', hby⟩ : ∃ z, z = bx + 1 := ⟨_, rfl⟩
  obtain ⟨w1, hw1⟩ : ∃ z, z = (w.alloc (.cells #[.int .i64 (g.S : Int), .int .i64 (g.C : Int), .int .i64 (g.H : Int), .slice nA nn nc, .slice (some ⟨gb, go, none⟩) g.S gc] 25)).alloc (.cells #[.slice (some ⟨ib, io, none⟩) g.S ic, .slice (some ⟨cb, co, none⟩) g.S cc, .slice (some ⟨rb, ro, none⟩) g.S rc] 27) := ⟨_, rfl⟩
  have hi1 : Below w.heap.size w w1 := by rw [hw1]; (repeat' (first | (with_reducible exact Below.refl _ _) | (with_reducible assumption) | (with_reducible refine below_drewN ?_ _) | (with_reducible refine below_after (by assumption) ?_ ?_) | (with_reducible refine Below.drew ?_) | (with_reducible refine Below.alloc ?_ ?_ _) | (with_reducible refine Below.setCell ?_ ?_ _) | omega | (simp; omega) | (simp; done)))
  have hb1 : Blk w1 bx 25 #[.int .i64 (g.S : Int), .int .i64 (g.C : Int), .int .i64 (g.H : Int), .slice nA nn nc, .slice (some ⟨gb, go, none⟩) g.S gc] := by rw [hw1, hbx]; exact Blk.alloc (heap_alloc_new w _) _
  have hb2 : Blk w1 by' 27 #[.slice (some ⟨ib, io, none⟩) g.S ic, .slice (some ⟨cb, co, none⟩) g.S cc, .slice (some ⟨rb, ro, none⟩) g.S rc] := by
    have e2 := heap_alloc_new (w.alloc (.cells #[.int .i64 (g.S : Int), .int .i64 (g.C : Int), .int .i64 (g.H : Int), .slice nA nn nc, .slice (some ⟨gb, go, none⟩) g.S gc] 25)) (.cells #[.slice (some ⟨ib, io, none⟩) g.S ic, .slice (some ⟨cb, co, none⟩) g.S cc, .slice (some ⟨rb, ro, none⟩) g.S rc] 27)
    simp only [World.size_alloc] at e2
    rw [hw1, hby, hbx]
    exact e2
  rw [← hw1, ← hbx, ← hby]
  clear hw1 hbx hby
  refine (KC.out _ hi1).mono ?_
  rintro e w2 ⟨rfl, hB2⟩
  have HL2 := Lib.hid (below3 hi1 hB2 (Nat.le_refl _))
  have h1 := hb1.below hB2 hb1.lt
  have h2 := hb2.below hB2 hb2.lt
  have hbk := h1
  have e0 := hbk.cell 0
  have e1 := hbk.cell 1
  have e2 := hbk.cell 2
  have e3 := hbk.cell 3
  have e4 := hbk.cell 4
  have ze := hbk.lt
  simp only [List.getElem?_toArray, List.getElem?_cons_zero, List.getElem?_cons_succ] at e0 e1 e2 e3 e4
  clear hbk
  have hbk := h2
  have o0 := hbk.cell 0
  have o1 := hbk.cell 1
  have o2 := hbk.cell 2
  have zo := hbk.lt
  simp only [List.getElem?_toArray, List.getElem?_cons_zero, List.getElem?_cons_succ] at o0 o1 o2
  clear hbk
  clear hB2 hi1 hb1 hb2 h1 h2
  go_wp2_with fail
  refine (KR.out _ HL2.out).mono ?_
  rintro e w3 ⟨rfl, hB3⟩
  have HL3 := Lib.hid (below3 HL2.out hB3 (Nat.le_refl _))
  clear hB3
  cases q
  · go_wp2
    go_ret
    exact ⟨rfl, HL3.out⟩
  · go_wp2
    go_ret
    exact ⟨rfl, HL3.out⟩
end Go.Proofs.Ytalngalikblgkaa
