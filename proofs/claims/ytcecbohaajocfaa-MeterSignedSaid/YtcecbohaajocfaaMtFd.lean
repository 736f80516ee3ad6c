/- meter: Sign. -/
import Derived.Test.YtcecbohaajocfaaMtFc
import Derived.Maps.AppendAt
import Derived.Carry

set_option linter.unusedSimpArgs false
set_option linter.unusedVariables false
namespace Go.Proofs.Ytcecbohaajocfaa
open Go.RowKit

theorem linkInfo : (Try.prog.info? 67).map (fun i => (i.zero, i.size, i.bytes)) = some (some (.agg #[.int .i64 0, .int .i64 0, .int .i64 0, .int .u64 0]), 4, 32) := by kernel_rfl
set_option maxRecDepth 100000 in
set_option maxHeartbeats 4000000 in
theorem Sign_any (key : Int) (A : Option Addr) (n c : Nat) (l : List Rg) (w : World) (hr : Rd w w.heap.size 3 Rg.enc A n l) (ok : RgsOk l) (hn : n ≤ 4096) :
    Calls Try.prog 22 #[.int .u64 key, .slice A n c] w fun e w' => ∃ (A' : Option Addr) (c' : Nat), e = .returned (.tuple #[.slice A' n c', .int .i64 0]) ∧ w'.ownsRow w.heap.size 67 4 (.slice A' n c') n ((chL key l n).flatMap encLk) ∧ Below w.heap.size w w' := by
  have HR := Lib.hid (And.intro hr (And.intro ok (And.intro hr.1 hn)))
  obtain ⟨i0, hi0, hz0, hz1, hz2⟩ := info_parts linkInfo
  have hi := Lib.hid (And.intro hi0 (And.intro hz0 (And.intro hz1 hz2)))
  have h4 : ¬ ((4096 : Int) < (n : Int)) := by omega
  have hn0 : (0 : Int) ≤ (n : Int) := by omega
  clear hr ok hn hi0 hz0 hz1 hz2
  go_enter Try.func22, Try.ntmps22
  have hmk : ∀ W, (Instr.makeMap 126 none).run Try.prog W = .ok (.map (some W.heap.size)) (W.alloc (.map #[] 0)) := fun W => by first | exact run_makeMap .. | simp [Instr.makeMap] | (kernel_rfl)
  go_wp2_with fail
  obtain ⟨mb, hmb⟩ : ∃ z, z = w.heap.size := ⟨_, rfl⟩
  obtain ⟨w1, hw1⟩ : ∃ z, z = w.alloc (.map #[] 0) := ⟨_, rfl⟩
  have HW1 : Hid (RegS w1 mb [] ∧ Below w.heap.size w w1 ∧ w.heap.size ≤ mb) := Lib.hid ⟨by rw [hw1, hmb]; exact RegS.made w, by rw [hw1]; exact (Below.refl _ _).alloc (Nat.le_refl _) _, by omega⟩
  rw [← hw1, ← hmb]
  clear hw1 hmb hmk
  refine (start_any key w1).mono ?_
  rintro e w2 ⟨rfl, rfl⟩
  obtain ⟨sg, hsg⟩ : ∃ z : Nat → Int, z = sgK key l := ⟨_, rfl⟩
  have HSG : Hid (sg = sgK key l) := Lib.hid hsg
  have h0 : mixF key 1 = sg 0 := by rw [hsg]; rfl
  rw [h0]
  clear h0 hsg
  have HL0 : Hid (Below w.heap.size w w2 ∧ RegS w2 mb (slotsK l 0) ∧ w2.ownsRow w.heap.size 67 4 (.slice none 0 0) 0 ((chL key l 0).flatMap encLk)) := Lib.hid ⟨HW1.out.2.1, HW1.out.1, World.ownsRow_nil _ _ _ _⟩
  go_wp2
  go_loopw [6, 8, 20] (fun cv sv iv wr => ∃ (k : Nat) (A' : Option Addr) (ca : Nat), k ≤ n ∧ cv = .slice A' k ca ∧ sv = .int .u64 (sg k) ∧ iv = .int .i64 ((k : Nat) : Int) ∧ Hid (Below w.heap.size w wr ∧ RegS wr mb (slotsK l k) ∧ wr.ownsRow w.heap.size 67 4 (.slice A' k ca) k ((chL key l k).flatMap encLk))) (fun _ _ iv _ => n - (intOf iv).toNat)
  case atStart => exact ⟨0, none, 0, Nat.zero_le _, rfl, rfl, rfl, HL0⟩
  case round =>
    obtain ⟨k, A', ca, hk, rfl, rfl, rfl, HX⟩ := hrel
    by_cases hlt : k < n
    · have HLT : Hid (k < n) := Lib.hid hlt
      have hk0 : (0 : Int) ≤ (k : Int) := by omega
      have hkn : (k : Int) < (n : Int) := by omega
      have hk9 : (k : Int) ≤ 4096 := by have := HR.out; omega
      obtain ⟨ab, ao, eA, hab, ca0, ca1, ca2⟩ := rg_at HR.out.1 hlt
      have d0 := (HX.out.1.cell (p := ⟨ab, ao + k * 3, none⟩) hab).trans ca0
      have d1 := (HX.out.1.cell (p := ⟨ab, ao + k * 3 + 1, none⟩) hab).trans ca1
      have d2 := (HX.out.1.cell (p := ⟨ab, ao + k * 3 + 2, none⟩) hab).trans ca2
      have za : ab < wr.heap.size := Nat.lt_of_lt_of_le hab HX.out.1.size
      have hok := HR.out.2.1.ok k (by rw [HR.out.2.2.1]; exact hlt)
      have hnot := slotsK_not HR.out.2.1.dis (k := k) (by rw [HR.out.2.2.1]; exact hlt) k (Nat.le_refl _)
      obtain ⟨r, hrr⟩ : ∃ z, z = rgA l k := ⟨_, rfl⟩
      rw [← hrr] at d0 d1 d2 hok hnot
      have HRR := Lib.hid (And.intro hrr (And.intro hok hnot))
      have KEN := fun W (hW : RegS W mb (slotsK l k)) => enter_any mb (slotsK l k) r hok W hW hnot (by rw [slotsK_len]; omega)
      have HKEN := Lib.hid KEN
      have HKS := Lib.hid (fun W => sign_any key (sg k) r hok W)
      obtain ⟨xb, hxb⟩ : ∃ z, z = wr.heap.size := ⟨_, rfl⟩
      obtain ⟨wx, hwx⟩ : ∃ z, z = wr.alloc (.cells #[.int .i64 r.m, .int .i64 r.h, .int .i64 r.v] 65) := ⟨_, rfl⟩
      have hBx : Below wr.heap.size wr wx := by rw [hwx]; exact (Below.refl _ _).alloc (Nat.le_refl _) _
      have HXB : Hid (Blk wx xb 65 #[.int .i64 r.m, .int .i64 r.h, .int .i64 r.v]) := Lib.hid (by rw [hwx, hxb]; exact heap_alloc_new wr _)
      have HX1 : Hid (Below w.heap.size w wx ∧ RegS wx mb (slotsK l k) ∧ wx.ownsRow w.heap.size 67 4 (.slice A' k ca) k ((chL key l k).flatMap encLk)) := Lib.hid ⟨below3 HX.out.1 hBx (Nat.le_refl _), HX.out.2.1.next hBx, row_next HX.out.2.2 hBx⟩
      have g1 : wr.heap.size < wr.heap.size + 1 := by omega
      clear hlt hk hab ca0 ca1 ca2 hok hnot hrr KEN hBx
      subst eA
      go_wp2_with fail
      rw [← hwx, ← hxb]
      clear hwx hxb d0 d1 d2 za g1
      refine (HKEN.out wx HX1.out.2.1).mono ?_
      rintro e w5 ⟨rfl, hr5, hk5⟩
      have H5 : Hid (Below w.heap.size w w5 ∧ RegS w5 mb (slotsK l (k + 1)) ∧ w5.ownsRow w.heap.size 67 4 (.slice A' k ca) k ((chL key l k).flatMap encLk) ∧ Blk w5 xb 65 #[.int .i64 r.m, .int .i64 r.h, .int .i64 r.v]) := Lib.hid ⟨HX1.out.1.trans (hk5.below HX1.out.1.size (fun b e => by rw [e]; exact HW1.out.2.2)), by unfold slotsK; rw [← HRR.out.1]; exact hr5, HX1.out.2.2.kept ⟨hk5.os, hk5.tape, hk5.output, hk5.size, fun q hq hne => hk5.block q hq (fun e => hne (by rw [e]))⟩ (Or.inr (HX1.out.2.1.ne HX1.out.2.2)), hk5.blk HXB.out (fun e => HX1.out.2.1.neB HXB.out e)⟩
      clear hr5 hk5
      have e0 := H5.out.2.2.2.cell 0
      have e1 := H5.out.2.2.2.cell 1
      have e2 := H5.out.2.2.2.cell 2
      simp only [List.getElem?_toArray, List.getElem?_cons_zero, List.getElem?_cons_succ] at e0 e1 e2
      have ze := H5.out.2.2.2.lt
      go_wp2_with fail
      refine (HKS.out w5).mono ?_
      rintro e w6 ⟨rfl, hB6⟩
      have H6 : Hid (Below w.heap.size w w6 ∧ RegS w6 mb (slotsK l (k + 1)) ∧ w6.ownsRow w.heap.size 67 4 (.slice A' k ca) k ((chL key l k).flatMap encLk) ∧ Blk w6 xb 65 #[.int .i64 r.m, .int .i64 r.h, .int .i64 r.v]) := Lib.hid ⟨below3 H5.out.1 hB6 (Nat.le_refl _), H5.out.2.1.next hB6, row_next H5.out.2.2.1 hB6, H5.out.2.2.2.below hB6 H5.out.2.2.2.lt⟩
      clear hB6 e0 e1 e2 ze
      have e0 := H6.out.2.2.2.cell 0
      have e1 := H6.out.2.2.2.cell 1
      have e2 := H6.out.2.2.2.cell 2
      simp only [List.getElem?_toArray, List.getElem?_cons_zero, List.getElem?_cons_succ] at e0 e1 e2
      have ze := H6.out.2.2.2.lt
      have hs1 : signF key (sg k) r = sg (k + 1) := by rw [HSG.out, HRR.out.1]; rfl
      rw [hs1]
      clear hs1
      obtain ⟨s1, hs1⟩ : ∃ z, z = sg (k + 1) := ⟨_, rfl⟩
      have HS1 : Hid (s1 = sgK key l (k + 1)) := Lib.hid (by rw [hs1, HSG.out])
      rw [← hs1]
      have g1 : w6.heap.size < w6.heap.size + 1 := by omega
      have HS2 := Lib.hid hs1
      clear hs1
      go_wp2_with (at_builtin; refine wpList_append_own_at _ rfl (.tmp 34) (.tmp 38) 58 rfl w.heap.size 67 i0 (.agg #[.int .i64 0, .int .i64 0, .int .i64 0, .int .u64 0]) 4 32 Try.underlying58 hi.out.1 hi.out.2.1 hi.out.2.2.1 hi.out.2.2.2 rfl (by decide) (.slice A' k ca) k ((chL key l k).flatMap encLk) rfl (H6.out.2.2.1.alloc _) ⟨w6.heap.size, 0, none⟩ 1 1 [.int .i64 r.m, .int .i64 r.h, .int .i64 r.v, .int .u64 s1] rfl rfl ?_ ?_ ?_ ?_ ?_ ?_)
      case _ =>
        intro j z hz
        match j, hz with
        | 0, hz => simp only [List.getElem?_cons_zero, Option.some.injEq] at hz; subst hz; simp [Addr.add, go_sem]
        | 1, hz => simp only [List.getElem?_cons_zero, List.getElem?_cons_succ, Option.some.injEq] at hz; subst hz; simp [Addr.add, go_sem]
        | 2, hz => simp only [List.getElem?_cons_zero, List.getElem?_cons_succ, Option.some.injEq] at hz; subst hz; simp [Addr.add, go_sem]
        | 3, hz => simp only [List.getElem?_cons_zero, List.getElem?_cons_succ, Option.some.injEq] at hz; subst hz; simp [Addr.add, go_sem]
      case _ => (intro z hz; simp only [List.mem_cons, List.mem_nil_iff, or_false] at hz; rcases hz with rfl | rfl | rfl | rfl <;> rfl)
      case _ => simp only [maxLen]; omega
      case _ => omega
      case _ => have := H6.out.1.size; simp only [World.size_alloc]; omega
      intro v' wy hown hg8 _ hob
      obtain ⟨A9, c9, rfl⟩ := row_slice hown
      have hX : Below w6.heap.size w6 (w6.alloc (.cells #[.int .i64 r.m, .int .i64 r.h, .int .i64 r.v, .int .u64 s1] 67)) := (Below.refl _ _).alloc (Nat.le_refl _) _
      have HN9 : Hid (Below w.heap.size w wy ∧ RegS wy mb (slotsK l (k + 1)) ∧ wy.ownsRow w.heap.size 67 4 (.slice A9 (k + 1) c9) (k + 1) ((chL key l (k + 1)).flatMap encLk)) := Lib.hid ⟨(below3 H6.out.1 hX (Nat.le_refl _)).grown hg8 (by have := hX.size; have := H6.out.1.size; omega) (fun q e => (World.ownsRow.lt H6.out.2.2.1 q e).1), (H6.out.2.1.next hX).kept hg8 (fun e => H6.out.2.1.ne H6.out.2.2.1 e.symm), by
        rw [chL_succ, List.flatMap_append, ← HRR.out.1, ← HS1.out]
        exact hown⟩
      clear hown hg8 hob hX e0 e1 e2 ze g1
      go_wp2
      rw [HS2.out]
      go_roundw
      case rel => exact ⟨k + 1, A9, c9, by have := HLT.out; omega, rfl, rfl, by go_num, HN9⟩
      case measure => have := HLT.out; simp [intOf]; omega
    · obtain rfl : n = k := by omega
      clear hlt hk
      go_wp2
      go_ret2
      exact ⟨A', ca, rfl, HX.out.2.2, HX.out.1⟩
end Go.Proofs.Ytcecbohaajocfaa
