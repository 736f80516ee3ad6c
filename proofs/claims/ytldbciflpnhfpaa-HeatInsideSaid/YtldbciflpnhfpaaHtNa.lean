/- heat: noneAbove, notAbove. -/
import Derived.Test.YtldbciflpnhfpaaHtQ
import Derived.Test.YtldbciflpnhfpaaHtM

set_option linter.unusedSimpArgs false
set_option linter.unusedVariables false
namespace Go.Proofs.Ytldbciflpnhfpaa
open Go.RowKit

set_option maxRecDepth 100000 in
theorem noneAbove_any (A B : Option Addr) (n ac bc : Nat) (a b : List Int) (w : World) (hn : n ≤ 100000) (ha : Rd w w.heap.size 1 encI A n a) (hb : Rd w w.heap.size 1 encI B n b) :
    Calls Try.prog 47 #[.slice A n ac, .slice B n bc] w fun e w' => e = .returned (.bool (leB a b)) ∧ Below w.heap.size w w' := by
  have HA := Lib.hid ha
  have HB := Lib.hid hb
  have HN : Hid (a.length = n) := Lib.hid ha.1
  obtain ⟨res, hres⟩ : ∃ z, z = leB a b := ⟨_, rfl⟩
  have HRES := Lib.hid hres
  rw [← hres]
  clear ha hb hres
  go_enter Try.func47, Try.ntmps47
  go_wp2
  go_loopw [8] (fun i wr => ∃ k : Nat, k ≤ n ∧ i = .int .i64 ((k : Nat) : Int) ∧ Hid (Below w.heap.size w wr ∧ ∀ j, j < k → a.getD j 0 ≤ b.getD j 0)) (fun i _ => n - (intOf i).toNat)
  case atStart => exact ⟨0, by omega, rfl, Lib.hid ⟨Below.refl _ _, fun j h => absurd h (by omega)⟩⟩
  case round =>
    obtain ⟨k, hk, rfl, HW⟩ := hrel
    by_cases hlt : k < n
    · obtain ⟨b1, o1, x, e1, hb1, hx, hcx⟩ := (HA.out.next HW.out.1).at_ hlt
      obtain ⟨b2, o2, y, e2, hb2, hy, hcy⟩ := (HB.out.next HW.out.1).at_ hlt
      subst e1
      subst e2
      have HCX : Hid (b1 < wr.heap.size ∧ wr.cell? ⟨b1, o1 + k, none⟩ = some (.int .i64 x)) := Lib.hid ⟨hb1, cellI hcx⟩
      have HCY : Hid (b2 < wr.heap.size ∧ wr.cell? ⟨b2, o2 + k, none⟩ = some (.int .i64 y)) := Lib.hid ⟨hb2, cellI hcy⟩
      have hk0 : (0 : Int) ≤ (k : Int) := by omega
      have hkn : (k : Int) < (n : Int) := by omega
      have hax : a.getD k 0 = x := by rw [List.getD_eq_getElem?_getD, hx]; rfl
      have hby : b.getD k 0 = y := by rw [List.getD_eq_getElem?_getD, hy]; rfl
      obtain ⟨d, hd⟩ : ∃ z, z = decide (y < x) := ⟨_, rfl⟩
      have HD : Hid (decide (y < x) = d) := Lib.hid hd.symm
      have HNO : Hid (d = true → res = false) := Lib.hid (fun e => by
        rw [hd] at e
        have h9 := of_decide_eq_true e
        rw [HRES.out]; exact leB_no (i := k) (by rw [HN.out]; exact hlt) (by omega))
      have HS : Hid (d = false → ∀ j, j < k + 1 → a.getD j 0 ≤ b.getD j 0) := Lib.hid (fun e j hj => by
        rw [hd] at e
        have h9 := of_decide_eq_false e
        rcases Nat.lt_succ_iff_lt_or_eq.1 hj with h | h
        · exact HW.out.2 j h
        · subst h; omega)
      clear hx hy hcx hcy hax hby hb1 hb2 hd
      go_wp2
      refine wp_region_free10 8 (by kernel_rfl) [some 11, some 12, some 13, some 14, some 15, some 16, some 17, some 18, some 19] [[], [], [0, 1], [2], [], [], [4, 5], [6], [3, 7]] [(0, .slice (some ⟨b1, o1, none⟩) n ac), (1, .slice (some ⟨b2, o2, none⟩) n bc), (5, .int .i64 (k : Int))] (fun W _ => Below wr.heap.size wr W) (bePhi b1 o1 b2 o2 n ac bc k x y d) (fun _ _ _ => True) (by kernel_rfl) (by kernel_rfl) rfl (by kernel_rfl) ?_ ?_ ⟨fun _ => 0, (Below.refl _ _).drew, fun i _ => trivial⟩ ?_ ?_
      · intro z hz
        simp only [List.mem_cons, List.mem_nil_iff, or_false] at hz
        rcases hz with rfl | rfl | rfl
        all_goals exact ⟨by kernel_rfl, rfl⟩
      · intro i v W γ hi h
        rcases i with _ | _ | _ | _ | _ | _ | _ | _ | _ | i
        all_goals first | exact h | (simp at hi)
      · refine ⟨?_, ?_, ?_, ?_, ?_, ?_, ?_, ?_, ?_, trivial⟩
        all_goals
          intro a9 W γ ev hcc hff hfx hR hψ hpre
          simp only [List.mem_cons, List.mem_nil_iff, or_false, forall_eq, forall_eq_or_imp] at hfx
          obtain ⟨f0, f1, f2⟩ := hfx
          have HR := Lib.hid hR
          clear hR
        · refine ⟨fun hg K hK => ?_, trivial⟩
          clear hg
          clear hpre hψ
          go_simp
          exact hK _ _ γ HR.out (fun _ _ _ _ h => h) (fun _ _ _ h => h) rfl
        · refine ⟨fun hg K hK => ?_, trivial⟩
          clear hg
          clear hpre hψ
          go_simp
          exact hK _ _ γ HR.out (fun _ _ _ _ h => h) (fun _ _ _ h => h) rfl
        · refine ⟨fun hg K hK => ?_, trivial⟩
          clear hg
          have q0 : ev (.tmp 11) = _ := hpre 0 (by decide)
          have q1 : ev (.tmp 12) = _ := hpre 1 (by decide)
          clear hpre hψ
          go_simp
          exact hK _ _ γ HR.out (fun _ _ _ _ h => h) (fun _ _ _ h => h) rfl
        · refine ⟨fun hg K hK => ?_, trivial⟩
          clear hg
          have q0 : ev (.tmp 13) = _ := hpre 2 (by decide)
          have hca := ((show Below wr.heap.size wr W from HR.out).cell (p := ⟨b1, o1 + k, none⟩) HCX.out.1).trans HCX.out.2
          have hza : b1 < W.heap.size := block_of_cell hca
          clear hpre hψ
          go_simp
          exact hK _ _ γ HR.out (fun _ _ _ _ h => h) (fun _ _ _ h => h) rfl
        · refine ⟨fun hg K hK => ?_, trivial⟩
          clear hg
          clear hpre hψ
          go_simp
          exact hK _ _ γ HR.out (fun _ _ _ _ h => h) (fun _ _ _ h => h) rfl
        · refine ⟨fun hg K hK => ?_, trivial⟩
          clear hg
          clear hpre hψ
          go_simp
          exact hK _ _ γ HR.out (fun _ _ _ _ h => h) (fun _ _ _ h => h) rfl
        · refine ⟨fun hg K hK => ?_, trivial⟩
          clear hg
          have q0 : ev (.tmp 15) = _ := hpre 4 (by decide)
          have q1 : ev (.tmp 16) = _ := hpre 5 (by decide)
          clear hpre hψ
          go_simp
          exact hK _ _ γ HR.out (fun _ _ _ _ h => h) (fun _ _ _ h => h) rfl
        · refine ⟨fun hg K hK => ?_, trivial⟩
          clear hg
          have q0 : ev (.tmp 17) = _ := hpre 6 (by decide)
          have hca := ((show Below wr.heap.size wr W from HR.out).cell (p := ⟨b2, o2 + k, none⟩) HCY.out.1).trans HCY.out.2
          have hza : b2 < W.heap.size := block_of_cell hca
          clear hpre hψ
          go_simp
          exact hK _ _ γ HR.out (fun _ _ _ _ h => h) (fun _ _ _ h => h) rfl
        · refine ⟨fun hg K hK => ?_, trivial⟩
          clear hg
          have q0 : ev (.tmp 14) = _ := hpre 3 (by decide)
          have q1 : ev (.tmp 18) = _ := hpre 7 (by decide)
          have wd := HD.out
          clear hpre hψ
          go_simp
          exact hK _ _ γ HR.out (fun _ _ _ _ h => h) (fun _ _ _ h => h) rfl
      · intro vs wy γ hvl hR hφ
        have q8 := hφ 8 (by decide)
        have HR := Lib.hid hR
        clear hφ hR
        match vs, hvl with
        | [y0, y1, y2, y3, y4, y5, y6, y7, y8], _ =>
        simp only [List.getD_cons_zero, List.getD_cons_succ] at q8
        obtain rfl : y8 = _ := q8
        have HN2 := Lib.hid (below3 HW.out.1 HR.out (Nat.le_refl _))
        clear HR
        simp [putAll]
        cases d
        · go_wp2
          go_roundw
          case rel => exact ⟨k + 1, by omega, by go_num, Lib.hid ⟨HN2.out, HS.out (by simp)⟩⟩
          case measure => simp [intOf]; omega
        · go_wp2
          go_ret
          exact ⟨ret_bool (HNO.out (by simp)).symm, HN2.out⟩
    · obtain rfl : n = k := by omega
      have HR : Hid (res = true) := Lib.hid (by rw [HRES.out]; exact leB_yes (by rw [HN.out]; exact HW.out.2))
      go_wp2
      go_ret
      exact ⟨ret_bool HR.out.symm, HW.out.1⟩
set_option maxRecDepth 100000 in
theorem notAbove_any (A B : Option Addr) (n ac bc : Nat) (a b : List Int) (o1 p1 o2 p2 : Int) (w : World) (hn : n ≤ 100000) (ha : Rd w w.heap.size 1 encI A n a) (hb : Rd w w.heap.size 1 encI B n b) :
    Calls Try.prog 36 #[.agg #[.slice A n ac, .int .i64 o1, .int .i64 p1], .agg #[.slice B n bc, .int .i64 o2, .int .i64 p2]] w fun e w' => e = .returned (.bool (leB a b && (decide (o1 ≤ o2) && decide (p2 ≤ p1)))) ∧ Below w.heap.size w w' := by
  have KS := Lib.hid (fun W (hW : Below w.heap.size w W) => noneAbove_any A B n ac bc a b W hn (ha.next hW) (hb.next hW))
  have g1 : w.heap.size < w.heap.size + 1 := by omega
  have g2 : w.heap.size < w.heap.size + 1 + 1 := by omega
  obtain ⟨d1, hd1⟩ : ∃ z, z = decide (o1 ≤ o2) := ⟨_, rfl⟩
  obtain ⟨d2, hd2⟩ : ∃ z, z = decide (p2 ≤ p1) := ⟨_, rfl⟩
  have e1 : decide (o1 ≤ o2) = d1 := hd1.symm
  have e2 : decide (p2 ≤ p1) = d2 := hd2.symm
  rw [← hd1, ← hd2]
  clear ha hb hn hd1 hd2
  obtain ⟨r, hr⟩ : ∃ z, z = leB a b := ⟨_, rfl⟩
  rw [← hr] at KS ⊢
  clear hr
  go_enter Try.func36, Try.ntmps36
  go_wp2_with fail
  obtain ⟨x1, hx1⟩ : ∃ z, z = w.heap.size := ⟨_, rfl⟩
  obtain ⟨w1, hw1⟩ : ∃ z, z = w.alloc (.cells #[.slice A n ac, .int .i64 o1, .int .i64 p1] 35) := ⟨_, rfl⟩
  have X1 : Hid (Blk w1 x1 35 #[.slice A n ac, .int .i64 o1, .int .i64 p1]) := Lib.hid (by rw [hw1, hx1]; exact heap_alloc_new w _)
  have Sw1 : Hid (w1.heap.size = x1 + 1) := Lib.hid (by rw [hw1, hx1, World.size_alloc])
  have Zx1 : Hid (w.heap.size ≤ x1) := Lib.hid (by rw [hx1]; exact Nat.le_refl _)
  have hBn : Below w.heap.size w w1 := by rw [hw1]; exact (Below.refl _ _).alloc (Nat.le_refl _) _
  rw [← hw1, ← hx1]
  have B0 : Hid (Below w.heap.size w w1) := Lib.hid hBn
  clear hw1 hx1 hBn
  obtain ⟨x2, hx2⟩ : ∃ z, z = x1 + 1 := ⟨_, rfl⟩
  obtain ⟨w2, hw2⟩ : ∃ z, z = w1.alloc (.cells #[.slice B n bc, .int .i64 o2, .int .i64 p2] 35) := ⟨_, rfl⟩
  have X2 : Hid (Blk w2 x2 35 #[.slice B n bc, .int .i64 o2, .int .i64 p2]) := Lib.hid (by have e2 := heap_alloc_new w1 (.cells #[.slice B n bc, .int .i64 o2, .int .i64 p2] 35); rw [Sw1.out] at e2; rw [hw2, hx2]; exact e2)
  have Sw2 : Hid (w2.heap.size = x2 + 1) := Lib.hid (by rw [hw2, hx2, World.size_alloc, Sw1.out])
  have Zx2 : Hid (w1.heap.size = x2) := Lib.hid (by rw [Sw1.out, hx2])
  have hBn : Below w1.heap.size w1 w2 := by rw [hw2]; exact (Below.refl _ _).alloc (Nat.le_refl _) _
  rw [← hw2, ← hx2]
  have B1 : Hid (Below w1.heap.size w1 w2) := Lib.hid hBn
  clear hw2 hx2 hBn
  clear g1 g2
  refine (KS.out _ (below3 B0.out B1.out (Nat.le_refl _))).mono ?_
  rintro e w3 ⟨rfl, hB⟩
  have B2 : Hid (Below w2.heap.size w2 w3) := Lib.hid hB
  clear hB
  have hbk := X1.out.below (below3 B1.out B2.out (Nat.le_refl _)) X1.out.lt
  have s0 := hbk.cell 0
  have s1 := hbk.cell 1
  have s2 := hbk.cell 2
  simp only [List.getElem?_toArray, List.getElem?_cons_zero, List.getElem?_cons_succ] at s0 s1 s2
  have zs := hbk.lt
  clear hbk
  have hbk := X2.out.below B2.out X2.out.lt
  have t0 := hbk.cell 0
  have t1 := hbk.cell 1
  have t2 := hbk.cell 2
  simp only [List.getElem?_toArray, List.getElem?_cons_zero, List.getElem?_cons_succ] at t0 t1 t2
  have zt := hbk.lt
  clear hbk
  have HF := Lib.hid ((below3 (below3 B0.out B1.out (Nat.le_refl _)) B2.out (Nat.le_refl _)))
  cases r
  · go_wp2
    go_ret
    exact ⟨ret_bool (by simp), HF.out⟩
  · cases d1
    · go_wp2
      go_ret
      exact ⟨ret_bool (by simp), HF.out⟩
    · go_wp2
      go_ret
      exact ⟨ret_bool (by simp), HF.out⟩
end Go.Proofs.Ytldbciflpnhfpaa
