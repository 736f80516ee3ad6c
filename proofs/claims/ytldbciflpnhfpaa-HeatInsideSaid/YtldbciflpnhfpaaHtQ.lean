/- law07: below. -/
import Derived.Test.YtldbciflpnhfpaaHtN

set_option linter.unusedSimpArgs false
set_option linter.unusedVariables false
namespace Go.Proofs.Ytldbciflpnhfpaa
open Go.RowKit

/-- No number of a list is greater than that of another one. -/
def leB (a b : List Int) : Bool := (List.range a.length).all (fun i => decide (a.getD i 0 ≤ b.getD i 0))
theorem leB_yes {a b : List Int} (h : ∀ i, i < a.length → a.getD i 0 ≤ b.getD i 0) : leB a b = true := List.all_eq_true.2 fun i hi => decide_eq_true (h i (List.mem_range.1 hi))
theorem leB_no {a b : List Int} {i : Nat} (hi : i < a.length) (h : ¬ a.getD i 0 ≤ b.getD i 0) : leB a b = false := List.all_eq_false.2 ⟨i, List.mem_range.2 hi, by rw [decide_eq_false h]; decide⟩
def bePhi (b1 o1 b2 o2 n ac bc k : Nat) (x y : Int) (d : Bool) : Nat → Value → World → (Nat → Nat) → Prop
  | 0, v, _, _ => v = .slice (some ⟨b1, o1, none⟩) n ac
  | 1, v, _, _ => v = .int .i64 (k : Int)
  | 2, v, _, _ => v = .pointer (some ⟨b1, o1 + k, none⟩)
  | 3, v, _, _ => v = .int .i64 x
  | 4, v, _, _ => v = .slice (some ⟨b2, o2, none⟩) n bc
  | 5, v, _, _ => v = .int .i64 (k : Int)
  | 6, v, _, _ => v = .pointer (some ⟨b2, o2 + k, none⟩)
  | 7, v, _, _ => v = .int .i64 y
  | 8, v, _, _ => v = .bool d
  | _, _, _, _ => True
theorem bePhi_w {b1 o1 b2 o2 n ac bc k : Nat} {x y : Int} {d : Bool} {j : Nat} {v : Value} {W W' : World} {γ γ' : Nat → Nat} (hq : bePhi b1 o1 b2 o2 n ac bc k x y d j v W γ) : bePhi b1 o1 b2 o2 n ac bc k x y d j v W' γ' := by
  unfold bePhi at hq ⊢
  split at hq <;> first | exact hq | trivial
set_option maxRecDepth 100000 in
theorem below_any (A B : Option Addr) (n ac bc : Nat) (a b : List Int) (w : World) (hn : n ≤ 100000) (ha : Rd w w.heap.size 1 encI A n a) (hb : Rd w w.heap.size 1 encI B n b) :
    Calls Try.prog 14 #[.slice A n ac, .slice B n bc] w fun e w' => e = .returned (.bool (leB a b)) ∧ Below w.heap.size w w' := by
  have HA := Lib.hid ha
  have HB := Lib.hid hb
  have HN : Hid (a.length = n) := Lib.hid ha.1
  have d0 : ((n : Int) == (n : Int)) = true := beq_self_eq_true _
  obtain ⟨res, hres⟩ : ∃ z, z = leB a b := ⟨_, rfl⟩
  have HRES := Lib.hid hres
  rw [← hres]
  clear ha hb hres
  go_enter Try.func14, Try.ntmps14
  go_wp2
  go_loopw [13] (fun i wr => ∃ k : Nat, k ≤ n ∧ i = .int .i64 ((k : Nat) : Int) ∧ Hid (Below w.heap.size w wr ∧ ∀ j, j < k → a.getD j 0 ≤ b.getD j 0)) (fun i _ => n - (intOf i).toNat)
  case atStart => exact ⟨0, by omega, rfl, Lib.hid ⟨Below.refl _ _, fun j h => absurd h (by omega)⟩⟩
  case round =>
    obtain ⟨k, hk, rfl, HW⟩ := hrel
    by_cases hlt : k < n
    · obtain ⟨b1, o1, x, e1, hb1, hx, hcx⟩ := (HA.out.next HW.out.1).at_ hlt
      obtain ⟨b2, o2, y, e2, hb2, hy, hcy⟩ := (HB.out.next HW.out.1).at_ hlt
      subst e1
      subst e2
      have HCX : Hid (b1 < wr.heap.size ∧ wr.cell? ⟨b1, o1 + k, none⟩ = some (.int .i64 x)) := Lib.hid ⟨hb1, cellI hcx⟩
      have HCY : Hid (b2 < wr.heap.size ∧ wr.cell? ⟨b2, o2 + k, none⟩ = some (.int .i64 y)) := Lib.hid ⟨hb2, cellI hcy⟩
      have hk0 : (0 : Int) ≤ (k : Int) := by omega
      have hkn : (k : Int) < (n : Int) := by omega
      have hax : a.getD k 0 = x := by rw [List.getD_eq_getElem?_getD, hx]; rfl
      have hby : b.getD k 0 = y := by rw [List.getD_eq_getElem?_getD, hy]; rfl
      obtain ⟨d, hd⟩ : ∃ z, z = decide (y < x) := ⟨_, rfl⟩
      have HD : Hid (decide (y < x) = d) := Lib.hid hd.symm
      have HNO : Hid (d = true → res = false) := Lib.hid (fun e => by
        rw [hd] at e
        have h9 := of_decide_eq_true e
        rw [HRES.out]; exact leB_no (i := k) (by rw [HN.out]; exact hlt) (by omega))
      have HS : Hid (d = false → ∀ j, j < k + 1 → a.getD j 0 ≤ b.getD j 0) := Lib.hid (fun e j hj => by
        rw [hd] at e
        have h9 := of_decide_eq_false e
        rcases Nat.lt_succ_iff_lt_or_eq.1 hj with h | h
        · exact HW.out.2 j h
        · subst h; omega)
      clear hx hy hcx hcy hax hby hb1 hb2 hd
      go_wp2
      refine wp_region_free10 8 (by kernel_rfl) [some 16, some 17, some 18, some 19, some 20, some 21, some 22, some 23, some 24] [[], [], [0, 1], [2], [], [], [4, 5], [6], [3, 7]] [(0, .slice (some ⟨b1, o1, none⟩) n ac), (1, .slice (some ⟨b2, o2, none⟩) n bc), (5, .int .i64 (k : Int))] (fun W _ => Below wr.heap.size wr W) (bePhi b1 o1 b2 o2 n ac bc k x y d) (fun _ _ _ => True) (by kernel_rfl) (by kernel_rfl) rfl (by kernel_rfl) ?_ ?_ ⟨fun _ => 0, (Below.refl _ _).drew, fun i _ => trivial⟩ ?_ ?_
      · intro z hz
        simp only [List.mem_cons, List.mem_nil_iff, or_false] at hz
        rcases hz with rfl | rfl | rfl
        all_goals exact ⟨by kernel_rfl, rfl⟩
      · intro i v W γ hi h
        rcases i with _ | _ | _ | _ | _ | _ | _ | _ | _ | i
        all_goals first | exact h | (simp at hi)
      · refine ⟨?_, ?_, ?_, ?_, ?_, ?_, ?_, ?_, ?_, trivial⟩
        all_goals
          intro a9 W γ ev hcc hff hfx hR hψ hpre
          simp only [List.mem_cons, List.mem_nil_iff, or_false, forall_eq, forall_eq_or_imp] at hfx
          obtain ⟨f0, f1, f2⟩ := hfx
          have HR := Lib.hid hR
          clear hR
        · refine ⟨fun hg K hK => ?_, trivial⟩
          clear hg
          clear hpre hψ
          go_simp
          exact hK _ _ γ HR.out (fun _ _ _ _ h => h) (fun _ _ _ h => h) rfl
        · refine ⟨fun hg K hK => ?_, trivial⟩
          clear hg
          clear hpre hψ
          go_simp
          exact hK _ _ γ HR.out (fun _ _ _ _ h => h) (fun _ _ _ h => h) rfl
        · refine ⟨fun hg K hK => ?_, trivial⟩
          clear hg
          have q0 : ev (.tmp 16) = _ := hpre 0 (by decide)
          have q1 : ev (.tmp 17) = _ := hpre 1 (by decide)
          clear hpre hψ
          go_simp
          exact hK _ _ γ HR.out (fun _ _ _ _ h => h) (fun _ _ _ h => h) rfl
        · refine ⟨fun hg K hK => ?_, trivial⟩
          clear hg
          have q0 : ev (.tmp 18) = _ := hpre 2 (by decide)
          have hca := ((show Below wr.heap.size wr W from HR.out).cell (p := ⟨b1, o1 + k, none⟩) HCX.out.1).trans HCX.out.2
          have hza : b1 < W.heap.size := block_of_cell hca
          clear hpre hψ
          go_simp
          exact hK _ _ γ HR.out (fun _ _ _ _ h => h) (fun _ _ _ h => h) rfl
        · refine ⟨fun hg K hK => ?_, trivial⟩
          clear hg
          clear hpre hψ
          go_simp
          exact hK _ _ γ HR.out (fun _ _ _ _ h => h) (fun _ _ _ h => h) rfl
        · refine ⟨fun hg K hK => ?_, trivial⟩
          clear hg
          clear hpre hψ
          go_simp
          exact hK _ _ γ HR.out (fun _ _ _ _ h => h) (fun _ _ _ h => h) rfl
        · refine ⟨fun hg K hK => ?_, trivial⟩
          clear hg
          have q0 : ev (.tmp 20) = _ := hpre 4 (by decide)
          have q1 : ev (.tmp 21) = _ := hpre 5 (by decide)
          clear hpre hψ
          go_simp
          exact hK _ _ γ HR.out (fun _ _ _ _ h => h) (fun _ _ _ h => h) rfl
        · refine ⟨fun hg K hK => ?_, trivial⟩
          clear hg
          have q0 : ev (.tmp 22) = _ := hpre 6 (by decide)
          have hca := ((show Below wr.heap.size wr W from HR.out).cell (p := ⟨b2, o2 + k, none⟩) HCY.out.1).trans HCY.out.2
          have hza : b2 < W.heap.size := block_of_cell hca
          clear hpre hψ
          go_simp
          exact hK _ _ γ HR.out (fun _ _ _ _ h => h) (fun _ _ _ h => h) rfl
        · refine ⟨fun hg K hK => ?_, trivial⟩
          clear hg
          have q0 : ev (.tmp 19) = _ := hpre 3 (by decide)
          have q1 : ev (.tmp 23) = _ := hpre 7 (by decide)
          have wd := HD.out
          clear hpre hψ
          go_simp
          exact hK _ _ γ HR.out (fun _ _ _ _ h => h) (fun _ _ _ h => h) rfl
      · intro vs wy γ hvl hR hφ
        have q8 := hφ 8 (by decide)
        have HR := Lib.hid hR
        clear hφ hR
        match vs, hvl with
        | [y0, y1, y2, y3, y4, y5, y6, y7, y8], _ =>
        simp only [List.getD_cons_zero, List.getD_cons_succ] at q8
        obtain rfl : y8 = _ := q8
        have HN2 := Lib.hid (below3 HW.out.1 HR.out (Nat.le_refl _))
        clear HR
        simp [putAll]
        cases d
        · go_wp2
          go_roundw
          case rel => exact ⟨k + 1, by omega, by go_num, Lib.hid ⟨HN2.out, HS.out (by simp)⟩⟩
          case measure => simp [intOf]; omega
        · go_wp2
          go_ret
          exact ⟨ret_bool (HNO.out (by simp)).symm, HN2.out⟩
    · obtain rfl : n = k := by omega
      have HR : Hid (res = true) := Lib.hid (by rw [HRES.out]; exact leB_yes (by rw [HN.out]; exact HW.out.2))
      go_wp2
      go_ret
      exact ⟨ret_bool HR.out.symm, HW.out.1⟩
end Go.Proofs.Ytldbciflpnhfpaa
