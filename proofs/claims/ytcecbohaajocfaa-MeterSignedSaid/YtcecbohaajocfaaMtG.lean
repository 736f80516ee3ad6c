/- law11: the next number. -/
import Derived.Test.YtcecbohaajocfaaMtJ

set_option linter.unusedSimpArgs false
set_option linter.unusedVariables false
namespace Go.Proofs.Ytcecbohaajocfaa
open Go.RowKit

theorem cellU {w : World} {b off i : Nat} {x : Int} (h : ∀ j u, (encU x)[j]? = some u → w.cell? ⟨b, off + i * 1 + j, none⟩ = some u) : w.cell? ⟨b, off + i, none⟩ = some (.int .u8 x) := by
  have := h 0 _ rfl
  simpa using this
def n2Phi (dB n c i : Nat) (A : Option Addr) (q : Bool) : Nat → Value → World → (Nat → Nat) → Prop
  | 0, v, _, _ => v = .pointer (some ⟨dB, 0, none⟩)
  | 1, v, _, _ => v = .pointer (some ⟨dB, 0, none⟩)
  | 2, v, _, _ => v = .pointer (some ⟨dB, 1, none⟩)
  | 3, v, _, _ => v = .int .i64 ((i : Int) + 1)
  | 4, v, _, _ => v = .pointer (some ⟨dB, 0, none⟩)
  | 5, v, _, _ => v = .pointer (some ⟨dB, 0, none⟩)
  | 6, v, _, _ => v = .pointer (some ⟨dB, 0, none⟩)
  | 7, v, _, _ => v = .slice A n c
  | 8, v, _, _ => v = .int .i64 (n : Int)
  | 9, v, _, _ => v = .bool q
  | _, _, _, _ => True
def n4Phi (dB n c i lb lo m : Nat) (x r : Int) : Nat → Value → World → (Nat → Nat) → Prop
  | 0, v, _, _ => v = .pointer (some ⟨dB, 0, none⟩)
  | 1, v, _, _ => v = .pointer (some ⟨dB, 0, none⟩)
  | 2, v, _, _ => v = .pointer (some ⟨dB, 0, none⟩)
  | 3, v, _, _ => v = .slice (some ⟨lb, lo, none⟩) n c
  | 4, v, _, _ => v = .pointer (some ⟨dB, 0, none⟩)
  | 5, v, _, _ => v = .pointer (some ⟨dB, 0, none⟩)
  | 6, v, _, _ => v = .pointer (some ⟨dB, 1, none⟩)
  | 7, v, _, _ => v = .int .i64 ((i : Int) + 1)
  | 8, v, _, _ => v = .int .i64 (i : Int)
  | 9, v, _, _ => v = .pointer (some ⟨lb, lo + i, none⟩)
  | 10, v, _, _ => v = .int .u8 x
  | 11, v, _, _ => v = .int .i64 x
  | 12, v, _, _ => v = .int .i64 (m : Int)
  | 13, v, _, _ => v = .int .i64 r
  | 14, v, _, _ => v = .int .i64 r
  | _, _, _, _ => True
set_option maxRecDepth 100000 in
set_option maxHeartbeats 2000000 in
theorem next_any (dB n c B i m : Nat) (A : Option Addr) (l : List Int) (w : World) (hd : Blk w dB 72 #[.slice A n c, .int .i64 (i : Int)]) (hl : Rd w B 1 encU A n l) (hB : B ≤ dB) (hu : U8s l) (hi : i ≤ 1000000) (hm : 1 ≤ m ∧ m ≤ 1000) :
    Calls Try.prog 26 #[.pointer (some ⟨dB, 0, none⟩), .int .i64 (m : Int)] w fun e w' => (∃ r : Int, e = .returned (.int .i64 r) ∧ 0 ≤ r ∧ r < m) ∧ Keep (fun b => b = dB) w w' ∧ Blk w' dB 72 #[.slice A n c, .int .i64 ((i : Int) + 1)] := by
  have c0 := hd.cell 0
  have c1 := hd.cell 1
  simp only [List.getElem?_toArray, List.getElem?_cons_zero, List.getElem?_cons_succ] at c0 c1
  have zd := hd.lt
  have fd := hd.frozen
  have w1 : IntKind.i64.wrap ((i : Int) + 1) = (i : Int) + 1 := IntWalk.i64_in _ (by omega)
  obtain ⟨W1, hW1⟩ : ∃ z, z = w.setCell ⟨dB, 1, none⟩ (.int .i64 ((i : Int) + 1)) := ⟨_, rfl⟩
  have hk : Keep (fun b => b = dB) w W1 := by rw [hW1]; exact (Keep.refl (fun b => b = dB) w).setCell rfl _
  have HD2 : Hid (Blk W1 dB 72 #[.slice A n c, .int .i64 ((i : Int) + 1)]) := Lib.hid (by
    have h := hd.set_ 1 (.int .i64 ((i : Int) + 1))
    rw [hW1]
    simpa using h)
  have HK := Lib.hid hk
  by_cases hin : i < n
  · obtain ⟨lb, lo, x, e1, hlb, hx, hcx⟩ := hl.at_ hin
    subst e1
    have hxb := hu _ (List.mem_of_getElem? hx)
    have HCX0 : Hid (W1.cell? ⟨lb, lo + i, none⟩ = some (.int .u8 x)) := Lib.hid (hk.cell (b := lb) (o := lo + i) (block_of_cell (cellU hcx)) (by omega) (cellU hcx))
    have hmd := tmod_bd (x := x) (n := (m : Int)) hxb.1 (by omega)
    obtain ⟨r, hr⟩ : ∃ z, z = x.tmod (m : Int) := ⟨_, rfl⟩
    have HR0 : Hid (0 ≤ r ∧ r < m) := Lib.hid (by rw [hr]; exact hmd)
    have hr2 : x.tmod (m : Int) = r := hr.symm
    have hm0 : ¬ (m = 0) := by omega
    have wx : IntKind.i64.wrap x = x := IntWalk.i64_in _ (by omega)
    have w2 : IntKind.i64.wrap ((i : Int) + 1 - 1) = (i : Int) := by rw [Int.add_sub_cancel]; exact IntWalk.i64_in _ (by omega)
    have w3 : IntKind.i64.wrap (i : Int) = (i : Int) := IntWalk.i64_in _ (by omega)
    have d1 : decide ((n : Int) < (i : Int) + 1) = false := decide_eq_false (by omega)
    have d2 : ¬ ((n : Int) < (i : Int) + 1) := by omega
    have i1 : (0 : Int) ≤ (i : Int) := by omega
    have i2 : (i : Int) < (n : Int) := by omega
    clear hk hl hd hu hx hcx hlb hmd hr
    go_enter Try.func26, Try.ntmps26
    go_wp2
    rw [← hW1]
    clear hW1 c0 c1 zd fd
    refine wp_region_free10 9 (by kernel_rfl) [some 12, some 13, some 14, some 15, some 16, some 17, some 18, some 19, some 20, some 21] [[], [0], [1], [2], [], [4], [5], [6], [7], [3, 8]] [(0, .pointer (some ⟨dB, 0, none⟩))] (fun W _ => Below W1.heap.size W1 W) (n2Phi dB n c i (some ⟨lb, lo, none⟩) false) (fun _ _ _ => True) (by kernel_rfl) (by kernel_rfl) rfl (by kernel_rfl) ?_ ?_ ⟨fun _ => 0, (Below.refl _ _).drew, fun i _ => trivial⟩ ?_ ?_
    · intro z hz
      simp only [List.mem_cons, List.mem_nil_iff, or_false] at hz
      subst hz
      all_goals exact ⟨by kernel_rfl, rfl⟩
    · intro i v W γ hi h
      rcases i with _ | _ | _ | _ | _ | _ | _ | _ | _ | _ | i
      all_goals first | exact h | (simp at hi)
    · refine ⟨?_, ?_, ?_, ?_, ?_, ?_, ?_, ?_, ?_, ?_, trivial⟩
      all_goals
        intro a9 W γ ev hcc hff hfx hR hψ hpre
        simp only [List.mem_cons, List.mem_nil_iff, or_false, forall_eq, forall_eq_or_imp] at hfx
        have f0 := hfx
        clear hfx
        have HR := Lib.hid hR
        clear hR
        refine ⟨fun _ K hK => ?_, trivial⟩

      · clear hpre hψ
        go_simp
        exact hK _ _ γ HR.out (fun _ _ _ _ h => h) (fun _ _ _ h => h) rfl
      · have q0 : ev (.tmp 12) = _ := hpre 0 (by decide)
        clear hpre hψ
        go_simp
        exact hK _ _ γ HR.out (fun _ _ _ _ h => h) (fun _ _ _ h => h) rfl
      · have q0 : ev (.tmp 13) = _ := hpre 1 (by decide)
        clear hpre hψ
        go_simp
        exact hK _ _ γ HR.out (fun _ _ _ _ h => h) (fun _ _ _ h => h) rfl
      · have q0 : ev (.tmp 14) = _ := hpre 2 (by decide)
        have hbk := HD2.out.below (HR.out : Below W1.heap.size W1 W) HD2.out.lt
        have hzz := hbk.lt
        have c0 := hbk.cell 0
        have c1 := hbk.cell 1
        simp only [List.getElem?_toArray, List.getElem?_cons_zero, List.getElem?_cons_succ] at c0 c1
        clear hbk
        clear hpre hψ
        go_simp
        exact hK _ _ γ HR.out (fun _ _ _ _ h => h) (fun _ _ _ h => h) rfl
      · clear hpre hψ
        go_simp
        exact hK _ _ γ HR.out (fun _ _ _ _ h => h) (fun _ _ _ h => h) rfl
      · have q0 : ev (.tmp 16) = _ := hpre 4 (by decide)
        clear hpre hψ
        go_simp
        exact hK _ _ γ HR.out (fun _ _ _ _ h => h) (fun _ _ _ h => h) rfl
      · have q0 : ev (.tmp 17) = _ := hpre 5 (by decide)
        clear hpre hψ
        go_simp
        exact hK _ _ γ HR.out (fun _ _ _ _ h => h) (fun _ _ _ h => h) rfl
      · have q0 : ev (.tmp 18) = _ := hpre 6 (by decide)
        have hbk := HD2.out.below (HR.out : Below W1.heap.size W1 W) HD2.out.lt
        have hzz := hbk.lt
        have c0 := hbk.cell 0
        have c1 := hbk.cell 1
        simp only [List.getElem?_toArray, List.getElem?_cons_zero, List.getElem?_cons_succ] at c0 c1
        clear hbk
        clear hpre hψ
        go_simp
        exact hK _ _ γ HR.out (fun _ _ _ _ h => h) (fun _ _ _ h => h) rfl
      · have q0 : ev (.tmp 19) = _ := hpre 7 (by decide)
        clear hpre hψ
        go_simp
        exact hK _ _ γ HR.out (fun _ _ _ _ h => h) (fun _ _ _ h => h) rfl
      · have q0 : ev (.tmp 15) = _ := hpre 3 (by decide)
        have q1 : ev (.tmp 20) = _ := hpre 8 (by decide)
        clear hpre hψ
        go_simp
        exact hK _ _ γ HR.out (fun _ _ _ _ h => h) (fun _ _ _ h => h) rfl
    · intro vs w' γ hvl hR hφ
      have q9 := hφ 9 (by decide)
      have HR := Lib.hid hR
      clear hφ hR
      match vs, hvl with
      | [y0, y1, y2, y3, y4, y5, y6, y7, y8, y9], _ =>
      simp only [List.getD_cons_zero, List.getD_cons_succ] at q9
      obtain rfl : y9 = _ := q9
      obtain ⟨W2, hW2⟩ : ∃ z, z = w' := ⟨_, rfl⟩
      have HD3 : Hid (Blk W2 dB 72 #[.slice (some ⟨lb, lo, none⟩) n c, .int .i64 ((i : Int) + 1)]) := Lib.hid (by rw [hW2]; exact HD2.out.below HR.out HD2.out.lt)
      have HCX : Hid (W2.cell? ⟨lb, lo + i, none⟩ = some (.int .u8 x)) := Lib.hid (by rw [hW2]; exact (HR.out.cell (p := ⟨lb, lo + i, none⟩) (block_of_cell HCX0.out)).trans HCX0.out)
      have HK2 : Hid (Keep (fun b => b = dB) w W2) := Lib.hid (by rw [hW2]; exact HK.out.trans (Keep.of_below HR.out))
      rw [← hW2]
      clear HR hW2
      simp [putAll]
      go_wp2
      refine wp_region_free10 14 (by kernel_rfl) [some 22, some 23, some 24, some 25, some 26, some 27, some 28, some 29, some 30, some 31, some 32, some 33, some 34, some 35, some 4] [[], [0], [1], [2], [], [4], [5], [6], [7], [3, 8], [9], [10], [], [11, 12], [13, 0, 1, 2, 3, 4, 5, 6, 7, 8, 9, 10, 11, 12, 13]] [(0, .pointer (some ⟨dB, 0, none⟩)), (1, .int .i64 (m : Int))] (fun W _ => Below W2.heap.size W2 W) (n4Phi dB n c i lb lo m x r) (fun _ _ _ => True) (by kernel_rfl) (by kernel_rfl) rfl (by kernel_rfl) ?_ ?_ ⟨fun _ => 0, (Below.refl _ _).drew, fun i _ => trivial⟩ ?_ ?_
      · intro z hz
        simp only [List.mem_cons, List.mem_nil_iff, or_false] at hz
        rcases hz with rfl | rfl
        all_goals exact ⟨by kernel_rfl, rfl⟩
      · intro i v W γ hi h
        rcases i with _ | _ | _ | _ | _ | _ | _ | _ | _ | _ | _ | _ | _ | _ | _ | i
        all_goals first | exact h | (simp at hi)
      · refine ⟨?_, ?_, ?_, ?_, ?_, ?_, ?_, ?_, ?_, ?_, ?_, ?_, ?_, ?_, ?_, trivial⟩
        all_goals
          intro a9 W γ ev hcc hff hfx hR hψ hpre
          simp only [List.mem_cons, List.mem_nil_iff, or_false, forall_eq, forall_eq_or_imp] at hfx
          obtain ⟨f0, f1⟩ := hfx
          have HR := Lib.hid hR
          clear hR
          refine ⟨fun _ K hK => ?_, trivial⟩

        · clear hpre hψ
          go_simp
          exact hK _ _ γ HR.out (fun _ _ _ _ h => h) (fun _ _ _ h => h) rfl
        · have q0 : ev (.tmp 22) = _ := hpre 0 (by decide)
          clear hpre hψ
          go_simp
          exact hK _ _ γ HR.out (fun _ _ _ _ h => h) (fun _ _ _ h => h) rfl
        · have q0 : ev (.tmp 23) = _ := hpre 1 (by decide)
          clear hpre hψ
          go_simp
          exact hK _ _ γ HR.out (fun _ _ _ _ h => h) (fun _ _ _ h => h) rfl
        · have q0 : ev (.tmp 24) = _ := hpre 2 (by decide)
          have hbk := HD3.out.below (HR.out : Below W2.heap.size W2 W) HD3.out.lt
          have hzz := hbk.lt
          have c0 := hbk.cell 0
          have c1 := hbk.cell 1
          simp only [List.getElem?_toArray, List.getElem?_cons_zero, List.getElem?_cons_succ] at c0 c1
          clear hbk
          clear hpre hψ
          go_simp
          exact hK _ _ γ HR.out (fun _ _ _ _ h => h) (fun _ _ _ h => h) rfl
        · clear hpre hψ
          go_simp
          exact hK _ _ γ HR.out (fun _ _ _ _ h => h) (fun _ _ _ h => h) rfl
        · have q0 : ev (.tmp 26) = _ := hpre 4 (by decide)
          clear hpre hψ
          go_simp
          exact hK _ _ γ HR.out (fun _ _ _ _ h => h) (fun _ _ _ h => h) rfl
        · have q0 : ev (.tmp 27) = _ := hpre 5 (by decide)
          clear hpre hψ
          go_simp
          exact hK _ _ γ HR.out (fun _ _ _ _ h => h) (fun _ _ _ h => h) rfl
        · have q0 : ev (.tmp 28) = _ := hpre 6 (by decide)
          have hbk := HD3.out.below (HR.out : Below W2.heap.size W2 W) HD3.out.lt
          have hzz := hbk.lt
          have c0 := hbk.cell 0
          have c1 := hbk.cell 1
          simp only [List.getElem?_toArray, List.getElem?_cons_zero, List.getElem?_cons_succ] at c0 c1
          clear hbk
          clear hpre hψ
          go_simp
          exact hK _ _ γ HR.out (fun _ _ _ _ h => h) (fun _ _ _ h => h) rfl
        · have q0 : ev (.tmp 29) = _ := hpre 7 (by decide)
          clear hpre hψ
          go_simp
          exact hK _ _ γ HR.out (fun _ _ _ _ h => h) (fun _ _ _ h => h) rfl
        · have q0 : ev (.tmp 25) = _ := hpre 3 (by decide)
          have q1 : ev (.tmp 30) = _ := hpre 8 (by decide)
          clear hpre hψ
          go_simp
          exact hK _ _ γ HR.out (fun _ _ _ _ h => h) (fun _ _ _ h => h) rfl
        · have q0 : ev (.tmp 31) = _ := hpre 9 (by decide)
          have cx := ((HR.out : Below W2.heap.size W2 W).cell (p := ⟨lb, lo + i, none⟩) (block_of_cell HCX.out)).trans HCX.out
          have zx := block_of_cell cx
          try dsimp only at zx
          clear hpre hψ
          go_simp
          exact hK _ _ γ HR.out (fun _ _ _ _ h => h) (fun _ _ _ h => h) rfl
        · have q0 : ev (.tmp 32) = _ := hpre 10 (by decide)
          clear hpre hψ
          go_simp
          exact hK _ _ γ HR.out (fun _ _ _ _ h => h) (fun _ _ _ h => h) rfl
        · clear hpre hψ
          go_simp
          exact hK _ _ γ HR.out (fun _ _ _ _ h => h) (fun _ _ _ h => h) rfl
        · have q0 : ev (.tmp 33) = _ := hpre 11 (by decide)
          have q1 : ev (.tmp 34) = _ := hpre 12 (by decide)
          clear hpre hψ
          go_simp
          exact hK _ _ γ HR.out (fun _ _ _ _ h => h) (fun _ _ _ h => h) rfl
        · have q0 : ev (.tmp 35) = _ := hpre 13 (by decide)
          clear hpre hψ
          go_simp
          exact hK _ _ γ HR.out (fun _ _ _ _ h => h) (fun _ _ _ h => h) rfl
      · intro vs w6 γ hvl hR hφ
        have q14 := hφ 14 (by decide)
        have HR := Lib.hid hR
        clear hφ hR
        match vs, hvl with
        | [z0, z1, z2, z3, z4, z5, z6, z7, z8, z9, z10, z11, z12, z13, z14], _ =>
        simp only [List.getD_cons_zero, List.getD_cons_succ] at q14
        obtain rfl : z14 = _ := q14
        have HF := Lib.hid (And.intro (HK2.out.trans (Keep.of_below HR.out)) (HD3.out.below HR.out HD3.out.lt))
        clear HR
        simp [putAll]
        go_wp2
        go_ret
        exact ⟨⟨r, rfl, HR0.out⟩, HF.out⟩
  · have d1 : decide ((n : Int) < (i : Int) + 1) = true := decide_eq_true (by omega)
    have d2 : (n : Int) < (i : Int) + 1 := by omega
    clear hk hl hd hu
    go_enter Try.func26, Try.ntmps26
    go_wp2
    rw [← hW1]
    clear hW1 c0 c1 zd fd
    refine wp_region_free10 9 (by kernel_rfl) [some 12, some 13, some 14, some 15, some 16, some 17, some 18, some 19, some 20, some 21] [[], [0], [1], [2], [], [4], [5], [6], [7], [3, 8]] [(0, .pointer (some ⟨dB, 0, none⟩))] (fun W _ => Below W1.heap.size W1 W) (n2Phi dB n c i A true) (fun _ _ _ => True) (by kernel_rfl) (by kernel_rfl) rfl (by kernel_rfl) ?_ ?_ ⟨fun _ => 0, (Below.refl _ _).drew, fun i _ => trivial⟩ ?_ ?_
    · intro z hz
      simp only [List.mem_cons, List.mem_nil_iff, or_false] at hz
      subst hz
      all_goals exact ⟨by kernel_rfl, rfl⟩
    · intro i v W γ hi h
      rcases i with _ | _ | _ | _ | _ | _ | _ | _ | _ | _ | i
      all_goals first | exact h | (simp at hi)
    · refine ⟨?_, ?_, ?_, ?_, ?_, ?_, ?_, ?_, ?_, ?_, trivial⟩
      all_goals
        intro a9 W γ ev hcc hff hfx hR hψ hpre
        simp only [List.mem_cons, List.mem_nil_iff, or_false, forall_eq, forall_eq_or_imp] at hfx
        have f0 := hfx
        clear hfx
        have HR := Lib.hid hR
        clear hR
        refine ⟨fun _ K hK => ?_, trivial⟩

      · clear hpre hψ
        go_simp
        exact hK _ _ γ HR.out (fun _ _ _ _ h => h) (fun _ _ _ h => h) rfl
      · have q0 : ev (.tmp 12) = _ := hpre 0 (by decide)
        clear hpre hψ
        go_simp
        exact hK _ _ γ HR.out (fun _ _ _ _ h => h) (fun _ _ _ h => h) rfl
      · have q0 : ev (.tmp 13) = _ := hpre 1 (by decide)
        clear hpre hψ
        go_simp
        exact hK _ _ γ HR.out (fun _ _ _ _ h => h) (fun _ _ _ h => h) rfl
      · have q0 : ev (.tmp 14) = _ := hpre 2 (by decide)
        have hbk := HD2.out.below (HR.out : Below W1.heap.size W1 W) HD2.out.lt
        have hzz := hbk.lt
        have c0 := hbk.cell 0
        have c1 := hbk.cell 1
        simp only [List.getElem?_toArray, List.getElem?_cons_zero, List.getElem?_cons_succ] at c0 c1
        clear hbk
        clear hpre hψ
        go_simp
        exact hK _ _ γ HR.out (fun _ _ _ _ h => h) (fun _ _ _ h => h) rfl
      · clear hpre hψ
        go_simp
        exact hK _ _ γ HR.out (fun _ _ _ _ h => h) (fun _ _ _ h => h) rfl
      · have q0 : ev (.tmp 16) = _ := hpre 4 (by decide)
        clear hpre hψ
        go_simp
        exact hK _ _ γ HR.out (fun _ _ _ _ h => h) (fun _ _ _ h => h) rfl
      · have q0 : ev (.tmp 17) = _ := hpre 5 (by decide)
        clear hpre hψ
        go_simp
        exact hK _ _ γ HR.out (fun _ _ _ _ h => h) (fun _ _ _ h => h) rfl
      · have q0 : ev (.tmp 18) = _ := hpre 6 (by decide)
        have hbk := HD2.out.below (HR.out : Below W1.heap.size W1 W) HD2.out.lt
        have hzz := hbk.lt
        have c0 := hbk.cell 0
        have c1 := hbk.cell 1
        simp only [List.getElem?_toArray, List.getElem?_cons_zero, List.getElem?_cons_succ] at c0 c1
        clear hbk
        clear hpre hψ
        go_simp
        exact hK _ _ γ HR.out (fun _ _ _ _ h => h) (fun _ _ _ h => h) rfl
      · have q0 : ev (.tmp 19) = _ := hpre 7 (by decide)
        clear hpre hψ
        go_simp
        exact hK _ _ γ HR.out (fun _ _ _ _ h => h) (fun _ _ _ h => h) rfl
      · have q0 : ev (.tmp 15) = _ := hpre 3 (by decide)
        have q1 : ev (.tmp 20) = _ := hpre 8 (by decide)
        clear hpre hψ
        go_simp
        exact hK _ _ γ HR.out (fun _ _ _ _ h => h) (fun _ _ _ h => h) rfl
    · intro vs w' γ hvl hR hφ
      have q9 := hφ 9 (by decide)
      have HR := Lib.hid hR
      clear hφ hR
      match vs, hvl with
      | [y0, y1, y2, y3, y4, y5, y6, y7, y8, y9], _ =>
      simp only [List.getD_cons_zero, List.getD_cons_succ] at q9
      obtain rfl : y9 = _ := q9
      have HF := Lib.hid (And.intro (HK.out.trans (Keep.of_below HR.out)) (HD2.out.below HR.out HD2.out.lt))
      clear HR
      simp [putAll]
      go_wp2
      go_ret
      exact ⟨⟨0, rfl, by omega, by omega⟩, HF.out⟩
theorem keep_grown {d : Nat} {W W' : World} (h : Keep (fun b => b = d) W W') : W.grownBy W' (some d) := ⟨h.os, h.tape, h.output, h.size, fun k hk hne => h.block k hk (fun e => hne (by rw [e]))⟩
theorem next_int (dB n c B i : Nat) (m : Int) (A : Option Addr) (l : List Int) (w : World) (hd : Blk w dB 72 #[.slice A n c, .int .i64 (i : Int)]) (hl : Rd w B 1 encU A n l) (hB : B ≤ dB) (hu : U8s l) (hi : i ≤ 1000000) (hm : 1 ≤ m ∧ m ≤ 1000) :
    Calls Try.prog 26 #[.pointer (some ⟨dB, 0, none⟩), .int .i64 m] w fun e w' => ∃ r : Int, e = .returned (.int .i64 r) ∧ (0 ≤ r ∧ r < m) ∧ Keep (fun b => b = dB) w w' ∧ Blk w' dB 72 #[.slice A n c, .int .i64 ((i + 1 : Nat) : Int)] := by
  obtain ⟨k, rfl⟩ : ∃ k : Nat, m = k := ⟨m.toNat, by omega⟩
  refine (next_any dB n c B i k A l w hd hl hB hu hi (by omega)).mono ?_
  rintro e w' ⟨⟨r, rfl, h1, h2⟩, h3, h4⟩
  exact ⟨r, rfl, ⟨h1, h2⟩, h3, h4⟩
theorem all_snoc2 {α : Type} {P : α → Prop} {l : List α} {x : α} (h : ∀ z ∈ l, P z) (hx : P x) : ∀ z ∈ l ++ [x], P z := fun z hz => (List.mem_append.1 hz).elim (h z) (fun e => by rw [List.mem_singleton.1 e]; exact hx)
end Go.Proofs.Ytcecbohaajocfaa
