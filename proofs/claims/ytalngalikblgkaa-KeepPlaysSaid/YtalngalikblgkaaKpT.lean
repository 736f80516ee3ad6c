/- law08: awake. -/
import Derived.Test.YtalngalikblgkaaKpK
import Derived.Test.YtalngalikblgkaaKpM

set_option linter.unusedSimpArgs false
set_option linter.unusedVariables false
namespace Go.Proofs.Ytalngalikblgkaa
open Go.RowKit

theorem blk_rdB {w : World} {g : Nat} {T : TypeId} {l : List Bool} (h : Blk w g T (l.map Value.bool).toArray) : Rd w w.heap.size 1 encB (some ⟨g, 0, none⟩) l.length l := by
  refine ⟨rfl, fun _ => ⟨g, 0, rfl, h.lt, fun i x hx j u hu => ?_⟩⟩
  match j, hu with
  | 0, hu =>
    simp only [encB, List.getElem?_cons_zero, Option.some.injEq] at hu
    subst hu
    rw [Nat.zero_add, Nat.mul_one, Nat.add_zero, h.cell]
    simp [hx]
theorem ex_game (w : World) : Calls Try.prog 19 #[] w fun e w' => ∃ b1 b2, e = .returned (.agg #[.int .i64 3, .int .i64 2, .int .i64 2, .slice (some ⟨b1, 0, none⟩) 12 12, .slice (some ⟨b2, 0, none⟩) 3 3]) ∧ GmIn w' w'.heap.size ⟨some ⟨b1, 0, none⟩, some ⟨b2, 0, none⟩, 12, 12, 3, 3⟩ exG ∧ Below w.heap.size w w' := by
  refine (example_any w).mono ?_
  rintro e w' ⟨b1, b2, rfl, h1, h2, _, _, hB⟩
  exact ⟨b1, b2, rfl, ⟨Blk.rdI h1, blk_rdB (l := [true, true, false]) h2, Nat.le_refl 12⟩, hB⟩
/-- What Solve returns, read. -/
theorem solved_rd {g : Gm} {k : Nat} {B : Nat} {W : World} {ib cb rb : Nat} (ok : GmOk g) (h : SRows B W (itR g k).1 (ctL g (itR g k).1) (itR g k).2 ib cb rb) : Rd W W.heap.size 1 encB (some ⟨ib, 0, none⟩) g.S (itR g k).1 ∧ Rd W W.heap.size 1 encI (some ⟨cb, 0, none⟩) g.S (ctL g (itR g k).1) ∧ Rd W W.heap.size 1 encI (some ⟨rb, 0, none⟩) g.S (itR g k).2 :=
  ⟨h.1.rd (fun _ => rfl) (itR_len g ok k).1, h.2.1.rd (fun _ => rfl) (ctTo_len g _ _), h.2.2.1.rd (fun _ => rfl) (itR_len g ok k).2⟩
theorem ex_solve (nA gA : Option Addr) (w : World) (hin : GmIn w w.heap.size ⟨nA, gA, 12, 12, 3, 3⟩ exG) :
    Calls Try.prog 20 #[.agg #[.int .i64 3, .int .i64 2, .int .i64 2, .slice nA 12 12, .slice gA 3 3]] w fun e w' => ∃ ib ic cb rb, e = .returned (.tuple #[.agg #[.slice (some ⟨ib, 0, none⟩) 3 ic, .slice (some ⟨cb, 0, none⟩) 3 3, .slice (some ⟨rb, 0, none⟩) 3 3], .int .i64 0]) ∧ (Rd w' w'.heap.size 1 encB (some ⟨ib, 0, none⟩) 3 [true, true, false] ∧ Rd w' w'.heap.size 1 encI (some ⟨cb, 0, none⟩) 3 [0, 1, -1] ∧ Rd w' w'.heap.size 1 encI (some ⟨rb, 0, none⟩) 3 [-1, -1, 0]) ∧ Below w.heap.size w w' := by
  refine (Solve_any nA gA 12 12 3 exG w hin exG_ok).mono ?_
  rintro e w' ⟨ib, ic, cb, rb, k, rfl, hk, hs, hB⟩
  obtain rfl := solved_eq hk ex_solved
  have h := solved_rd exG_ok hs
  rw [ex_val.1, ex_val.2.1] at h
  rw [← ex_val.1, ex_val.2.2] at h
  rw [ex_val.1] at h
  exact ⟨ib, ic, cb, rb, rfl, h, hB⟩
theorem ex_without (nA gA : Option Addr) (w : World) (hin : GmIn w w.heap.size ⟨nA, gA, 12, 12, 3, 3⟩ exG) :
    Calls Try.prog 16 #[.agg #[.int .i64 3, .int .i64 2, .int .i64 2, .slice nA 12 12, .slice gA 3 3], .int .i64 1] w fun e w' => ∃ A n c ib ic, e = .returned (.tuple #[.agg #[.int .i64 3, .int .i64 1, .int .i64 2, .slice A n c, .slice (some ⟨ib, 0, none⟩) 3 ic], .int .i64 0]) ∧ GmIn w' w'.heap.size ⟨A, some ⟨ib, 0, none⟩, n, c, 3, ic⟩ (lessG exG 1) ∧ Below w.heap.size w w' :=
  Without_ok nA gA 12 12 3 exG 1 w hin exG_ok (by decide) (by decide)
theorem ex_solve2 (nA gA : Option Addr) (n c ic : Nat) (w : World) (hin : GmIn w w.heap.size ⟨nA, gA, n, c, 3, ic⟩ (lessG exG 1)) :
    Calls Try.prog 20 #[.agg #[.int .i64 3, .int .i64 1, .int .i64 2, .slice nA n c, .slice gA 3 ic]] w fun e w' => ∃ ib ic cb rb, e = .returned (.tuple #[.agg #[.slice (some ⟨ib, 0, none⟩) 3 ic, .slice (some ⟨cb, 0, none⟩) 3 3, .slice (some ⟨rb, 0, none⟩) 3 3], .int .i64 0]) ∧ Rd w' w'.heap.size 1 encI (some ⟨rb, 0, none⟩) 3 [2, 1, 0] ∧ Below w.heap.size w w' := by
  have ol : GmOk (lessG exG 1) := lessG_ok exG_ok (by decide) (by decide)
  refine (Solve_any nA gA n c ic (lessG exG 1) w hin ol).mono ?_
  rintro e w' ⟨ib, ic, cb, rb, k, rfl, hk, hs, hB⟩
  obtain rfl := solved_eq hk le_solved
  have h := (solved_rd ol hs).2.2
  rw [le_val] at h
  exact ⟨ib, ic, cb, rb, rfl, h, hB⟩
theorem ex_product (b1 b2 b3 b4 : Nat) (w : World) (h1 : GmIn w w.heap.size ⟨some ⟨b1, 0, none⟩, some ⟨b2, 0, none⟩, 12, 12, 3, 3⟩ exG) (h2 : GmIn w w.heap.size ⟨some ⟨b3, 0, none⟩, some ⟨b4, 0, none⟩, 12, 12, 3, 3⟩ exG) :
    Calls Try.prog 13 #[.agg #[.int .i64 3, .int .i64 2, .int .i64 2, .slice (some ⟨b1, 0, none⟩) 12 12, .slice (some ⟨b2, 0, none⟩) 3 3], .agg #[.int .i64 3, .int .i64 2, .int .i64 2, .slice (some ⟨b3, 0, none⟩) 12 12, .slice (some ⟨b4, 0, none⟩) 3 3]] w fun e w' => ∃ A n c A2 c2, e = .returned (.tuple #[.agg #[.int .i64 9, .int .i64 4, .int .i64 4, .slice A n c, .slice A2 9 c2], .int .i64 0]) ∧ GmIn w' w'.heap.size ⟨A, A2, n, c, 9, c2⟩ (prodG exG exG) ∧ Below w.heap.size w w' :=
  Product_ok _ _ 12 12 3 12 12 3 b2 0 b4 0 exG exG w h1 h2 exG_ok exG_ok (by decide)
theorem prodEx_ok : GmOk (prodG exG exG) := prodG_ok exG_ok exG_ok (by decide) (by decide) (by decide)
theorem ex_solve3 (nA gA : Option Addr) (n c gc : Nat) (w : World) (hin : GmIn w w.heap.size ⟨nA, gA, n, c, 9, gc⟩ (prodG exG exG)) :
    Calls Try.prog 20 #[.agg #[.int .i64 9, .int .i64 4, .int .i64 4, .slice nA n c, .slice gA 9 gc]] w fun e w' => ∃ ib ic cb rb inn, e = .returned (.tuple #[.agg #[.slice (some ⟨ib, 0, none⟩) 9 ic, .slice (some ⟨cb, 0, none⟩) 9 9, .slice (some ⟨rb, 0, none⟩) 9 9], .int .i64 0]) ∧ (Rd w' w'.heap.size 1 encB (some ⟨ib, 0, none⟩) 9 inn ∧ inn.count true = 4) ∧ Below w.heap.size w w' := by
  refine (Solve_any nA gA n c gc (prodG exG exG) w hin prodEx_ok).mono ?_
  rintro e w' ⟨ib, ic, cb, rb, k, rfl, hk, hs, hB⟩
  obtain rfl := solved_eq hk pr_solved
  exact ⟨ib, ic, cb, rb, _, rfl, ⟨(solved_rd prodEx_ok hs).1, pr_val⟩, hB⟩
theorem Equal_yes (A A' : Option Addr) (n c c' : Nat) (l : List Int) (w : World) (hl : Rd w w.heap.size 1 encI A n l) (hm : Rd w w.heap.size 1 encI A' n l) (hn : n ≤ 1000000) :
    Calls Try.prog 39 #[.slice A n c, .slice A' n c'] w fun e w' => e = .returned (.bool true) ∧ Below w.heap.size w w' := by
  have h := Equal_any A A' n n c c' l l w hl hm (by omega) (by omega)
  rw [show sameL l l = true from decide_eq_true rfl] at h
  exact h
theorem EqualB_yes (A A' : Option Addr) (n c c' : Nat) (l : List Bool) (w : World) (hl : Rd w w.heap.size 1 encB A n l) (hm : Rd w w.heap.size 1 encB A' n l) (hn : n ≤ 1000000) :
    Calls Try.prog 29 #[.slice A n c, .slice A' n c'] w fun e w' => e = .returned (.bool true) ∧ Below w.heap.size w w' := by
  have h := EqualB_any A A' n n c c' l l w hl hm (by omega) (by omega)
  rw [show sameB l l = true from decide_eq_true rfl] at h
  exact h
theorem count_take {l : List Bool} {k : Nat} {x : Bool} (h : l[k]? = some x) : (l.take (k + 1)).count true = (l.take k).count true + (if x then 1 else 0) := by
  rw [List.take_add_one, h, List.count_append]
  cases x <;> rfl
set_option maxRecDepth 100000 in
set_option maxHeartbeats 2000000 in
theorem awake_any (w : World) : Calls Try.prog 11 #[] w fun e w' => e = .returned (.bool true) ∧ Below w.heap.size w w' := by
  have KX := Lib.hid ex_game
  have KS := Lib.hid ex_solve
  have KW := Lib.hid ex_without
  have KT := Lib.hid ex_solve2
  have KP := Lib.hid ex_product
  have KV := Lib.hid ex_solve3
  have KE := Lib.hid (fun A A' c c' (l : List Int) W h1 h2 => Equal_yes A A' 3 c c' l W h1 h2 (by decide))
  have KB := Lib.hid (fun A A' c c' (l : List Bool) W h1 h2 => EqualB_yes A A' 3 c c' l W h1 h2 (by decide))
  go_enter Try.func11, Try.ntmps11
  go_wp2_with fail
  refine (KX.out _).mono ?_
  rintro e w1 ⟨b1, b2, rfl, hin, hB⟩
  have B0 : Hid (Below w.heap.size w w1) := Lib.hid hB
  clear hB
  have I1 := Lib.hid hin
  clear hin
  go_wp2_with fail
  refine (KS.out _ _ _ I1.out).mono ?_
  rintro e w2 ⟨i1, d1, c1, r1, rfl, hrd, hB⟩
  have B1 : Hid (Below w1.heap.size w1 w2) := Lib.hid hB
  clear hB
  have R1 := Lib.hid hrd
  clear hrd I1
  go_wp2_with fail
  obtain ⟨q1, hq1⟩ : ∃ z, z = w2.heap.size := ⟨_, rfl⟩
  obtain ⟨w3, hw3⟩ : ∃ z, z = w2.alloc (.cells #[.slice (some ⟨i1, 0, none⟩) 3 d1, .slice (some ⟨c1, 0, none⟩) 3 3, .slice (some ⟨r1, 0, none⟩) 3 3] 27) := ⟨_, rfl⟩
  have Q1 : Hid (Blk w3 q1 27 #[.slice (some ⟨i1, 0, none⟩) 3 d1, .slice (some ⟨c1, 0, none⟩) 3 3, .slice (some ⟨r1, 0, none⟩) 3 3]) := Lib.hid (by rw [hw3, hq1]; exact heap_alloc_new w2 _)
  have Zq1 : Hid (q1 = w2.heap.size) := Lib.hid hq1
  have hBn : Below w2.heap.size w2 w3 := by rw [hw3]; exact (Below.refl _ _).alloc (Nat.le_refl _) _
  rw [← hw3, ← hq1]
  have B2 : Hid (Below w2.heap.size w2 w3) := Lib.hid hBn
  clear hw3 hq1 hBn
  refine (KX.out _).mono ?_
  rintro e w4 ⟨b3, b4, rfl, hin, hB⟩
  have B3 : Hid (Below w3.heap.size w3 w4) := Lib.hid hB
  clear hB
  have I2 := Lib.hid hin
  clear hin
  go_wp2_with fail
  refine (KW.out _ _ _ I2.out).mono ?_
  rintro e w5 ⟨A2, n2, e2, g2, h2, rfl, hin, hB⟩
  have B4 : Hid (Below w4.heap.size w4 w5) := Lib.hid hB
  clear hB
  have I3 := Lib.hid hin
  clear hin I2
  go_wp2_with fail
  obtain ⟨q2, hq2⟩ : ∃ z, z = w5.heap.size := ⟨_, rfl⟩
  obtain ⟨w6, hw6⟩ : ∃ z, z = w5.alloc (.cells #[.int .i64 3, .int .i64 1, .int .i64 2, .slice A2 n2 e2, .slice (some ⟨g2, 0, none⟩) 3 h2] 25) := ⟨_, rfl⟩
  have Q2 : Hid (Blk w6 q2 25 #[.int .i64 3, .int .i64 1, .int .i64 2, .slice A2 n2 e2, .slice (some ⟨g2, 0, none⟩) 3 h2]) := Lib.hid (by rw [hw6, hq2]; exact heap_alloc_new w5 _)
  have Zq2 : Hid (q2 = w5.heap.size) := Lib.hid hq2
  have hBn : Below w5.heap.size w5 w6 := by rw [hw6]; exact (Below.refl _ _).alloc (Nat.le_refl _) _
  rw [← hw6, ← hq2]
  have B5 : Hid (Below w5.heap.size w5 w6) := Lib.hid hBn
  clear hw6 hq2 hBn
  refine (KT.out _ _ _ _ _ _ (I3.out.next' B5.out)).mono ?_
  rintro e w7 ⟨i2, d2, c2, r2, rfl, hrd, hB⟩
  have B6 : Hid (Below w6.heap.size w6 w7) := Lib.hid hB
  clear hB
  have R2 := Lib.hid hrd
  clear hrd I3
  go_wp2_with fail
  obtain ⟨q3, hq3⟩ : ∃ z, z = w7.heap.size := ⟨_, rfl⟩
  obtain ⟨w8, hw8⟩ : ∃ z, z = w7.alloc (.cells #[.slice (some ⟨i2, 0, none⟩) 3 d2, .slice (some ⟨c2, 0, none⟩) 3 3, .slice (some ⟨r2, 0, none⟩) 3 3] 27) := ⟨_, rfl⟩
  have Q3 : Hid (Blk w8 q3 27 #[.slice (some ⟨i2, 0, none⟩) 3 d2, .slice (some ⟨c2, 0, none⟩) 3 3, .slice (some ⟨r2, 0, none⟩) 3 3]) := Lib.hid (by rw [hw8, hq3]; exact heap_alloc_new w7 _)
  have Zq3 : Hid (q3 = w7.heap.size) := Lib.hid hq3
  have hBn : Below w7.heap.size w7 w8 := by rw [hw8]; exact (Below.refl _ _).alloc (Nat.le_refl _) _
  rw [← hw8, ← hq3]
  have B7 : Hid (Below w7.heap.size w7 w8) := Lib.hid hBn
  clear hw8 hq3 hBn
  refine (KX.out _).mono ?_
  rintro e w9 ⟨b5, b6, rfl, hin, hB⟩
  have B8 : Hid (Below w8.heap.size w8 w9) := Lib.hid hB
  clear hB
  have I4 := Lib.hid hin
  clear hin
  go_wp2_with fail
  refine (KX.out _).mono ?_
  rintro e w10 ⟨b7, b8, rfl, hin, hB⟩
  have B9 : Hid (Below w9.heap.size w9 w10) := Lib.hid hB
  clear hB
  have I5 := Lib.hid hin
  clear hin
  go_wp2_with fail
  refine (KP.out _ _ _ _ _ (I4.out.next' B9.out) I5.out).mono ?_
  rintro e w11 ⟨A4, n4, e4, A5, h5, rfl, hin, hB⟩
  have B10 : Hid (Below w10.heap.size w10 w11) := Lib.hid hB
  clear hB
  have I6 := Lib.hid hin
  clear hin I4 I5
  go_wp2_with fail
  obtain ⟨q4, hq4⟩ : ∃ z, z = w11.heap.size := ⟨_, rfl⟩
  obtain ⟨w12, hw12⟩ : ∃ z, z = w11.alloc (.cells #[.int .i64 9, .int .i64 4, .int .i64 4, .slice A4 n4 e4, .slice A5 9 h5] 25) := ⟨_, rfl⟩
  have Q4 : Hid (Blk w12 q4 25 #[.int .i64 9, .int .i64 4, .int .i64 4, .slice A4 n4 e4, .slice A5 9 h5]) := Lib.hid (by rw [hw12, hq4]; exact heap_alloc_new w11 _)
  have Zq4 : Hid (q4 = w11.heap.size) := Lib.hid hq4
  have hBn : Below w11.heap.size w11 w12 := by rw [hw12]; exact (Below.refl _ _).alloc (Nat.le_refl _) _
  rw [← hw12, ← hq4]
  have B11 : Hid (Below w11.heap.size w11 w12) := Lib.hid hBn
  clear hw12 hq4 hBn
  refine (KV.out _ _ _ _ _ _ (I6.out.next' B11.out)).mono ?_
  rintro e w13 ⟨i3, d3, c3, r3, inn, rfl, hrd, hB⟩
  have B12 : Hid (Below w12.heap.size w12 w13) := Lib.hid hB
  clear hB
  have R3 := Lib.hid hrd
  clear hrd I6
  go_wp2_with fail
  obtain ⟨q5, hq5⟩ : ∃ z, z = w13.heap.size := ⟨_, rfl⟩
  obtain ⟨w14, hw14⟩ : ∃ z, z = w13.alloc (.cells #[.slice (some ⟨i3, 0, none⟩) 9 d3, .slice (some ⟨c3, 0, none⟩) 9 9, .slice (some ⟨r3, 0, none⟩) 9 9] 27) := ⟨_, rfl⟩
  have Q5 : Hid (Blk w14 q5 27 #[.slice (some ⟨i3, 0, none⟩) 9 d3, .slice (some ⟨c3, 0, none⟩) 9 9, .slice (some ⟨r3, 0, none⟩) 9 9]) := Lib.hid (by rw [hw14, hq5]; exact heap_alloc_new w13 _)
  have Zq5 : Hid (q5 = w13.heap.size) := Lib.hid hq5
  have hBn : Below w13.heap.size w13 w14 := by rw [hw14]; exact (Below.refl _ _).alloc (Nat.le_refl _) _
  rw [← hw14, ← hq5]
  have B13 : Hid (Below w13.heap.size w13 w14) := Lib.hid hBn
  clear hw14 hq5 hBn
  have R4 := Lib.hid (And.intro (R3.out.1.next B13.out) R3.out.2)
  have HLI := Lib.hid R4.out.1.1
  go_loopw [11, 43] (fun n i wr => ∃ k : Nat, k ≤ 9 ∧ i = .int .i64 k ∧ n = .int .i64 (((inn.take k).count true : Nat) : Int) ∧ wr = w14) (fun _ i _ => 9 - (intOf i).toNat)
  case atStart => exact ⟨0, by omega, rfl, by simp, rfl⟩
  case round =>
    obtain ⟨k, hk, rfl, rfl, hw9⟩ := hrel
    obtain rfl := hw9.symm
    by_cases hlt : k < 9
    · obtain ⟨b, off, x, e1, hb, hx, hcx⟩ := R4.out.1.at_ hlt
      obtain ⟨rfl, rfl⟩ : b = i3 ∧ off = 0 := by simpa [eq_comm] using e1
      have cx := cellB hcx
      rw [Nat.zero_add] at cx
      have zx := block_of_cell cx
      dsimp only at zx
      have HCT := Lib.hid (count_take hx)
      obtain ⟨c9, hc9⟩ : ∃ z, z = (inn.take k).count true := ⟨_, rfl⟩
      have hc9l : c9 ≤ 9 := by
        have h1 : (inn.take k).count true ≤ (inn.take k).length := List.count_le_length
        rw [List.length_take] at h1
        omega
      rw [← hc9] at HCT ⊢
      have wc : IntKind.i64.wrap ((c9 : Int) + 1) = (c9 : Int) + 1 := IntWalk.i64_in _ (by omega)
      have hk0 : (0 : Int) ≤ (k : Int) := by omega
      have hkn : (k : Int) < (9 : Int) := by omega
      clear hx hcx hc9 e1
      cases x
      · go_wp2
        go_roundw
        case rel => exact ⟨k + 1, by omega, by go_num, by rw [HCT.out]; rfl, trivial⟩
        case measure => simp [intOf]; omega
      · go_wp2
        go_roundw
        case rel => exact ⟨k + 1, by omega, by go_num, by rw [HCT.out]; simp, trivial⟩
        case measure => simp [intOf]; omega
    · obtain rfl : k = 9 := by omega
      have h4 : (inn.take 9).count true = 4 := by rw [List.take_of_length_le (by rw [HLI.out]; exact Nat.le_refl _)]; exact R4.out.2
      rw [h4]
      clear h4
      have hbk := Q1.out.below (below3 (below3 (below3 (below3 (below3 (below3 (below3 (below3 (below3 (below3 B3.out B4.out (Nat.le_refl _)) B5.out (Nat.le_refl _)) B6.out (Nat.le_refl _)) B7.out (Nat.le_refl _)) B8.out (Nat.le_refl _)) B9.out (Nat.le_refl _)) B10.out (Nat.le_refl _)) B11.out (Nat.le_refl _)) B12.out (Nat.le_refl _)) B13.out (Nat.le_refl _)) Q1.out.lt
      have p0 := hbk.cell 0
      simp only [List.getElem?_toArray, List.getElem?_cons_zero, List.getElem?_cons_succ] at p0
      have zp := hbk.lt
      clear hbk
      go_wp2_with fail
      obtain ⟨q6, hq6⟩ : ∃ z, z = w14.heap.size := ⟨_, rfl⟩
      obtain ⟨w15, hw15⟩ : ∃ z, z = w14.alloc (.cells #[.bool true, .bool true, .bool false] 4) := ⟨_, rfl⟩
      have Q6 : Hid (Blk w15 q6 4 #[.bool true, .bool true, .bool false]) := Lib.hid (by rw [hw15, hq6]; exact heap_alloc_new w14 _)
      have Zq6 : Hid (q6 = w14.heap.size) := Lib.hid hq6
      have hBn : Below w14.heap.size w14 w15 := by rw [hw15]; exact (Below.refl _ _).alloc (Nat.le_refl _) _
      rw [← hw15, ← hq6]
      have B14 : Hid (Below w14.heap.size w14 w15) := Lib.hid hBn
      clear hw15 hq6 hBn
      refine (KB.out _ _ _ _ _ _ (R1.out.1.next (below3 (below3 (below3 (below3 (below3 (below3 (below3 (below3 (below3 (below3 (below3 (below3 B2.out B3.out (Nat.le_refl _)) B4.out (Nat.le_refl _)) B5.out (Nat.le_refl _)) B6.out (Nat.le_refl _)) B7.out (Nat.le_refl _)) B8.out (Nat.le_refl _)) B9.out (Nat.le_refl _)) B10.out (Nat.le_refl _)) B11.out (Nat.le_refl _)) B12.out (Nat.le_refl _)) B13.out (Nat.le_refl _)) B14.out (Nat.le_refl _))) (blk_rdB (l := [true, true, false]) Q6.out)).mono ?_
      rintro e w16 ⟨rfl, hB⟩
      have B15 : Hid (Below w15.heap.size w15 w16) := Lib.hid hB
      clear hB
      clear p0 zp
      have hbk := Q1.out.below (below3 (below3 (below3 (below3 (below3 (below3 (below3 (below3 (below3 (below3 (below3 (below3 B3.out B4.out (Nat.le_refl _)) B5.out (Nat.le_refl _)) B6.out (Nat.le_refl _)) B7.out (Nat.le_refl _)) B8.out (Nat.le_refl _)) B9.out (Nat.le_refl _)) B10.out (Nat.le_refl _)) B11.out (Nat.le_refl _)) B12.out (Nat.le_refl _)) B13.out (Nat.le_refl _)) B14.out (Nat.le_refl _)) B15.out (Nat.le_refl _)) Q1.out.lt
      have p1 := hbk.cell 1
      have p2 := hbk.cell 2
      simp only [List.getElem?_toArray, List.getElem?_cons_zero, List.getElem?_cons_succ] at p1 p2
      have zp := hbk.lt
      clear hbk
      go_wp2_with fail
      obtain ⟨q7, hq7⟩ : ∃ z, z = w16.heap.size := ⟨_, rfl⟩
      obtain ⟨w17, hw17⟩ : ∃ z, z = w16.alloc (.cells #[.int .i64 0, .int .i64 1, .int .i64 (-1)] 3) := ⟨_, rfl⟩
      have Q7 : Hid (Blk w17 q7 3 #[.int .i64 0, .int .i64 1, .int .i64 (-1)]) := Lib.hid (by rw [hw17, hq7]; exact heap_alloc_new w16 _)
      have Zq7 : Hid (q7 = w16.heap.size) := Lib.hid hq7
      have hBn : Below w16.heap.size w16 w17 := by rw [hw17]; exact (Below.refl _ _).alloc (Nat.le_refl _) _
      rw [← hw17, ← hq7]
      have B16 : Hid (Below w16.heap.size w16 w17) := Lib.hid hBn
      clear hw17 hq7 hBn
      refine (KE.out _ _ _ _ _ _ (R1.out.2.1.next (below3 (below3 (below3 (below3 (below3 (below3 (below3 (below3 (below3 (below3 (below3 (below3 (below3 (below3 B2.out B3.out (Nat.le_refl _)) B4.out (Nat.le_refl _)) B5.out (Nat.le_refl _)) B6.out (Nat.le_refl _)) B7.out (Nat.le_refl _)) B8.out (Nat.le_refl _)) B9.out (Nat.le_refl _)) B10.out (Nat.le_refl _)) B11.out (Nat.le_refl _)) B12.out (Nat.le_refl _)) B13.out (Nat.le_refl _)) B14.out (Nat.le_refl _)) B15.out (Nat.le_refl _)) B16.out (Nat.le_refl _))) (Blk.rdI (l := [0, 1, -1]) Q7.out)).mono ?_
      rintro e w18 ⟨rfl, hB⟩
      have B17 : Hid (Below w17.heap.size w17 w18) := Lib.hid hB
      clear hB
      clear p1 p2 zp
      have hbk := Q1.out.below (below3 (below3 (below3 (below3 (below3 (below3 (below3 (below3 (below3 (below3 (below3 (below3 (below3 (below3 B3.out B4.out (Nat.le_refl _)) B5.out (Nat.le_refl _)) B6.out (Nat.le_refl _)) B7.out (Nat.le_refl _)) B8.out (Nat.le_refl _)) B9.out (Nat.le_refl _)) B10.out (Nat.le_refl _)) B11.out (Nat.le_refl _)) B12.out (Nat.le_refl _)) B13.out (Nat.le_refl _)) B14.out (Nat.le_refl _)) B15.out (Nat.le_refl _)) B16.out (Nat.le_refl _)) B17.out (Nat.le_refl _)) Q1.out.lt
      have p2 := hbk.cell 2
      simp only [List.getElem?_toArray, List.getElem?_cons_zero, List.getElem?_cons_succ] at p2
      have zp := hbk.lt
      clear hbk
      go_wp2_with fail
      obtain ⟨q8, hq8⟩ : ∃ z, z = w18.heap.size := ⟨_, rfl⟩
      obtain ⟨w19, hw19⟩ : ∃ z, z = w18.alloc (.cells #[.int .i64 (-1), .int .i64 (-1), .int .i64 0] 3) := ⟨_, rfl⟩
      have Q8 : Hid (Blk w19 q8 3 #[.int .i64 (-1), .int .i64 (-1), .int .i64 0]) := Lib.hid (by rw [hw19, hq8]; exact heap_alloc_new w18 _)
      have Zq8 : Hid (q8 = w18.heap.size) := Lib.hid hq8
      have hBn : Below w18.heap.size w18 w19 := by rw [hw19]; exact (Below.refl _ _).alloc (Nat.le_refl _) _
      rw [← hw19, ← hq8]
      have B18 : Hid (Below w18.heap.size w18 w19) := Lib.hid hBn
      clear hw19 hq8 hBn
      refine (KE.out _ _ _ _ _ _ (R1.out.2.2.next (below3 (below3 (below3 (below3 (below3 (below3 (below3 (below3 (below3 (below3 (below3 (below3 (below3 (below3 (below3 (below3 B2.out B3.out (Nat.le_refl _)) B4.out (Nat.le_refl _)) B5.out (Nat.le_refl _)) B6.out (Nat.le_refl _)) B7.out (Nat.le_refl _)) B8.out (Nat.le_refl _)) B9.out (Nat.le_refl _)) B10.out (Nat.le_refl _)) B11.out (Nat.le_refl _)) B12.out (Nat.le_refl _)) B13.out (Nat.le_refl _)) B14.out (Nat.le_refl _)) B15.out (Nat.le_refl _)) B16.out (Nat.le_refl _)) B17.out (Nat.le_refl _)) B18.out (Nat.le_refl _))) (Blk.rdI (l := [-1, -1, 0]) Q8.out)).mono ?_
      rintro e w20 ⟨rfl, hB⟩
      have B19 : Hid (Below w19.heap.size w19 w20) := Lib.hid hB
      clear hB
      clear p2 zp
      have hbk := Q3.out.below (below3 (below3 (below3 (below3 (below3 (below3 (below3 (below3 (below3 (below3 (below3 B8.out B9.out (Nat.le_refl _)) B10.out (Nat.le_refl _)) B11.out (Nat.le_refl _)) B12.out (Nat.le_refl _)) B13.out (Nat.le_refl _)) B14.out (Nat.le_refl _)) B15.out (Nat.le_refl _)) B16.out (Nat.le_refl _)) B17.out (Nat.le_refl _)) B18.out (Nat.le_refl _)) B19.out (Nat.le_refl _)) Q3.out.lt
      have o2 := hbk.cell 2
      simp only [List.getElem?_toArray, List.getElem?_cons_zero, List.getElem?_cons_succ] at o2
      have zo := hbk.lt
      clear hbk
      go_wp2_with fail
      obtain ⟨q9, hq9⟩ : ∃ z, z = w20.heap.size := ⟨_, rfl⟩
      obtain ⟨w21, hw21⟩ : ∃ z, z = w20.alloc (.cells #[.int .i64 2, .int .i64 1, .int .i64 0] 3) := ⟨_, rfl⟩
      have Q9 : Hid (Blk w21 q9 3 #[.int .i64 2, .int .i64 1, .int .i64 0]) := Lib.hid (by rw [hw21, hq9]; exact heap_alloc_new w20 _)
      have Zq9 : Hid (q9 = w20.heap.size) := Lib.hid hq9
      have hBn : Below w20.heap.size w20 w21 := by rw [hw21]; exact (Below.refl _ _).alloc (Nat.le_refl _) _
      rw [← hw21, ← hq9]
      have B20 : Hid (Below w20.heap.size w20 w21) := Lib.hid hBn
      clear hw21 hq9 hBn
      refine (KE.out _ _ _ _ _ _ (R2.out.next (below3 (below3 (below3 (below3 (below3 (below3 (below3 (below3 (below3 (below3 (below3 (below3 (below3 B7.out B8.out (Nat.le_refl _)) B9.out (Nat.le_refl _)) B10.out (Nat.le_refl _)) B11.out (Nat.le_refl _)) B12.out (Nat.le_refl _)) B13.out (Nat.le_refl _)) B14.out (Nat.le_refl _)) B15.out (Nat.le_refl _)) B16.out (Nat.le_refl _)) B17.out (Nat.le_refl _)) B18.out (Nat.le_refl _)) B19.out (Nat.le_refl _)) B20.out (Nat.le_refl _))) (Blk.rdI (l := [2, 1, 0]) Q9.out)).mono ?_
      rintro e w22 ⟨rfl, hB⟩
      have B21 : Hid (Below w21.heap.size w21 w22) := Lib.hid hB
      clear hB
      go_wp2
      go_ret
      exact ⟨rfl, (below3 (below3 (below3 (below3 (below3 (below3 (below3 (below3 (below3 (below3 (below3 (below3 (below3 (below3 (below3 (below3 (below3 (below3 (below3 (below3 (below3 B0.out B1.out (Nat.le_refl _)) B2.out (Nat.le_refl _)) B3.out (Nat.le_refl _)) B4.out (Nat.le_refl _)) B5.out (Nat.le_refl _)) B6.out (Nat.le_refl _)) B7.out (Nat.le_refl _)) B8.out (Nat.le_refl _)) B9.out (Nat.le_refl _)) B10.out (Nat.le_refl _)) B11.out (Nat.le_refl _)) B12.out (Nat.le_refl _)) B13.out (Nat.le_refl _)) B14.out (Nat.le_refl _)) B15.out (Nat.le_refl _)) B16.out (Nat.le_refl _)) B17.out (Nat.le_refl _)) B18.out (Nat.le_refl _)) B19.out (Nat.le_refl _)) B20.out (Nat.le_refl _)) B21.out (Nat.le_refl _))⟩
end Go.Proofs.Ytalngalikblgkaa
