/- law06: awake. -/
import Derived.Test.YtnpkcipeacogcaaBkWc

set_option linter.unusedSimpArgs false
set_option linter.unusedVariables false
namespace Go.Proofs.Ytnpkcipeacogcaa
open Go.RowKit

theorem ex_run (bA gA lA fA : Option Addr) (w : World) (hin : ArgsIn w w.heap.size bA 1 exB gA 1 exG lA 1 exL) (hf : Rd w w.heap.size 1 encI fA 1 [0]) :
    Calls Try.prog 15 #[.agg #[.slice bA 1 1, .slice gA 1 1], .slice lA 1 1, .slice fA 1 1] w fun e w' => ∃ g1 g2 n2 s, e = .returned (.tuple #[.agg #[.int .i64 (-1), .slice (some ⟨g1, 0, none⟩) 1 1, .slice (some ⟨g2, 0, none⟩) n2 n2, .int .i64 s], .int .i64 0]) ∧ Below w.heap.size w w' ∧ Rd w' w'.heap.size 1 encI (some ⟨g1, 0, none⟩) 1 [300] := by
  refine (run_any bA gA lA fA 1 1 1 1 1 1 1 1 exB exG exL [0] w hin hf ex_ok ex_f0.ok).mono ?_
  rintro e w' ⟨g1, g2, rfl, h1, h2⟩
  refine ⟨g1, g2, (runL 0 (ply0 exB exG [0]) (secsL exL)).es.length, (runL 0 (ply0 exB exG [0]) (secsL exL)).served, ?_, h1, ?_⟩
  · unfold resVal
    rw [ex_d0, ex_c0]
  · have h := Blk.rdI h2.e
    rw [ex_e0] at h
    exact h
theorem ex_worstC (bA gA lA : Option Addr) (w : World) (hin : ArgsIn w w.heap.size bA 1 exB gA 1 exG lA 1 exL) :
    Calls Try.prog 20 #[.agg #[.slice bA 1 1, .slice gA 1 1], .slice lA 1 1, .int .i64 1] w fun e w' => ∃ A c h1 h2 s, e = .returned (.tuple #[.slice A 1 c, .agg #[.int .i64 10, .slice (some ⟨h1, 0, none⟩) 1 1, .slice (some ⟨h2, 0, none⟩) 1 1, .int .i64 s], .int .i64 0]) ∧ Below w.heap.size w w' ∧ Rd w' w'.heap.size 1 encI A 1 [1] := by
  refine (Worst_any bA gA lA 1 1 1 1 1 1 exB exG exL 1 w hin ex_ok (by decide) (by decide) (by decide +kernel)).mono ?_
  rintro e w' ⟨A, c, fs, g1, g2, rfl, h⟩
  obtain ⟨h1, h2, h3, h4, h5, h6⟩ := h
  obtain rfl := ex_worst h4 h5 h6
  have hd : (runOf exB exG exL [1]).dark = 10 := ex_d1
  rw [hd]
  exact ⟨A, c, _, _, _, rfl, h1, row_rdI h2⟩
theorem ex_holdC (bA gA : Option Addr) (w : World) (hb : Rd w w.heap.size 4 Bat.enc bA 1 exB) (hg : Rd w w.heap.size 5 Gen.enc gA 1 exG) :
    Calls Try.prog 24 #[.agg #[.slice bA 1 1, .slice gA 1 1], .int .i64 100, .int .i64 1] w fun e w' => e = .returned (.tuple #[.int .i64 10, .int .i64 0]) ∧ Below w.heap.size w w' := by
  refine (Hold_any bA gA 1 1 1 1 exB exG 100 1 w hb hg ex_okH (by decide) (by decide) (by decide +kernel)).mono ?_
  rintro e w' ⟨m, rfl, h1, h2⟩
  obtain rfl := ex_hold h2
  exact ⟨rfl, h1⟩
theorem ex_leastC (bA gA lA : Option Addr) (w : World) (hin : ArgsIn w w.heap.size bA 1 exB gA 1 exG lA 1 exL) :
    Calls Try.prog 21 #[.agg #[.slice bA 1 1, .slice gA 1 1], .slice lA 1 1, .int .i64 1] w fun e w' => e = .returned (.tuple #[.int .i64 400, .int .i64 0]) ∧ Below w.heap.size w w' := by
  refine (Least_any bA gA lA 1 1 1 1 1 1 exB exG exL 1 w hin ex_ok (by decide) (by decide) (by decide +kernel)).mono ?_
  rintro e w' ⟨m, rfl, h1, h2⟩
  obtain rfl := ex_least h2
  exact ⟨rfl, h1⟩
theorem rd_one {α : Type} {w : World} {b : Nat} {T : TypeId} {f : α → List Value} {size : Nat} {x : α} (h : Blk w b T (f x).toArray) : Rd w w.heap.size size f (some ⟨b, 0, none⟩) 1 [x] := by
  refine ⟨rfl, fun _ => ⟨b, 0, rfl, h.lt, fun i y hy j u hu => ?_⟩⟩
  match i, hy with
  | 0, hy =>
    simp only [List.getElem?_cons_zero, Option.some.injEq] at hy
    subst hy
    rw [Nat.zero_mul, Nat.add_zero, Nat.zero_add, h.cell]
    simpa using hu
set_option maxRecDepth 100000 in
theorem example_any (w : World) : Calls Try.prog 33 #[] w fun e w' => ∃ bA gA lA, e = .returned (.tuple #[.agg #[.slice bA 1 1, .slice gA 1 1], .slice lA 1 1]) ∧ Below w.heap.size w w' ∧ ArgsIn w' w'.heap.size bA 1 exB gA 1 exG lA 1 exL := by
  go_enter Try.func33, Try.ntmps33
  go_wp2
  obtain ⟨W0, hW0⟩ : ∃ z, z = w.alloc (.cells #[.slice (some ⟨w.heap.size + 1, 0, none⟩) 1 1, .slice (some ⟨w.heap.size + 1 + 1, 0, none⟩) 1 1] 26) := ⟨_, rfl⟩
  have s0 : W0.heap.size = w.heap.size + 1 := by rw [hW0, World.size_alloc]
  have hb0 : Blk W0 w.heap.size 26 #[.slice (some ⟨w.heap.size + 1, 0, none⟩) 1 1, .slice (some ⟨w.heap.size + 1 + 1, 0, none⟩) 1 1] := by rw [hW0]; exact heap_alloc_new w _
  have hL0 : Below w.heap.size w W0 := by rw [hW0]; (repeat' (first | (with_reducible exact Below.refl _ _) | (with_reducible assumption) | (with_reducible refine below_drewN ?_ _) | (with_reducible refine below_after (by assumption) ?_ ?_) | (with_reducible refine Below.drew ?_) | (with_reducible refine Below.alloc ?_ ?_ _) | (with_reducible refine Below.setCell ?_ ?_ _) | omega | (simp; omega) | (simp; done)))
  rw [← hW0]
  clear hW0
  obtain ⟨W1, hW1⟩ : ∃ z, z = W0.alloc (.cells #[.int .i64 1000, .int .i64 1000, .int .i64 100, .int .i64 10] 34) := ⟨_, rfl⟩
  have s1 : W1.heap.size = w.heap.size + 1 + 1 := by rw [hW1, World.size_alloc, s0]
  have hb1 : Blk W1 (w.heap.size + 1) 34 #[.int .i64 1000, .int .i64 1000, .int .i64 100, .int .i64 10] := by have h := heap_alloc_new W0 (.cells #[.int .i64 1000, .int .i64 1000, .int .i64 100, .int .i64 10] 34); rw [s0] at h; rw [hW1]; exact h
  have hL1 : Below w.heap.size w W1 := by rw [hW1]; exact hL0.alloc (by omega) _
  have hb01 : Blk W1 w.heap.size 26 #[.slice (some ⟨w.heap.size + 1, 0, none⟩) 1 1, .slice (some ⟨w.heap.size + 1 + 1, 0, none⟩) 1 1] := by rw [hW1]; exact hb0.alloc _
  rw [← hW1]
  clear hW1
  obtain ⟨W2, hW2⟩ : ∃ z, z = W1.alloc (.cells #[.int .i64 100, .int .i64 20, .int .i64 5, .int .i64 2, .int .i64 2] 66) := ⟨_, rfl⟩
  have s2 : W2.heap.size = w.heap.size + 1 + 1 + 1 := by rw [hW2, World.size_alloc, s1]
  have hb2 : Blk W2 (w.heap.size + 1 + 1) 66 #[.int .i64 100, .int .i64 20, .int .i64 5, .int .i64 2, .int .i64 2] := by have h := heap_alloc_new W1 (.cells #[.int .i64 100, .int .i64 20, .int .i64 5, .int .i64 2, .int .i64 2] 66); rw [s1] at h; rw [hW2]; exact h
  have hL2 : Below w.heap.size w W2 := by rw [hW2]; exact hL1.alloc (by omega) _
  have hb02 : Blk W2 w.heap.size 26 #[.slice (some ⟨w.heap.size + 1, 0, none⟩) 1 1, .slice (some ⟨w.heap.size + 1 + 1, 0, none⟩) 1 1] := by rw [hW2]; exact hb01.alloc _
  have hb12 : Blk W2 (w.heap.size + 1) 34 #[.int .i64 1000, .int .i64 1000, .int .i64 100, .int .i64 10] := by rw [hW2]; exact hb1.alloc _
  rw [← hW2]
  clear hW2
  obtain ⟨W3, hW3⟩ : ∃ z, z = W2.alloc (.cells #[.int .i64 60, .int .i64 100] 37) := ⟨_, rfl⟩
  have s3 : W3.heap.size = w.heap.size + 1 + 1 + 1 + 1 := by rw [hW3, World.size_alloc, s2]
  have hb3 : Blk W3 (w.heap.size + 1 + 1 + 1) 37 #[.int .i64 60, .int .i64 100] := by have h := heap_alloc_new W2 (.cells #[.int .i64 60, .int .i64 100] 37); rw [s2] at h; rw [hW3]; exact h
  have hL3 : Below w.heap.size w W3 := by rw [hW3]; exact hL2.alloc (by omega) _
  have hb03 : Blk W3 w.heap.size 26 #[.slice (some ⟨w.heap.size + 1, 0, none⟩) 1 1, .slice (some ⟨w.heap.size + 1 + 1, 0, none⟩) 1 1] := by rw [hW3]; exact hb02.alloc _
  have hb13 : Blk W3 (w.heap.size + 1) 34 #[.int .i64 1000, .int .i64 1000, .int .i64 100, .int .i64 10] := by rw [hW3]; exact hb12.alloc _
  have hb23 : Blk W3 (w.heap.size + 1 + 1) 66 #[.int .i64 100, .int .i64 20, .int .i64 5, .int .i64 2, .int .i64 2] := by rw [hW3]; exact hb2.alloc _
  rw [← hW3]
  clear hW3
  have q0 := hb03.cell 0
  have q1 := hb03.cell 1
  simp at q0 q1
  refine bodyPost_ret (v := .tuple #[.agg #[.slice (some ⟨w.heap.size + 1, 0, none⟩) 1 1, .slice (some ⟨w.heap.size + 1 + 1, 0, none⟩) 1 1], .slice (some ⟨w.heap.size + 1 + 1 + 1, 0, none⟩) 1 1]) (by simp [results, Try.results33, go_sem, q0, q1]) rfl ⟨_, _, _, rfl, hL3, ?_, ?_, ?_⟩
  · exact rd_one (f := Bat.enc) (x := ⟨1000, 1000, 100, 10⟩) hb13
  · exact rd_one (f := Gen.enc) (x := ⟨100, 20, 5, 2, 2⟩) hb23
  · exact rd_one (f := Spn.enc) (x := ⟨60, 100⟩) hb3
set_option maxRecDepth 100000 in
set_option maxHeartbeats 1000000 in
theorem awake_any (w : World) : Calls Try.prog 18 #[] w fun e w' => e = .returned (.bool true) ∧ Below w.heap.size w w' := by
  have KX := Lib.hid example_any
  have KR := Lib.hid ex_run
  have KW := Lib.hid ex_worstC
  have KH := Lib.hid ex_holdC
  have KL := Lib.hid ex_leastC
  have KE := Lib.hid (fun A A' c c' (x : Int) W h1 h2 => (Equal_any A A' 1 1 c c' [x] [x] W h1 h2 (by decide) (by decide)))
  go_enter Try.func18, Try.ntmps18
  go_wp2_with fail
  refine (KX.out _).mono ?_
  rintro e w1 ⟨bA, gA, lA, rfl, hB1, hin⟩
  have HL1 := Lib.hid hB1
  have HI1 := Lib.hid hin
  clear hB1 hin
  have HBK : Hid (Blk (w1.alloc (.cells #[.slice bA 1 1, .slice gA 1 1] 26)) w1.heap.size 26 #[.slice bA 1 1, .slice gA 1 1]) := Lib.hid (heap_alloc_new w1 _)
  go_wp2_with fail
  obtain ⟨W1, hW1⟩ : ∃ z, z = (w1.alloc (.cells #[.slice bA 1 1, .slice gA 1 1] 26)).alloc (.cells #[.int .i64 0] 3) := ⟨_, rfl⟩
  have hi1 : Below w1.heap.size w1 W1 := by rw [hW1]; (repeat' (first | (with_reducible exact Below.refl _ _) | (with_reducible assumption) | (with_reducible refine below_drewN ?_ _) | (with_reducible refine below_after (by assumption) ?_ ?_) | (with_reducible refine Below.drew ?_) | (with_reducible refine Below.alloc ?_ ?_ _) | (with_reducible refine Below.setCell ?_ ?_ _) | omega | (simp; omega) | (simp; done)))
  have hr1 : Rd W1 W1.heap.size 1 encI (some ⟨w1.heap.size + 1, 0, none⟩) 1 [0] := by
    have h := heap_alloc_new (w1.alloc (.cells #[.slice bA 1 1, .slice gA 1 1] 26)) (.cells #[.int .i64 0] 3)
    rw [World.size_alloc] at h
    rw [hW1]
    exact rd_one (f := encI) h
  have hk1 : Blk W1 w1.heap.size 26 #[.slice bA 1 1, .slice gA 1 1] := by rw [hW1]; exact HBK.out.alloc _
  have hlow1 : Below w.heap.size w W1 := HL1.out.trans (hi1.mono HL1.out.size)
  rw [← hW1]
  clear hW1 HBK
  refine (KR.out _ _ _ _ _ (HI1.out.next hi1) hr1).mono ?_
  rintro e w2 ⟨g1, g2, n2, sv, rfl, hB2, hre⟩
  have HI2 := Lib.hid ((HI1.out.next hi1).next hB2)
  have HBK2 := Lib.hid (hk1.below hB2 hk1.lt)
  have HL2 := Lib.hid (below3 hlow1 hB2 (Nat.le_refl _))
  have HRE := Lib.hid hre
  clear hi1 hr1 hk1 hlow1 hB2 hre HL1 HI1
  have c0 : w2.cell? ⟨w1.heap.size, 0, none⟩ = some (.slice bA 1 1) := HBK2.out.cell 0
  have c1 : w2.cell? ⟨w1.heap.size, 1, none⟩ = some (.slice gA 1 1) := HBK2.out.cell 1
  have z1 := HBK2.out.lt
  go_wp2_with fail
  obtain ⟨W3, hW3⟩ : ∃ z, z = w2.alloc (.cells #[.int .i64 (-1), .slice (some ⟨g1, 0, none⟩) 1 1, .slice (some ⟨g2, 0, none⟩) n2 n2, .int .i64 sv] 40) := ⟨_, rfl⟩
  have hi3 : Below w2.heap.size w2 W3 := by rw [hW3]; exact (Below.refl _ _).alloc (Nat.le_refl _) _
  have hk3 : Blk W3 w2.heap.size 40 #[.int .i64 (-1), .slice (some ⟨g1, 0, none⟩) 1 1, .slice (some ⟨g2, 0, none⟩) n2 n2, .int .i64 sv] := by rw [hW3]; exact heap_alloc_new w2 _
  rw [← hW3]
  clear hW3 c0 c1 z1
  refine (KW.out _ _ _ _ (HI2.out.next hi3)).mono ?_
  rintro e w4 ⟨A, c, h1, h2, s4, rfl, hB4, hrw⟩
  have HI4 := Lib.hid ((HI2.out.next hi3).next hB4)
  have HBK4 := Lib.hid ((HBK2.out.below hi3 HBK2.out.lt).below hB4 (HBK2.out.below hi3 HBK2.out.lt).lt)
  have HR4 := Lib.hid (hk3.below hB4 hk3.lt)
  have HL4 := Lib.hid (below3 (below3 HL2.out hi3 (Nat.le_refl _)) hB4 (Nat.le_refl _))
  have HRE4 := Lib.hid ((HRE.out.next hi3).next hB4)
  have HRW := Lib.hid hrw
  have hne1 : w1.heap.size < w2.heap.size := HBK2.out.lt
  clear hi3 hk3 hB4 hrw HL2 HI2 HBK2 HRE
  have c0 : w4.cell? ⟨w1.heap.size, 0, none⟩ = some (.slice bA 1 1) := HBK4.out.cell 0
  have c1 : w4.cell? ⟨w1.heap.size, 1, none⟩ = some (.slice gA 1 1) := HBK4.out.cell 1
  have z1 := HBK4.out.lt
  go_wp2_with fail
  obtain ⟨W5, hW5⟩ : ∃ z, z = w4.alloc (.cells #[.int .i64 10, .slice (some ⟨h1, 0, none⟩) 1 1, .slice (some ⟨h2, 0, none⟩) 1 1, .int .i64 s4] 40) := ⟨_, rfl⟩
  have hi5 : Below w4.heap.size w4 W5 := by rw [hW5]; exact (Below.refl _ _).alloc (Nat.le_refl _) _
  have hk5 : Blk W5 w4.heap.size 40 #[.int .i64 10, .slice (some ⟨h1, 0, none⟩) 1 1, .slice (some ⟨h2, 0, none⟩) 1 1, .int .i64 s4] := by rw [hW5]; exact heap_alloc_new w4 _
  rw [← hW5]
  clear hW5 c0 c1 z1
  refine (KH.out _ _ _ (HI4.out.next hi5).bat (HI4.out.next hi5).gen).mono ?_
  rintro e w6 ⟨rfl, hB6⟩
  have HI6 := Lib.hid ((HI4.out.next hi5).next hB6)
  have HBK6 := Lib.hid ((HBK4.out.below hi5 HBK4.out.lt).below hB6 (HBK4.out.below hi5 HBK4.out.lt).lt)
  have HR6 := Lib.hid ((HR4.out.below hi5 HR4.out.lt).below hB6 (HR4.out.below hi5 HR4.out.lt).lt)
  have HS6 := Lib.hid (hk5.below hB6 hk5.lt)
  have HL6 := Lib.hid (below3 (below3 HL4.out hi5 (Nat.le_refl _)) hB6 (Nat.le_refl _))
  have HRE6 := Lib.hid ((HRE4.out.next hi5).next hB6)
  have HRW6 := Lib.hid ((HRW.out.next hi5).next hB6)
  clear hi5 hk5 hB6 HL4 HI4 HBK4 HR4 HRE4 HRW
  have c0 : w6.cell? ⟨w1.heap.size, 0, none⟩ = some (.slice bA 1 1) := HBK6.out.cell 0
  have c1 : w6.cell? ⟨w1.heap.size, 1, none⟩ = some (.slice gA 1 1) := HBK6.out.cell 1
  have z1 := HBK6.out.lt
  go_wp2_with fail
  refine (KL.out _ _ _ _ HI6.out).mono ?_
  rintro e w7 ⟨rfl, hB7⟩
  have HL7 := Lib.hid (below3 HL6.out hB7 (Nat.le_refl _))
  have HR7 := Lib.hid (HR6.out.below hB7 HR6.out.lt)
  have HS7 := Lib.hid (HS6.out.below hB7 HS6.out.lt)
  have HRE7 := Lib.hid (HRE6.out.next hB7)
  have HRW7 := Lib.hid (HRW6.out.next hB7)
  clear hB7 c0 c1 z1 HI6 HBK6 HR6 HS6 HL6 HRE6 HRW6
  have c0 : w7.cell? ⟨w2.heap.size, 0, none⟩ = some (.int .i64 (-1)) := HR7.out.cell 0
  have c1 : w7.cell? ⟨w2.heap.size, 1, none⟩ = some (.slice (some ⟨g1, 0, none⟩) 1 1) := HR7.out.cell 1
  have z1 := HR7.out.lt
  go_wp2_with fail
  have hi8 : Below w7.heap.size w7 (w7.alloc (.cells #[.int .i64 300] 3)) := (Below.refl _ _).alloc (Nat.le_refl _) _
  refine (KE.out _ _ _ _ 300 _ (HRE7.out.next hi8) (rd_one (f := encI) (heap_alloc_new w7 _))).mono ?_
  rintro e w8 ⟨rfl, hB8⟩
  have HL8 := Lib.hid (below3 (below3 HL7.out hi8 (Nat.le_refl _)) hB8 (Nat.le_refl _))
  have HS8 := Lib.hid ((HS7.out.below hi8 HS7.out.lt).below hB8 (HS7.out.below hi8 HS7.out.lt).lt)
  have HRW8 := Lib.hid ((HRW7.out.next hi8).next hB8)
  clear hi8 hB8 c0 c1 z1 HR7 HS7 HL7 HRE7 HRW7
  have y1 : sameL [(300 : Int)] [300] = true := by decide
  have y2 : sameL [(1 : Int)] [1] = true := by decide
  rw [y1]
  go_wp2_with fail
  have hi9 : Below w8.heap.size w8 (w8.alloc (.cells #[.int .i64 1] 3)) := (Below.refl _ _).alloc (Nat.le_refl _) _
  refine (KE.out _ _ _ _ 1 _ (HRW8.out.next hi9) (rd_one (f := encI) (heap_alloc_new w8 _))).mono ?_
  rintro e w9 ⟨rfl, hB9⟩
  have HL9 := Lib.hid (below3 (below3 HL8.out hi9 (Nat.le_refl _)) hB9 (Nat.le_refl _))
  have HS9 := Lib.hid ((HS8.out.below hi9 HS8.out.lt).below hB9 (HS8.out.below hi9 HS8.out.lt).lt)
  rw [y2]
  clear hi9 hB9 HS8 HL8 HRW8
  have c0 : w9.cell? ⟨w4.heap.size, 0, none⟩ = some (.int .i64 10) := HS9.out.cell 0
  have z1 := HS9.out.lt
  go_wp2_with fail
  go_ret
  exact ⟨rfl, HL9.out⟩
end Go.Proofs.Ytnpkcipeacogcaa
