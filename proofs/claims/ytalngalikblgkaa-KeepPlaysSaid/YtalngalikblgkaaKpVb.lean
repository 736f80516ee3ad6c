/- keep: isRightFor, isRight, Verify. -/
import Derived.Test.YtalngalikblgkaaKpVa

set_option linter.unusedSimpArgs false
set_option linter.unusedVariables false
namespace Go.Proofs.Ytalngalikblgkaa
open Go.RowKit

/-- Whether a certificate is right for a state. -/
def rightF (g : Gm) (inn : List Bool) (ctl rnk : List Int) (s : Nat) : Bool :=
  if inn.getD s false = true then g.good.getD s false && (inB 0 (ctl.getD s 0) ((g.C : Int) - 1) && (keepB g inn s (ctl.getD s 0).toNat && decide (rnk.getD s 0 = -1)))
  else if ctl.getD s 0 = -1 ∧ 0 ≤ rnk.getD s 0 then (if rnk.getD s 0 = 0 then !g.good.getD s false else decide (leastF (delayB g inn rnk s) g.C = -1)) else false
def rfPhi (bx s cb co rb ro n cc rc : Nat) (c r : Int) : Nat → Value → World → (Nat → Nat) → Prop
  | 0, v, _, _ => v = .pointer (some ⟨bx, 5, none⟩)
  | 1, v, _, _ => v = .pointer (some ⟨bx, 6, none⟩)
  | 2, v, _, _ => v = .slice (some ⟨cb, co, none⟩) n cc
  | 3, v, _, _ => v = .int .i64 (s : Int)
  | 4, v, _, _ => v = .pointer (some ⟨cb, co + s, none⟩)
  | 5, v, _, _ => v = .int .i64 c
  | 6, v, _, _ => v = .pointer (some ⟨bx, 5, none⟩)
  | 7, v, _, _ => v = .pointer (some ⟨bx, 7, none⟩)
  | 8, v, _, _ => v = .slice (some ⟨rb, ro, none⟩) n rc
  | 9, v, _, _ => v = .int .i64 (s : Int)
  | 10, v, _, _ => v = .pointer (some ⟨rb, ro + s, none⟩)
  | 11, v, _, _ => v = .int .i64 r
  | 12, v, _, _ => v = .int .i64 c
  | 13, v, _, _ => v = .int .i64 r
  | _, _, _, _ => True
set_option maxRecDepth 100000 in
set_option maxHeartbeats 4000000 in
theorem rightFor_any (nA : Option Addr) (nn nc gb go gc ib io ic cb co cc rb ro rc : Nat) (g : Gm) (inn : List Bool) (ctl rnk : List Int) (s : Nat) (w : World) (hin : GmIn w w.heap.size ⟨nA, some ⟨gb, go, none⟩, nn, nc, g.S, gc⟩ g) (ok : GmOk g) (hI : Rd w w.heap.size 1 encB (some ⟨ib, io, none⟩) g.S inn) (hC : Rd w w.heap.size 1 encI (some ⟨cb, co, none⟩) g.S ctl) (hR : Rd w w.heap.size 1 encI (some ⟨rb, ro, none⟩) g.S rnk) (hs : s < g.S) :
    Calls Try.prog 75 #[.agg #[.int .i64 (g.S : Int), .int .i64 (g.C : Int), .int .i64 (g.H : Int), .slice nA nn nc, .slice (some ⟨gb, go, none⟩) g.S gc, .slice (some ⟨ib, io, none⟩) g.S ic, .slice (some ⟨cb, co, none⟩) g.S cc, .slice (some ⟨rb, ro, none⟩) g.S rc], .int .i64 (s : Int)] w fun e w' => e = .returned (.bool (rightF g inn ctl rnk s)) ∧ Below w.heap.size w w' := by
  have hc16 := ok.c1
  have KH := Lib.hid (fun (x : Int) W => hasControl_any g.S g.C g.H x (.slice nA nn nc) (.slice (some ⟨gb, go, none⟩) g.S gc) W (by omega) (by omega))
  have KK := Lib.hid (fun (u : Nat) W (h : Below w.heap.size w W) (hu : u < g.C) => keeps_any nA (some ⟨gb, go, none⟩) (some ⟨ib, io, none⟩) (some ⟨cb, co, none⟩) (some ⟨rb, ro, none⟩) nn nc g.S gc g.S ic g.S cc g.S rc g inn s u W (hin.next' h) ok (hI.next h) rfl hs hu)
  have KD := Lib.hid (fun W (h : Below w.heap.size w W) => least_any nA (some ⟨gb, go, none⟩) nn nc g.S gc g.S g.C g.H s 82 (.agg #[.int .i64 (g.S : Int), .int .i64 (g.C : Int), .int .i64 (g.H : Int), .slice nA nn nc, .slice (some ⟨gb, go, none⟩) g.S gc, .slice (some ⟨ib, io, none⟩) g.S ic, .slice (some ⟨cb, co, none⟩) g.S cc, .slice (some ⟨rb, ro, none⟩) g.S rc]) (delayB g inn rnk s) W (enters_of Try.func82 (by kernel_rfl) rfl) ok.c1 (fun u hu W' hW' => delays_any nA (some ⟨gb, go, none⟩) (some ⟨ib, io, none⟩) (some ⟨cb, co, none⟩) (some ⟨rb, ro, none⟩) nn nc g.S gc ic g.S cc rc g inn rnk s u W' ((hin.next' h).next' hW') ok ((hI.next h).next hW') ((hR.next h).next hW') hs hu))
  obtain ⟨b1, o1, vi, e1, hb1, hx1, hc1⟩ := hI.at_ hs
  obtain ⟨rfl, rfl⟩ : b1 = ib ∧ o1 = io := by simpa [eq_comm] using e1
  obtain ⟨b2, o2, vg, e2, hb2, hx2, hc2⟩ := hin.good.at_ hs
  obtain ⟨rfl, rfl⟩ : b2 = gb ∧ o2 = go := by simpa [eq_comm] using e2
  obtain ⟨b3, o3, c, e3, hb3, hx3, hc3⟩ := hC.at_ hs
  obtain ⟨rfl, rfl⟩ : b3 = cb ∧ o3 = co := by simpa [eq_comm] using e3
  obtain ⟨b4, o4, r, e4, hb4, hx4, hc4⟩ := hR.at_ hs
  obtain ⟨rfl, rfl⟩ : b4 = rb ∧ o4 = ro := by simpa [eq_comm] using e4
  have HCI : Hid (b1 < w.heap.size ∧ w.cell? ⟨b1, o1 + s, none⟩ = some (.bool vi)) := Lib.hid ⟨hb1, cellB hc1⟩
  have HCG : Hid (b2 < w.heap.size ∧ w.cell? ⟨b2, o2 + s, none⟩ = some (.bool vg)) := Lib.hid ⟨hb2, cellB hc2⟩
  have HCC0 : Hid (b3 < w.heap.size ∧ w.cell? ⟨b3, o3 + s, none⟩ = some (.int .i64 c)) := Lib.hid ⟨hb3, cellI hc3⟩
  have HCR0 : Hid (b4 < w.heap.size ∧ w.cell? ⟨b4, o4 + s, none⟩ = some (.int .i64 r)) := Lib.hid ⟨hb4, cellI hc4⟩
  obtain ⟨res, hres⟩ : ∃ z, z = rightF g inn ctl rnk s := ⟨_, rfl⟩
  have HRES : Hid (res = if vi = true then vg && (inB 0 c ((g.C : Int) - 1) && (keepB g inn s c.toNat && decide (r = -1))) else if c = -1 ∧ 0 ≤ r then (if r = 0 then !vg else decide (leastF (delayB g inn rnk s) g.C = -1)) else false) := Lib.hid (by
    rw [hres]
    unfold rightF
    simp only [List.getD_eq_getElem?_getD, hx1, hx2, hx3, hx4, Option.getD_some])
  rw [← hres]
  have i1 : (0 : Int) ≤ (s : Int) := by omega
  have i2 : (s : Int) < (g.S : Int) := by omega
  clear hres hin ok hI hC hR hs e1 e2 e3 e4 hb1 hb2 hb3 hb4 hx1 hx2 hx3 hx4 hc1 hc2 hc3 hc4
  go_enter Try.func75, Try.ntmps75
  go_wp2
  obtain ⟨bx, hbx⟩ : ∃ z, z = w.heap.size := ⟨_, rfl⟩
  obtain ⟨w1, hw1⟩ : ∃ z, z = w.alloc (.cells #[.int .i64 (g.S : Int), .int .i64 (g.C : Int), .int .i64 (g.H : Int), .slice nA nn nc, .slice (some ⟨b2, o2, none⟩) g.S gc, .slice (some ⟨b1, o1, none⟩) g.S ic, .slice (some ⟨b3, o3, none⟩) g.S cc, .slice (some ⟨b4, o4, none⟩) g.S rc] 92) := ⟨_, rfl⟩
  have hi1 : Below w.heap.size w w1 := by rw [hw1]; exact (Below.refl _ _).alloc (Nat.le_refl _) _
  have HBX : Hid (Blk w1 bx 92 #[.int .i64 (g.S : Int), .int .i64 (g.C : Int), .int .i64 (g.H : Int), .slice nA nn nc, .slice (some ⟨b2, o2, none⟩) g.S gc, .slice (some ⟨b1, o1, none⟩) g.S ic, .slice (some ⟨b3, o3, none⟩) g.S cc, .slice (some ⟨b4, o4, none⟩) g.S rc]) := Lib.hid (by rw [hw1, hbx]; exact heap_alloc_new w _)
  rw [← hw1, ← hbx]
  have HL := Lib.hid hi1
  have HCC : Hid (b3 < w1.heap.size ∧ w1.cell? ⟨b3, o3 + s, none⟩ = some (.int .i64 c)) := Lib.hid ⟨Nat.lt_of_lt_of_le HCC0.out.1 hi1.size, (hi1.cell (p := ⟨b3, o3 + s, none⟩) HCC0.out.1).trans HCC0.out.2⟩
  have HCR : Hid (b4 < w1.heap.size ∧ w1.cell? ⟨b4, o4 + s, none⟩ = some (.int .i64 r)) := Lib.hid ⟨Nat.lt_of_lt_of_le HCR0.out.1 hi1.size, (hi1.cell (p := ⟨b4, o4 + s, none⟩) HCR0.out.1).trans HCR0.out.2⟩
  clear hw1 hbx hi1
  refine wp_region_free10 13 (by kernel_rfl) [some 7, some 8, some 9, some 10, some 11, some 12, some 13, some 14, some 15, some 16, some 17, some 18, some 5, some 6] [[], [0], [1], [], [2, 3], [4], [], [6], [7], [], [8, 9], [10], [5, 0, 1, 2, 3, 4, 5], [11, 12, 0, 1, 2, 3, 4, 5, 6, 7, 8, 9, 10, 11, 12]] [(2, .pointer (some ⟨bx, 0, none⟩)), (1, .int .i64 (s : Int))] (fun W _ => Below w1.heap.size w1 W) (rfPhi bx s b3 o3 b4 o4 g.S cc rc c r) (fun _ _ _ => True) (by kernel_rfl) (by kernel_rfl) rfl (by kernel_rfl) ?_ ?_ ⟨fun _ => 0, (Below.refl _ _).drew, fun i _ => trivial⟩ ?_ ?_
  · intro z hz
    simp only [List.mem_cons, List.mem_nil_iff, or_false] at hz
    rcases hz with rfl | rfl
    all_goals exact ⟨by kernel_rfl, rfl⟩
  · intro i v W γ hi h
    rcases i with _ | _ | _ | _ | _ | _ | _ | _ | _ | _ | _ | _ | _ | _ | i
    all_goals first | exact h | (simp at hi)
  · refine ⟨?_, ?_, ?_, ?_, ?_, ?_, ?_, ?_, ?_, ?_, ?_, ?_, ?_, ?_, trivial⟩
    all_goals
      intro a9 W γ ev hcc hff hfx hR hψ hpre
      simp only [List.mem_cons, List.mem_nil_iff, or_false, forall_eq, forall_eq_or_imp] at hfx
      obtain ⟨f0, f1⟩ := hfx
      have HR := Lib.hid hR
      clear hR
      refine ⟨fun _ K hK => ?_, trivial⟩

    · clear hpre hψ
      go_simp
      exact hK _ _ γ HR.out (fun _ _ _ _ h => h) (fun _ _ _ h => h) rfl
    · have q0 : ev (.tmp 7) = _ := hpre 0 (by decide)
      clear hpre hψ
      go_simp
      exact hK _ _ γ HR.out (fun _ _ _ _ h => h) (fun _ _ _ h => h) rfl
    · have q0 : ev (.tmp 8) = _ := hpre 1 (by decide)
      have hbk := HBX.out.below (show Below w1.heap.size w1 W from HR.out) HBX.out.lt
      have hzg := hbk.lt
      have e6 := hbk.cell 6
      simp only [List.getElem?_toArray, List.getElem?_cons_zero, List.getElem?_cons_succ] at e6
      clear hbk
      clear hpre hψ
      go_simp
      exact hK _ _ γ HR.out (fun _ _ _ _ h => h) (fun _ _ _ h => h) rfl
    · clear hpre hψ
      go_simp
      exact hK _ _ γ HR.out (fun _ _ _ _ h => h) (fun _ _ _ h => h) rfl
    · have q0 : ev (.tmp 9) = _ := hpre 2 (by decide)
      have q1 : ev (.tmp 10) = _ := hpre 3 (by decide)
      clear hpre hψ
      go_simp
      exact hK _ _ γ HR.out (fun _ _ _ _ h => h) (fun _ _ _ h => h) rfl
    · have q0 : ev (.tmp 11) = _ := hpre 4 (by decide)
      have hca := ((show Below w1.heap.size w1 W from HR.out).cell (p := ⟨b3, o3 + s, none⟩) HCC.out.1).trans HCC.out.2
      have hza : b3 < W.heap.size := block_of_cell hca
      clear hpre hψ
      go_simp
      exact hK _ _ γ HR.out (fun _ _ _ _ h => h) (fun _ _ _ h => h) rfl
    · clear hpre hψ
      go_simp
      exact hK _ _ γ HR.out (fun _ _ _ _ h => h) (fun _ _ _ h => h) rfl
    · have q0 : ev (.tmp 13) = _ := hpre 6 (by decide)
      clear hpre hψ
      go_simp
      exact hK _ _ γ HR.out (fun _ _ _ _ h => h) (fun _ _ _ h => h) rfl
    · have q0 : ev (.tmp 14) = _ := hpre 7 (by decide)
      have hbk := HBX.out.below (show Below w1.heap.size w1 W from HR.out) HBX.out.lt
      have hzg := hbk.lt
      have e7 := hbk.cell 7
      simp only [List.getElem?_toArray, List.getElem?_cons_zero, List.getElem?_cons_succ] at e7
      clear hbk
      clear hpre hψ
      go_simp
      exact hK _ _ γ HR.out (fun _ _ _ _ h => h) (fun _ _ _ h => h) rfl
    · clear hpre hψ
      go_simp
      exact hK _ _ γ HR.out (fun _ _ _ _ h => h) (fun _ _ _ h => h) rfl
    · have q0 : ev (.tmp 15) = _ := hpre 8 (by decide)
      have q1 : ev (.tmp 16) = _ := hpre 9 (by decide)
      clear hpre hψ
      go_simp
      exact hK _ _ γ HR.out (fun _ _ _ _ h => h) (fun _ _ _ h => h) rfl
    · have q0 : ev (.tmp 17) = _ := hpre 10 (by decide)
      have hca := ((show Below w1.heap.size w1 W from HR.out).cell (p := ⟨b4, o4 + s, none⟩) HCR.out.1).trans HCR.out.2
      have hza : b4 < W.heap.size := block_of_cell hca
      clear hpre hψ
      go_simp
      exact hK _ _ γ HR.out (fun _ _ _ _ h => h) (fun _ _ _ h => h) rfl
    · have q0 : ev (.tmp 12) = _ := hpre 5 (by decide)
      clear hpre hψ
      go_simp
      exact hK _ _ γ HR.out (fun _ _ _ _ h => h) (fun _ _ _ h => h) rfl
    · have q0 : ev (.tmp 18) = _ := hpre 11 (by decide)
      clear hpre hψ
      go_simp
      exact hK _ _ γ HR.out (fun _ _ _ _ h => h) (fun _ _ _ h => h) rfl
  · intro vs w2 γ hvl hR hφ
    have q12 := hφ 12 (by decide)
    have q13 := hφ 13 (by decide)
    have HR := Lib.hid hR
    clear hφ hR
    match vs, hvl with
    | [y0, y1, y2, y3, y4, y5, y6, y7, y8, y9, y10, y11, y12, y13], _ =>
    simp only [List.getD_cons_zero, List.getD_cons_succ] at q12 q13
    obtain rfl : y12 = _ := q12
    obtain rfl : y13 = _ := q13
    have HL2 := Lib.hid (below3 HL.out HR.out (Nat.le_refl _))
    have HBX2 : Hid (Blk w2 bx 92 #[.int .i64 (g.S : Int), .int .i64 (g.C : Int), .int .i64 (g.H : Int), .slice nA nn nc, .slice (some ⟨b2, o2, none⟩) g.S gc, .slice (some ⟨b1, o1, none⟩) g.S ic, .slice (some ⟨b3, o3, none⟩) g.S cc, .slice (some ⟨b4, o4, none⟩) g.S rc]) := Lib.hid (HBX.out.below HR.out HBX.out.lt)
    clear HR
    have ci : w2.cell? ⟨b1, o1 + s, none⟩ = some (.bool vi) := (HL2.out.cell (p := ⟨b1, o1 + s, none⟩) HCI.out.1).trans HCI.out.2
    have cg : w2.cell? ⟨b2, o2 + s, none⟩ = some (.bool vg) := (HL2.out.cell (p := ⟨b2, o2 + s, none⟩) HCG.out.1).trans HCG.out.2
    have zi := block_of_cell ci
    have zg := block_of_cell cg
    dsimp only at zi zg
    have hbk := HBX2.out
    have e0 := hbk.cell 0
    have e1 := hbk.cell 1
    have e2 := hbk.cell 2
    have e3 := hbk.cell 3
    have e4 := hbk.cell 4
    have e5 := hbk.cell 5
    have e6 := hbk.cell 6
    have e7 := hbk.cell 7
    have zb := hbk.lt
    simp only [List.getElem?_toArray, List.getElem?_cons_zero, List.getElem?_cons_succ] at e0 e1 e2 e3 e4 e5 e6 e7
    clear hbk
    simp [putAll]
    cases vi
    · replace HRES := Lib.hid (HRES.out.trans (if_neg (by decide)))
      by_cases hc : c = -1
      · subst hc
        by_cases hr : r < 0
        · replace HRES := Lib.hid (HRES.out.trans (if_neg (by omega)))
          have d1 : decide (r < 0) = true := decide_eq_true hr
          go_wp2
          go_ret
          exact ⟨ret_bool (by rw [HRES.out] <;> rfl), HL2.out⟩
        · replace HRES := Lib.hid (HRES.out.trans (if_pos (by omega)))
          have d1 : decide (r < 0) = false := decide_eq_false hr
          by_cases hr0 : r = 0
          · subst hr0
            replace HRES := Lib.hid (HRES.out.trans (if_pos rfl))
            cases vg
            · go_wp2
              go_ret
              exact ⟨ret_bool (by rw [HRES.out] <;> rfl), HL2.out⟩
            · go_wp2
              go_ret
              exact ⟨ret_bool (by rw [HRES.out] <;> rfl), HL2.out⟩
          · replace HRES := Lib.hid (HRES.out.trans (if_neg hr0))
            have d2 : (r == 0) = false := beq_eq_false_iff_ne.2 hr0
            have K := Lib.hid (KD.out _ HL2.out)
            obtain ⟨m, hm⟩ : ∃ z, z = leastF (delayB g inn rnk s) g.C := ⟨_, rfl⟩
            rw [← hm] at K HRES
            clear hm
            go_wp2_with fail
            refine K.out.mono ?_
            rintro e w3 ⟨rfl, hB3⟩
            have HL3 := Lib.hid (below3 HL2.out hB3 (Nat.le_refl _))
            clear hB3
            by_cases hm1 : m = -1
            · subst hm1
              go_wp2
              go_ret
              exact ⟨ret_bool (by rw [HRES.out] <;> rfl), HL3.out⟩
            · have d3 : (m == -1) = false := beq_eq_false_iff_ne.2 hm1
              go_wp2
              go_ret
              exact ⟨ret_bool (by rw [HRES.out, decide_eq_false hm1]), HL3.out⟩
      · replace HRES := Lib.hid (HRES.out.trans (if_neg (fun h => hc h.1)))
        have d1 : (c == -1) = false := beq_eq_false_iff_ne.2 hc
        go_wp2
        go_ret
        exact ⟨ret_bool (by rw [HRES.out] <;> rfl), HL2.out⟩
    · replace HRES := Lib.hid (HRES.out.trans (if_pos rfl))
      cases vg
      · go_wp2
        go_ret
        exact ⟨ret_bool (by rw [HRES.out] <;> rfl), HL2.out⟩
      · have KH1 := Lib.hid (KH.out c w2)
        obtain ⟨hb, hhb⟩ : ∃ z, z = inB 0 c ((g.C : Int) - 1) := ⟨_, rfl⟩
        have HHB := Lib.hid hhb
        rw [← hhb] at KH1 HRES
        clear hhb
        go_wp2_with fail
        refine KH1.out.mono ?_
        rintro e w3 ⟨rfl, hB3⟩
        have HL3 := Lib.hid (below3 HL2.out hB3 (Nat.le_refl _))
        have HBX3 : Hid (Blk w3 bx 92 #[.int .i64 (g.S : Int), .int .i64 (g.C : Int), .int .i64 (g.H : Int), .slice nA nn nc, .slice (some ⟨b2, o2, none⟩) g.S gc, .slice (some ⟨b1, o1, none⟩) g.S ic, .slice (some ⟨b3, o3, none⟩) g.S cc, .slice (some ⟨b4, o4, none⟩) g.S rc]) := Lib.hid (HBX2.out.below hB3 HBX2.out.lt)
        clear hB3 e0 e1 e2 e3 e4 e5 e6 e7 zb ci cg zi zg
        cases hb
        · go_wp2
          go_ret
          exact ⟨ret_bool (by rw [HRES.out] <;> rfl), HL3.out⟩
        · have hcu := inB_iff.1 HHB.out.symm
          obtain ⟨u, rfl⟩ : ∃ u : Nat, c = (u : Int) := ⟨c.toNat, by omega⟩
          have K := Lib.hid (KK.out u w3 HL3.out (by omega))
          rw [Int.toNat_natCast] at HRES
          obtain ⟨kb, hkb⟩ : ∃ z, z = keepB g inn s u := ⟨_, rfl⟩
          rw [← hkb] at K HRES
          clear hcu hkb
          have hbk := HBX3.out
          have e0 := hbk.cell 0
          have e1 := hbk.cell 1
          have e2 := hbk.cell 2
          have e3 := hbk.cell 3
          have e4 := hbk.cell 4
          have e5 := hbk.cell 5
          have e6 := hbk.cell 6
          have e7 := hbk.cell 7
          have zb := hbk.lt
          simp only [List.getElem?_toArray, List.getElem?_cons_zero, List.getElem?_cons_succ] at e0 e1 e2 e3 e4 e5 e6 e7
          clear hbk
          go_wp2_with fail
          refine K.out.mono ?_
          rintro e w4 ⟨rfl, hB4⟩
          have HL4 := Lib.hid (below3 HL3.out hB4 (Nat.le_refl _))
          clear hB4 e0 e1 e2 e3 e4 e5 e6 e7 zb
          cases kb
          · go_wp2
            go_ret
            exact ⟨ret_bool (by rw [HRES.out] <;> rfl), HL4.out⟩
          · by_cases hr1 : r = -1
            · subst hr1
              go_wp2
              go_ret
              exact ⟨ret_bool (by rw [HRES.out] <;> rfl), HL4.out⟩
            · have d3 : (r == -1) = false := beq_eq_false_iff_ne.2 hr1
              go_wp2
              go_ret
              exact ⟨ret_bool (by rw [HRES.out, decide_eq_false hr1]; rfl), HL4.out⟩
end Go.Proofs.Ytalngalikblgkaa
