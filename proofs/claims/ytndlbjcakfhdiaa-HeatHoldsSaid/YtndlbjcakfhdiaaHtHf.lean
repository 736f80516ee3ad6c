/- law07: HeatHolds, as it is. -/
import Derived.Test.YtndlbjcakfhdiaaHtHb

set_option linter.unusedSimpArgs false
set_option linter.unusedVariables false
namespace Go.Proofs.Ytndlbjcakfhdiaa
open Go.RowKit

set_option maxRecDepth 100000 in
set_option maxHeartbeats 8000000 in
theorem holdsF_any (A0 A1 A2 A3 A4 A5 A6 : Option Addr) (n0 c0 n1 c1 n2 c2 n3 c3 n4 c4 n5 c5 n6 c6 : Nat) (l0 l1 l2 l3 l4 l5 l6 : List Int) (w : World) (k0 : Rd w w.heap.size 1 encU A0 n0 l0) (k1 : Rd w w.heap.size 1 encU A1 n1 l1) (k2 : Rd w w.heap.size 1 encU A2 n2 l2) (k3 : Rd w w.heap.size 1 encU A3 n3 l3) (k4 : Rd w w.heap.size 1 encU A4 n4 l4) (k5 : Rd w w.heap.size 1 encU A5 n5 l5) (k6 : Rd w w.heap.size 1 encU A6 n6 l6) (b0 : U8s l0) (b1 : U8s l1) (b2 : U8s l2) (b3 : U8s l3) (b4 : U8s l4) (b5 : U8s l5) (b6 : U8s l6) (m0 : n0 ≤ 9223372036854775807) (m1 : n1 ≤ 9223372036854775807) (m2 : n2 ≤ 9223372036854775807) (m3 : n3 ≤ 9223372036854775807) (m4 : n4 ≤ 9223372036854775807) (m5 : n5 ≤ 9223372036854775807) (m6 : n6 ≤ 9223372036854775807) :
    Calls Try.prog 5 #[.slice A0 n0 c0, .slice A1 n1 c1, .slice A2 n2 c2, .slice A3 n3 c3, .slice A4 n4 c4, .slice A5 n5 c5, .slice A6 n6 c6, .bool false] w fun e w' => e = .returned (.bool true) ∧ Below w.heap.size w w' := by
  have KM := Lib.hid (Made_any A0 n0 c0 l0 w k0 b0)
  have KA := Lib.hid awake_any
  have K1 := Lib.hid k1
  have U1 := Lib.hid b1
  have K2 := Lib.hid k2
  have U2 := Lib.hid b2
  have K3 := Lib.hid k3
  have U3 := Lib.hid b3
  have K4 := Lib.hid k4
  have U4 := Lib.hid b4
  have K5 := Lib.hid k5
  have U5 := Lib.hid b5
  have K6 := Lib.hid k6
  have U6 := Lib.hid b6
  have M6 := Lib.hid m6
  clear k0 b0 m0 k1 b1 m1 k2 b2 m2 k3 b3 m3 k4 b4 m4 k5 b5 m5 k6 b6 m6
  go_enter Try.func5, Try.ntmps5
  go_wp2_with fail
  refine KM.out.mono ?_
  rintro e w1 ⟨rA, wA, bA, cA, rc, wc, bc, cc, h, rfl, m⟩
  have hB := m.low
  have M := Lib.hid m
  have B0 : Hid (Below w.heap.size w w1) := Lib.hid hB
  clear hB m
  obtain ⟨rn, hrn⟩ : ∃ z, z = h.rooms.length := ⟨_, rfl⟩
  obtain ⟨wn, hwn⟩ : ∃ z, z = h.walls.length := ⟨_, rfl⟩
  obtain ⟨bn, hbn⟩ : ∃ z, z = h.brs.length := ⟨_, rfl⟩
  obtain ⟨cn, hcn⟩ : ∃ z, z = h.crs.length := ⟨_, rfl⟩
  have I1 : Hid (HlIn w1 w1.heap.size ⟨rA, wA, bA, cA, rn, wn, bn, cn⟩ h) := Lib.hid (by rw [hrn, hwn, hbn, hcn]; exact M.out.inn)
  rw [← hrn, ← hwn, ← hbn, ← hcn]
  have HRN := Lib.hid hrn.symm
  have HWN := Lib.hid hwn.symm
  have HBN := Lib.hid hbn.symm
  have HCN := Lib.hid hcn.symm
  have HR4 : Hid (1 ≤ rn ∧ rn ≤ 4) := Lib.hid (by rw [hrn]; exact ⟨M.out.ok.n1, M.out.n4⟩)
  clear hrn hwn hbn hcn
  have g1 : w1.heap.size < w1.heap.size + 1 := by omega
  go_wp2_with fail
  obtain ⟨bx, hbx⟩ : ∃ z, z = w1.heap.size := ⟨_, rfl⟩
  obtain ⟨w2, hw2⟩ : ∃ z, z = w1.alloc (.cells #[.slice rA rn rc, .slice wA wn wc, .slice bA bn bc, .slice cA cn cc] 28) := ⟨_, rfl⟩
  have BX : Hid (Blk w2 bx 28 #[.slice rA rn rc, .slice wA wn wc, .slice bA bn bc, .slice cA cn cc]) := Lib.hid (by rw [hw2, hbx]; exact heap_alloc_new w1 _)
  have Sw2 : Hid (w2.heap.size = bx + 1) := Lib.hid (by rw [hw2, hbx, World.size_alloc])
  have Zbx : Hid (w1.heap.size ≤ bx) := Lib.hid (by rw [hbx]; exact Nat.le_refl _)
  have hBn : Below w1.heap.size w1 w2 := by rw [hw2]; exact (Below.refl _ _).alloc (Nat.le_refl _) _
  rw [← hw2, ← hbx]
  have B1 : Hid (Below w1.heap.size w1 w2) := Lib.hid hBn
  clear hw2 hbx hBn
  clear g1
  have KW := Lib.hid (fun (A2 : Option Addr) (n2 c2 : Nat) (l2 : List Int) (W : World) (hW : Below w2.heap.size w2 W) (k2 : Rd w w.heap.size 1 encU A2 n2 l2) (u2 : U8s l2) => Warm_any rA wA bA cA rn rc wn wc bn bc cn cc A2 n2 c2 l2 W (by have := HR4.out; omega) (k2.next (below3 (below3 B0.out B1.out (Nat.le_refl _)) hW (Nat.le_refl _))) u2)
  have KD := Lib.hid (fun (A2 : Option Addr) (n2 c2 : Nat) (l2 : List Int) (W : World) (hW : Below w2.heap.size w2 W) (k2 : Rd w w.heap.size 1 encU A2 n2 l2) (u2 : U8s l2) => Cased_any rA wA bA cA rn rc wn wc bn bc cn cc A2 n2 c2 l2 W (by have := HR4.out; omega) (k2.next (below3 (below3 B0.out B1.out (Nat.le_refl _)) hW (Nat.le_refl _))) u2)
  have KS := Lib.hid (fun (A2 B2 : Option Addr) (c2 d2 : Nat) (La Lb : List Int) (W : World) => sorted_any A2 B2 rn c2 d2 La Lb W (by have := HR4.out; omega))
  have KC := Lib.hid (fun (A2 B2 : Option Addr) (c2 d2 : Nat) (La Lb : List Int) (o1 p1 o2 p2 : Int) (W : World) => classed_any A2 B2 rn c2 d2 La Lb o1 p1 o2 p2 W (by have := HR4.out; omega))
  refine wp_region_free10 11 (by kernel_rfl) [some 39, some 40, some 41, some 42, some 43, some 44, some 45, some 38, some 46, some 47, some 18, some 19] [[], [], [0, 1], [], [], [3, 4, 2], [2, 5, 5], [6], [7], [7], [8, 6, 0, 1, 2, 3, 4, 5, 6, 7, 8], [9, 10, 0, 1, 2, 3, 4, 5, 6, 7, 8, 9, 10]] [(17, .pointer (some ⟨bx, 0, none⟩)), (1, .slice A1 n1 c1), (2, .slice A2 n2 c2)] (fun W _ => Below w2.heap.size w2 W) (mo2Phi rn ( .agg #[.slice rA rn rc, .slice wA wn wc, .slice bA bn bc, .slice cA cn cc]) (.slice A1 n1 c1) (.slice A2 n2 c2)) (mo2Psi) (by kernel_rfl) (by kernel_rfl) rfl (by kernel_rfl) ?_ ?_ ⟨fun _ => 0, ⟨(Below.refl _ _).drew, fun i _ => fun _ => rfl⟩⟩ ?_ ?_
  · intro z hz
    simp only [List.mem_cons, List.mem_nil_iff, or_false] at hz
    rcases hz with rfl | rfl | rfl
    all_goals exact ⟨by kernel_rfl, rfl⟩
  · intro i v W γ hi h
    rcases i with _ | _ | _ | _ | _ | _ | _ | _ | _ | _ | _ | _ | i
    all_goals first | exact h | (simp at hi)
  · refine ⟨?_, ?_, ?_, ?_, ?_, ?_, ?_, ?_, ?_, ?_, ?_, ?_, trivial⟩
    all_goals
      intro a9 W γ ev hcc hff hfx hR hψ hpre
      simp only [List.mem_cons, List.mem_nil_iff, or_false, forall_eq, forall_eq_or_imp] at hfx
      obtain ⟨f0, f1, f2⟩ := hfx
      have HR := Lib.hid hR
      clear hR
    · refine ⟨fun hg K hK => ?_, trivial⟩
      clear hg
      have hbk := BX.out.below (HR.out) BX.out.lt
      have hzg := hbk.lt
      have e0 := hbk.cell 0
      have e1 := hbk.cell 1
      have e2 := hbk.cell 2
      have e3 := hbk.cell 3
      simp only [List.getElem?_toArray, List.getElem?_cons_zero, List.getElem?_cons_succ] at e0 e1 e2 e3
      clear hbk
      clear hpre hψ
      go_simp
      exact hK _ _ γ HR.out (fun _ _ _ _ h => h) (fun _ _ _ h => h) rfl
    · refine ⟨fun hg K hK => ?_, trivial⟩
      clear hg
      clear hpre hψ
      go_simp
      exact hK _ _ γ HR.out (fun _ _ _ _ h => h) (fun _ _ _ h => h) rfl
    · refine ⟨fun hg K hK => ?_, trivial⟩
      clear hg
      have q0 : ev (.tmp 39) = _ := hpre 0 (by decide)
      have q1 : ev (.tmp 40) = _ := hpre 1 (by decide)
      have C := Lib.hid (KW.out A1 n1 c1 l1 W HR.out K1.out U1.out)
      have HX := Lib.hid HR.out
      have HP := Lib.hid hψ
      clear hpre hψ
      go_simp
      refine C.out.mono ?_
      rintro e w7 ⟨A9, c9, L9, rfl, ho9, hl9, hb9, hB9⟩
      have hrd := row_rd (f := encI) (size := 1) (fun _ => rfl) hl9 ho9
      exact hK _ w7 γ (below3 HX.out hB9 (Nat.le_refl _)) (fun j u hj hne h => mo2Phi_next hB9 (Or.inr rfl) h) (fun _ _ _ h => h) ⟨A9, c9, L9, rfl, ⟨hl9, hb9⟩, hrd⟩
    · refine ⟨fun hg K hK => ?_, trivial⟩
      clear hg
      have hbk := BX.out.below (HR.out) BX.out.lt
      have hzg := hbk.lt
      have e0 := hbk.cell 0
      have e1 := hbk.cell 1
      have e2 := hbk.cell 2
      have e3 := hbk.cell 3
      simp only [List.getElem?_toArray, List.getElem?_cons_zero, List.getElem?_cons_succ] at e0 e1 e2 e3
      clear hbk
      clear hpre hψ
      go_simp
      exact hK _ _ γ HR.out (fun _ _ _ _ h => h) (fun _ _ _ h => h) rfl
    · refine ⟨fun hg K hK => ?_, trivial⟩
      clear hg
      clear hpre hψ
      go_simp
      exact hK _ _ γ HR.out (fun _ _ _ _ h => h) (fun _ _ _ h => h) rfl
    · refine ⟨fun hg K hK => ?_, trivial⟩
      clear hg
      have q0 : ev (.tmp 42) = _ := hpre 3 (by decide)
      have q1 : ev (.tmp 43) = _ := hpre 4 (by decide)
      have C := Lib.hid (KW.out A2 n2 c2 l2 W HR.out K2.out U2.out)
      have HX := Lib.hid HR.out
      have HP := Lib.hid hψ
      clear hpre hψ
      go_simp
      refine C.out.mono ?_
      rintro e w7 ⟨A9, c9, L9, rfl, ho9, hl9, hb9, hB9⟩
      have hrd := row_rd (f := encI) (size := 1) (fun _ => rfl) hl9 ho9
      exact hK _ w7 γ (below3 HX.out hB9 (Nat.le_refl _)) (fun j u hj hne h => mo2Phi_next hB9 (Or.inr rfl) h) (fun _ _ _ h => h) ⟨A9, c9, L9, rfl, ⟨hl9, hb9⟩, hrd⟩
    · refine ⟨fun hg K hK => ?_, trivial⟩
      clear hg
      have h19 : γ 19 = 0 := hψ rfl
      obtain ⟨A7, c7, L7, q2, t7, r7⟩ := hpre 2 (by decide)
      obtain ⟨A8, c8, L8, q5, t8, r8⟩ := hpre 5 (by decide)
      replace q2 : ev (.tmp 41) = _ := q2
      replace q5 : ev (.tmp 44) = _ := q5
      have C := Lib.hid (KS.out A7 A8 c7 c8 L7 L8 W r7 r8)
      have HX := Lib.hid (And.intro HR.out (And.intro h19 (And.intro t7 t8)))
      clear hpre hψ h19 t7 t8 r7 r8
      go_simp
      refine C.out.mono ?_
      rintro e w7 ⟨lb9, hb9, lc9, hc9, rfl, hl9, hh9, hB9⟩
      obtain ⟨h0, h19, t7, t8⟩ := HX.out
      refine hK _ w7 (fun i => if i = 19 then 1 else if i = 20 then lb9 else if i = 21 then hb9 else if i = 22 then lc9 else if i = 23 then hc9 else γ i) (below3 h0 hB9 (Nat.le_refl _)) (fun j u hj hne h => mo2Phi_next hB9 (Or.inl h19) h) (fun _ j h1 h2 => fun e => ?_) ⟨⟨by simp, by simp⟩, L7, L8, t7, t8, by simpa using hl9, by simpa using hh9⟩
      exact absurd e h1
    · refine ⟨fun hg K hK => ?_, trivial⟩
      clear hg
      have h6 := hpre 6 (by decide)
      have q0 : ev (.tmp 45) = _ := h6.1.1
      have hf : γ 19 = 1 := h6.1.2
      have HF := Lib.hid hf
      clear hpre hψ hf h6
      go_simp
      exact hK _ _ γ HR.out (fun _ _ _ _ h => h) (fun _ _ _ h => h) ⟨rfl, HF.out⟩
    · refine ⟨fun hg K hK => ?_, trivial⟩
      clear hg
      have h7 := hpre 7 (by decide)
      have q0 : ev (.tmp 38) = _ := h7.1
      have hf : γ 19 = 1 := h7.2
      have HF := Lib.hid hf
      clear hpre hψ hf h7
      go_simp
      exact hK _ _ γ HR.out (fun _ _ _ _ h => h) (fun _ _ _ h => h) ⟨rfl, HF.out⟩
    · refine ⟨fun hg K hK => ?_, trivial⟩
      clear hg
      have h7 := hpre 7 (by decide)
      have q0 : ev (.tmp 38) = _ := h7.1
      have hf : γ 19 = 1 := h7.2
      have HF := Lib.hid hf
      clear hpre hψ hf h7
      go_simp
      exact hK _ _ γ HR.out (fun _ _ _ _ h => h) (fun _ _ _ h => h) ⟨rfl, HF.out⟩
    · refine ⟨fun hg K hK => ?_, trivial⟩
      clear hg
      have h8 := hpre 8 (by decide)
      have q0 : ev (.tmp 46) = _ := h8.1
      have hf : γ 19 = 1 := h8.2
      have HF := Lib.hid hf
      clear hpre hψ hf h8
      go_simp
      exact hK _ _ γ HR.out (fun _ _ _ _ h => h) (fun _ _ _ h => h) ⟨rfl, HF.out⟩
    · refine ⟨fun hg K hK => ?_, trivial⟩
      clear hg
      have h9 := hpre 9 (by decide)
      have q0 : ev (.tmp 47) = _ := h9.1
      have hf : γ 19 = 1 := h9.2
      have HF := Lib.hid hf
      clear hpre hψ hf h9
      go_simp
      exact hK _ _ γ HR.out (fun _ _ _ _ h => h) (fun _ _ _ h => h) ⟨rfl, HF.out⟩
  · intro vs w3 γ hvl hR hφ
    have q6 := hφ 6 (by decide)
    have q10 := hφ 10 (by decide)
    have q11 := hφ 11 (by decide)
    have HR := Lib.hid hR
    clear hφ hR
    match vs, hvl with
    | [y0, y1, y2, y3, y4, y5, y6, y7, y8, y9, y10, y11], _ =>
    simp only [List.getD_cons_zero, List.getD_cons_succ] at q6 q10 q11
    obtain ⟨q6, La, Lb, t7, t8, r7, r8⟩ := q6
    obtain ⟨lb, hlb⟩ : ∃ z, z = γ 20 := ⟨_, rfl⟩
    obtain ⟨hb, hhb⟩ : ∃ z, z = γ 21 := ⟨_, rfl⟩
    obtain ⟨lc, hlc⟩ : ∃ z, z = γ 22 := ⟨_, rfl⟩
    obtain ⟨hc, hhc⟩ : ∃ z, z = γ 23 := ⟨_, rfl⟩
    replace q10 : y10 = .slice (some ⟨γ 20, 0, none⟩) rn (γ 22) ∧ γ 19 = 1 := q10
    replace q11 : y11 = .slice (some ⟨γ 21, 0, none⟩) rn (γ 23) ∧ γ 19 = 1 := q11
    rw [← hlb, ← hlc] at q10
    rw [← hhb, ← hhc] at q11
    rw [← hlb] at r7
    rw [← hhb] at r8
    have HT := Lib.hid (And.intro t7 t8)
    have RL := Lib.hid r7
    have RH := Lib.hid r8
    have e10 := q10.1
    have e11 := q11.1
    have hB := HR.out
    have B2 : Hid (Below w2.heap.size w2 w3) := Lib.hid hB
    clear HR t7 t8 r7 r8 q6 q10 q11 hlb hhb hlc hhc hB
    simp [putAll, e10, e11]
    clear e10 e11
    go_wp2_with fail
    refine wp_region_free10 8 (by kernel_rfl) [some 48, some 49, some 50, some 51, some 52, some 53, some 54, some 20, none] [[], [], [0, 1], [], [], [3, 4, 2], [2, 5, 5], [], [7, 6, 6, 0, 1, 2, 3, 4, 5, 6, 7]] [(17, .pointer (some ⟨bx, 0, none⟩)), (3, .slice A3 n3 c3), (4, .slice A4 n4 c4)] (fun W _ => Below w3.heap.size w3 W) (mo3Phi w3 rn ( .agg #[.slice rA rn rc, .slice wA wn wc, .slice bA bn bc, .slice cA cn cc]) (.slice A3 n3 c3) (.slice A4 n4 c4)) (mo3Psi) (by kernel_rfl) (by kernel_rfl) rfl (by kernel_rfl) ?_ ?_ ⟨fun _ => 0, ⟨(Below.refl _ _).drew, fun i _ => fun _ => rfl⟩⟩ ?_ ?_
    · intro z hz
      simp only [List.mem_cons, List.mem_nil_iff, or_false] at hz
      rcases hz with rfl | rfl | rfl
      all_goals exact ⟨by kernel_rfl, rfl⟩
    · intro i v W γ hi h
      rcases i with _ | _ | _ | _ | _ | _ | _ | _ | _ | i
      all_goals first | exact h | (simp at hi)
    · refine ⟨?_, ?_, ?_, ?_, ?_, ?_, ?_, ?_, ?_, trivial⟩
      all_goals
        intro a9 W γ ev hcc hff hfx hR hψ hpre
        simp only [List.mem_cons, List.mem_nil_iff, or_false, forall_eq, forall_eq_or_imp] at hfx
        obtain ⟨f0, f1, f2⟩ := hfx
        have HR := Lib.hid hR
        clear hR
      · refine ⟨fun hg K hK => ?_, trivial⟩
        clear hg
        have hbk := BX.out.below (below3 B2.out HR.out (Nat.le_refl _)) BX.out.lt
        have hzg := hbk.lt
        have e0 := hbk.cell 0
        have e1 := hbk.cell 1
        have e2 := hbk.cell 2
        have e3 := hbk.cell 3
        simp only [List.getElem?_toArray, List.getElem?_cons_zero, List.getElem?_cons_succ] at e0 e1 e2 e3
        clear hbk
        clear hpre hψ
        go_simp
        exact hK _ _ γ HR.out (fun _ _ _ _ h => h) (fun _ _ _ h => h) rfl
      · refine ⟨fun hg K hK => ?_, trivial⟩
        clear hg
        clear hpre hψ
        go_simp
        exact hK _ _ γ HR.out (fun _ _ _ _ h => h) (fun _ _ _ h => h) rfl
      · refine ⟨fun hg K hK => ?_, trivial⟩
        clear hg
        have q0 : ev (.tmp 48) = _ := hpre 0 (by decide)
        have q1 : ev (.tmp 49) = _ := hpre 1 (by decide)
        have C := Lib.hid (KD.out A3 n3 c3 l3 W (below3 B2.out HR.out (Nat.le_refl _)) K3.out U3.out)
        have HX := Lib.hid HR.out
        have HP := Lib.hid hψ
        clear hpre hψ
        go_simp
        refine C.out.mono ?_
        rintro e w7 ⟨A9, c9, o9, p9, L9, rfl, ho9, hl9, hb9, hop9, hB9⟩
        obtain ⟨b9, hrd⟩ := row_of hl9 ho9
        exact hK _ w7 γ (below3 HX.out hB9 (Nat.le_refl _)) (fun j u hj hne h => mo3Phi_next hB9 (fun _ => ⟨rfl, rfl⟩) h) (fun _ _ _ h => h) ⟨A9, b9, c9, o9, p9, L9, rfl, ⟨hl9, hb9, hop9.1, hop9.2⟩, hrd⟩
      · refine ⟨fun hg K hK => ?_, trivial⟩
        clear hg
        have hbk := BX.out.below (below3 B2.out HR.out (Nat.le_refl _)) BX.out.lt
        have hzg := hbk.lt
        have e0 := hbk.cell 0
        have e1 := hbk.cell 1
        have e2 := hbk.cell 2
        have e3 := hbk.cell 3
        simp only [List.getElem?_toArray, List.getElem?_cons_zero, List.getElem?_cons_succ] at e0 e1 e2 e3
        clear hbk
        clear hpre hψ
        go_simp
        exact hK _ _ γ HR.out (fun _ _ _ _ h => h) (fun _ _ _ h => h) rfl
      · refine ⟨fun hg K hK => ?_, trivial⟩
        clear hg
        clear hpre hψ
        go_simp
        exact hK _ _ γ HR.out (fun _ _ _ _ h => h) (fun _ _ _ h => h) rfl
      · refine ⟨fun hg K hK => ?_, trivial⟩
        clear hg
        have q0 : ev (.tmp 51) = _ := hpre 3 (by decide)
        have q1 : ev (.tmp 52) = _ := hpre 4 (by decide)
        have C := Lib.hid (KD.out A4 n4 c4 l4 W (below3 B2.out HR.out (Nat.le_refl _)) K4.out U4.out)
        have HX := Lib.hid HR.out
        have HP := Lib.hid hψ
        clear hpre hψ
        go_simp
        refine C.out.mono ?_
        rintro e w7 ⟨A9, c9, o9, p9, L9, rfl, ho9, hl9, hb9, hop9, hB9⟩
        obtain ⟨b9, hrd⟩ := row_of hl9 ho9
        exact hK _ w7 γ (below3 HX.out hB9 (Nat.le_refl _)) (fun j u hj hne h => mo3Phi_next hB9 (fun _ => ⟨rfl, rfl⟩) h) (fun _ _ _ h => h) ⟨A9, b9, c9, o9, p9, L9, rfl, ⟨hl9, hb9, hop9.1, hop9.2⟩, hrd⟩
      · refine ⟨fun hg K hK => ?_, trivial⟩
        clear hg
        obtain ⟨A7, b7, c7, o7, p7, L7, q2, t7, r7⟩ := hpre 2 (by decide)
        obtain ⟨A8, b8, c8, o8, p8, L8, q5, t8, r8⟩ := hpre 5 (by decide)
        have r7 := r7.rd (fun _ => rfl) t7.1 (size := 1)
        have r8 := r8.rd (fun _ => rfl) t8.1 (size := 1)
        replace q2 : ev (.tmp 50) = _ := q2
        replace q5 : ev (.tmp 53) = _ := q5
        have C := Lib.hid (KC.out A7 A8 c7 c8 L7 L8 o7 p7 o8 p8 W r7 r8)
        have HX := Lib.hid (And.intro HR.out (And.intro t7 t8))
        have HP := Lib.hid hψ
        clear hpre hψ t7 t8 r7 r8
        go_simp
        refine C.out.mono ?_
        rintro e w7 ⟨lb9, hb9, lc9, hc9, rfl, hl9, hh9, hB9⟩
        obtain ⟨h0, t7, t8⟩ := HX.out
        exact hK _ w7 γ (below3 h0 hB9 (Nat.le_refl _)) (fun j u hj hne h => mo3Phi_next hB9 (fun _ => ⟨rfl, rfl⟩) h) (fun _ _ _ h => h) ⟨⟨lb9, hb9, lc9, hc9, o7, p7, o8, p8, L7, L8⟩, rfl, t7, t8, hl9, hh9⟩
      · refine ⟨fun hg K hK => ?_, trivial⟩
        clear hg
        have HRW9 := HR
        have HP := Lib.hid hψ
        clear hpre hψ
        go_simp
        have hB5 : Below W.heap.size W (W.alloc (.cells #[.slice none 0 0, .int .i64 0, .int .i64 0, .slice none 0 0, .int .i64 0, .int .i64 0] 37)) := (Below.refl _ _).alloc (Nat.le_refl _) _
        refine hK _ _ (fun i => if i = 30 then W.heap.size else γ i) (below3 HRW9.out hB5 (Nat.le_refl _)) (fun j u hj hne h => mo3Phi_next hB5 (fun e => ?_) h) (fun _ _ _ h => by simpa [mo3Psi] using h) ⟨by simp, HRW9.out.size, fun _ => heap_alloc_new W _⟩
        rcases e with e | e
        · exact absurd e hne
        · subst e; exact absurd (by decide) hj
      · refine ⟨fun hg K hK => ?_, trivial⟩
        clear hg
        obtain ⟨q1, hw1, hb1⟩ := hpre 7 (by decide)
        obtain ⟨X, q0, hx⟩ := hpre 6 (by decide)
        replace q0 : ev (.tmp 54) = _ := q0
        replace q1 : ev (.tmp 20) = _ := q1
        have hb1 := hb1 (hψ rfl)
        obtain ⟨bb, hbb⟩ : ∃ z, z = γ 30 := ⟨_, rfl⟩
        rw [← hbb] at q1 hw1 hb1
        obtain ⟨lb9, hb9, lc9, hc9, o7, p7, o8, p8, L7, L8⟩ := X
        unfold ClsV.cells at q0
        dsimp only at q0
        have d0 := hb1.cell 0
        have d1 := hb1.cell 1
        have d2 := hb1.cell 2
        have d3 := hb1.cell 3
        have d4 := hb1.cell 4
        have d5 := hb1.cell 5
        simp only [List.getElem?_toArray, List.getElem?_cons_zero, List.getElem?_cons_succ] at d0 d1 d2 d3 d4 d5
        have zr := hb1.lt
        have fr := hb1.frozen
        obtain ⟨W', hW'⟩ : ∃ z, z = ((((((W.setCell ⟨bb, 0, none⟩ (.slice (some ⟨lb9, 0, none⟩) rn lc9)).setCell ⟨bb, 1, none⟩ (.int .i64 (min o7 o8))).setCell ⟨bb, 2, none⟩ (.int .i64 (max p7 p8))).setCell ⟨bb, 3, none⟩ (.slice (some ⟨hb9, 0, none⟩) rn hc9)).setCell ⟨bb, 4, none⟩ (.int .i64 (max o7 o8))).setCell ⟨bb, 5, none⟩ (.int .i64 (min p7 p8))) := ⟨_, rfl⟩
        have hkk : Keep (fun b => b = bb) W W' := by rw [hW']; exact (((((((Keep.refl (fun b => b = bb) W).setCell rfl _).setCell rfl _).setCell rfl _).setCell rfl _).setCell rfl _).setCell rfl _)
        have hrow : Blk W' bb 37 #[.slice (some ⟨lb9, 0, none⟩) rn lc9, .int .i64 (min o7 o8), .int .i64 (max p7 p8), .slice (some ⟨hb9, 0, none⟩) rn hc9, .int .i64 (max o7 o8), .int .i64 (min p7 p8)] := by
          have h := ((((((hb1.set_ 0 (.slice (some ⟨lb9, 0, none⟩) rn lc9)).set_ 1 (.int .i64 (min o7 o8))).set_ 2 (.int .i64 (max p7 p8))).set_ 3 (.slice (some ⟨hb9, 0, none⟩) rn hc9)).set_ 4 (.int .i64 (max o7 o8))).set_ 5 (.int .i64 (min p7 p8)))
          rw [hW']
          simpa using h
        have HX := Lib.hid (And.intro hrow (And.intro hx (And.intro hbb (And.intro hkk (And.intro hb1 (And.intro hw1 hW'))))))
        clear hpre hψ hrow hx hbb hw1 hkk hb1 hW'
        go_simp
        obtain ⟨hrow, hx, hbb, hkk, hb1, hw1, hW'⟩ := HX.out
        rw [← hW']
        have h0 := HR.out
        refine hK undef _ (fun i => if i = 20 then 1 else γ i) (h0.trans (hkk.below h0.size (fun b e => by rw [e]; exact hw1))) (fun j u h1 h2 h3 => ?_) (fun h => absurd rfl h) ⟨⟨lb9, hb9, lc9, hc9, o7, p7, o8, p8, L7, L8⟩, by simpa [← hbb, ClsV.cells] using hrow, hx.apart hkk hb1 (by decide)⟩
        exact mo3Phi_store ⟨Below.refl _ _, hkk.size⟩ hkk hb1 ⟨by simp, by simp⟩ h2 h3
    · intro vs w4 γ hvl hR hφ
      have q7 := hφ 7 (by decide)
      have q8 := hφ 8 (by decide)
      have HR := Lib.hid hR
      clear hφ hR
      match vs, hvl with
      | [y0, y1, y2, y3, y4, y5, y6, y7, y8], _ =>
      simp only [List.getD_cons_zero, List.getD_cons_succ] at q7 q8
      obtain ⟨q7, hxw, _⟩ := q7
      obtain ⟨X, hbx, hx⟩ := q8
      obtain ⟨kb, hkb⟩ : ∃ z, z = γ 30 := ⟨_, rfl⟩
      rw [← hkb] at q7 hbx
      obtain ⟨lo9, ho9, lc9, hc9, o1, p1, o2, p2, Lc, Ld⟩ := X
      have B3 : Hid (Below w3.heap.size w3 w4) := Lib.hid HR.out
      have CX := Lib.hid hx
      have HTL : Hid ((mnL La Lb).length = rn ∧ (mxL La Lb).length = rn ∧ (mnL Lc Ld).length = rn ∧ (mxL Lc Ld).length = rn) := Lib.hid ⟨by rw [mnL_len]; exact HT.out.1.1, by rw [mxL_len]; exact HT.out.1.1, by rw [mnL_len]; exact CX.out.a.1, by rw [mxL_len]; exact CX.out.a.1⟩
      have HTB := Lib.hid (mnL_bd HT.out.1.1 HT.out.2.1 HT.out.1.2 HT.out.2.2)
      have HLB := Lib.hid (mnL_bd CX.out.a.1 CX.out.b.1 CX.out.a.2.1 CX.out.b.2.1)
      have HOP : Hid ((0 ≤ min o1 o2 ∧ min o1 o2 ≤ 1000000) ∧ (0 ≤ max p1 p2 ∧ max p1 p2 ≤ 100000) ∧ (0 ≤ max o1 o2 ∧ max o1 o2 ≤ 1000000) ∧ (0 ≤ min p1 p2 ∧ min p1 p2 ≤ 100000) ∧ min o1 o2 ≤ max o1 o2 ∧ min p1 p2 ≤ max p1 p2) := Lib.hid (by have h1 := CX.out.a.2.2; have h2 := CX.out.b.2.2; dsimp only at h1 h2; omega)
      obtain ⟨ol, hol⟩ : ∃ z, z = min o1 o2 := ⟨_, rfl⟩
      obtain ⟨pl, hpl⟩ : ∃ z, z = max p1 p2 := ⟨_, rfl⟩
      obtain ⟨oh, hoh⟩ : ∃ z, z = max o1 o2 := ⟨_, rfl⟩
      obtain ⟨ph, hph⟩ : ∃ z, z = min p1 p2 := ⟨_, rfl⟩
      obtain ⟨KL, hKL⟩ : ∃ z, z = mnL Lc Ld := ⟨_, rfl⟩
      obtain ⟨KH, hKH⟩ : ∃ z, z = mxL Lc Ld := ⟨_, rfl⟩
      have KB : Hid (Blk w4 kb 37 #[.slice (some ⟨lo9, 0, none⟩) rn lc9, .int .i64 ol, .int .i64 pl, .slice (some ⟨ho9, 0, none⟩) rn hc9, .int .i64 oh, .int .i64 ph]) := Lib.hid (by rw [hol, hpl, hoh, hph]; exact hbx)
      have HKK : Hid ((KL.length = rn ∧ KH.length = rn) ∧ (∀ y ∈ KL, 0 ≤ y ∧ y ≤ 255000) ∧ (∀ y ∈ KH, 0 ≤ y ∧ y ≤ 255000) ∧ (∀ i, 0 ≤ KL.getD i 0) ∧ (∀ i, KL.getD i 0 ≤ KH.getD i 0) ∧ ((0 ≤ ol ∧ ol ≤ 1000000) ∧ (0 ≤ pl ∧ pl ≤ 100000) ∧ (0 ≤ oh ∧ oh ≤ 1000000) ∧ (0 ≤ ph ∧ ph ≤ 100000) ∧ ol ≤ oh ∧ ph ≤ pl)) := Lib.hid (by
        rw [hKL, hKH, hol, hpl, hoh, hph]
        exact ⟨⟨HTL.out.2.2.1, HTL.out.2.2.2⟩, HLB.out.1, HLB.out.2, getD_nonneg (by omega) HLB.out.1, mn_le_mx _ _, HOP.out⟩)
      have HCL : Hid (ClIn w4 rn (some ⟨lo9, 0, none⟩) (some ⟨ho9, 0, none⟩) ol pl oh ph KL KH) := Lib.hid (by
        obtain ⟨k1, k2, k3, k4, k5, k6⟩ := HKK.out
        refine ⟨?_, ?_, fun y hy => ?_, fun y hy => ?_, ⟨k6.1, k6.2.2.1⟩, ⟨k6.2.1, k6.2.2.2.1⟩, leB_yes (fun i _ => k5 i), k6.2.2.2.2.1, k6.2.2.2.2.2⟩
        · rw [hKL]; exact CX.out.l.rd (fun _ => rfl) HTL.out.2.2.1 (size := 1)
        · rw [hKH]; exact CX.out.h.rd (fun _ => rfl) HTL.out.2.2.2 (size := 1)
        · have := k2 y hy; omega
        · have := k3 y hy; omega)
      obtain ⟨TL, hTL⟩ : ∃ z, z = mnL La Lb := ⟨_, rfl⟩
      obtain ⟨TH, hTH⟩ : ∃ z, z = mxL La Lb := ⟨_, rfl⟩
      have RLO : Hid (Rd w4 w4.heap.size 1 encI (some ⟨lb, 0, none⟩) rn TL) := Lib.hid (by rw [hTL]; exact (RL.out.below9 B3.out).rd (fun _ => rfl) HTL.out.1 (size := 1))
      have RHI : Hid (Rd w4 w4.heap.size 1 encI (some ⟨hb, 0, none⟩) rn TH) := Lib.hid (by rw [hTH]; exact (RH.out.below9 B3.out).rd (fun _ => rfl) HTL.out.2.1 (size := 1))
      have HTT : Hid ((TL.length = rn ∧ TH.length = rn) ∧ (∀ y ∈ TL, 0 ≤ y ∧ y ≤ 1000000) ∧ (∀ y ∈ TH, 0 ≤ y ∧ y ≤ 1000000) ∧ (∀ i, 0 ≤ TL.getD i 0) ∧ (∀ i, TL.getD i 0 ≤ TH.getD i 0)) := Lib.hid (by
        rw [hTL, hTH]
        exact ⟨⟨HTL.out.1, HTL.out.2.1⟩, fun y hy => by have := HTB.out.1 y hy; omega, fun y hy => by have := HTB.out.2 y hy; omega, getD_nonneg (by omega) HTB.out.1, mn_le_mx _ _⟩)
      clear hol hpl hoh hph hKL hKH hTL hTH HTL HTB HLB HOP CX RL RH HT KW KD KS KC
      clear HR hbx hx hxw hkb
      simp [putAll, q7]
      clear q7
      have hbk := BX.out.below (below3 B2.out B3.out (Nat.le_refl _)) BX.out.lt
      have ca0 := hbk.cell 0
      have ca1 := hbk.cell 1
      have ca2 := hbk.cell 2
      have ca3 := hbk.cell 3
      simp only [List.getElem?_toArray, List.getElem?_cons_zero, List.getElem?_cons_succ] at ca0 ca1 ca2 ca3
      have zca := hbk.lt
      clear hbk
      have hbk := KB.out.below (Below.refl w4.heap.size w4) KB.out.lt
      have cb0 := hbk.cell 0
      have cb1 := hbk.cell 1
      have cb2 := hbk.cell 2
      have cb3 := hbk.cell 3
      have cb4 := hbk.cell 4
      have cb5 := hbk.cell 5
      simp only [List.getElem?_toArray, List.getElem?_cons_zero, List.getElem?_cons_succ] at cb0 cb1 cb2 cb3 cb4 cb5
      have zcb := hbk.lt
      clear hbk
      have CH := Lib.hid (Held_any rA wA bA cA rn rc wn wc bn bc cn cc (some ⟨lo9, 0, none⟩) (some ⟨ho9, 0, none⟩) (some ⟨lb, 0, none⟩) (some ⟨hb, 0, none⟩) lc9 hc9 lc hc ol pl oh ph KL KH TL TH h w4 (I1.out.next (below3 (below3 B1.out B2.out (Nat.le_refl _)) B3.out (Nat.le_refl _))) M.out.ok (HCL.out.next (Below.refl w4.heap.size w4)) (RLO.out.next (Below.refl w4.heap.size w4)) (RHI.out.next (Below.refl w4.heap.size w4)) HTT.out.2.1 HTT.out.2.2.1 (leB_yes (fun i _ => HTT.out.2.2.2.2 i)))
      obtain ⟨d1, hd1⟩ : ∃ z, z = leB TL (nxL h TL KL ol pl) := ⟨_, rfl⟩
      obtain ⟨d2, hd2⟩ : ∃ z, z = leB (nxL h TH KH oh ph) TH := ⟨_, rfl⟩
      rw [← hd1, ← hd2] at CH
      have HD1 := Lib.hid hd1
      have HD2 := Lib.hid hd2
      obtain ⟨is, his⟩ : ∃ z, z = (d1 && d2) := ⟨_, rfl⟩
      rw [← his] at CH
      have HIS9 := Lib.hid his
      clear hd1 hd2 his
      go_wp2_with fail
      refine (CH.out).mono ?_
      rintro e w5 ⟨rfl, hB⟩
      have B4 : Hid (Below w4.heap.size w4 w5) := Lib.hid hB
      clear hB
      clear ca0 ca1 ca2 ca3 zca cb0 cb1 cb2 cb3 cb4 cb5 zcb CH
      cases is
      · have HIS0 : Hid ((d1 && d2) = false) := Lib.hid HIS9.out.symm
        clear HIS9
        have hbk := BX.out.below (below3 (below3 B2.out B3.out (Nat.le_refl _)) B4.out (Nat.le_refl _)) BX.out.lt
        have ca0 := hbk.cell 0
        have ca1 := hbk.cell 1
        have ca2 := hbk.cell 2
        have ca3 := hbk.cell 3
        simp only [List.getElem?_toArray, List.getElem?_cons_zero, List.getElem?_cons_succ] at ca0 ca1 ca2 ca3
        have zca := hbk.lt
        clear hbk
        have hbk := KB.out.below B4.out KB.out.lt
        have cb0 := hbk.cell 0
        have cb1 := hbk.cell 1
        have cb2 := hbk.cell 2
        have cb3 := hbk.cell 3
        have cb4 := hbk.cell 4
        have cb5 := hbk.cell 5
        simp only [List.getElem?_toArray, List.getElem?_cons_zero, List.getElem?_cons_succ] at cb0 cb1 cb2 cb3 cb4 cb5
        have zcb := hbk.lt
        clear hbk
        have N1 := Lib.hid (Next_any rA wA bA cA (some ⟨lo9, 0, none⟩) (some ⟨lb, 0, none⟩) rn rc wn wc bn bc cn cc lc9 lc ol pl h TL KL w5 (I1.out.next (below3 (below3 (below3 B1.out B2.out (Nat.le_refl _)) B3.out (Nat.le_refl _)) B4.out (Nat.le_refl _))) M.out.ok HKK.out.2.2.2.2.2.1 HKK.out.2.2.2.2.2.2.1 (RLO.out.next B4.out) HTT.out.2.1 (HCL.out.next B4.out).ra HCL.out.ba)
        go_wp2_with fail
        refine (N1.out).mono ?_
        rintro e w6 ⟨xb, rfl, hx, _, hB⟩
        have B5 : Hid (Below w5.heap.size w5 w6) := Lib.hid hB
        clear hB
        have XB := Lib.hid hx
        clear hx N1
        clear ca0 ca1 ca2 ca3 zca cb0 cb1 cb2 cb3 cb4 cb5 zcb
        have hbk := BX.out.below (below3 (below3 (below3 B2.out B3.out (Nat.le_refl _)) B4.out (Nat.le_refl _)) B5.out (Nat.le_refl _)) BX.out.lt
        have ca0 := hbk.cell 0
        have ca1 := hbk.cell 1
        have ca2 := hbk.cell 2
        have ca3 := hbk.cell 3
        simp only [List.getElem?_toArray, List.getElem?_cons_zero, List.getElem?_cons_succ] at ca0 ca1 ca2 ca3
        have zca := hbk.lt
        clear hbk
        have hbk := KB.out.below (below3 B4.out B5.out (Nat.le_refl _)) KB.out.lt
        have cb0 := hbk.cell 0
        have cb1 := hbk.cell 1
        have cb2 := hbk.cell 2
        have cb3 := hbk.cell 3
        have cb4 := hbk.cell 4
        have cb5 := hbk.cell 5
        simp only [List.getElem?_toArray, List.getElem?_cons_zero, List.getElem?_cons_succ] at cb0 cb1 cb2 cb3 cb4 cb5
        have zcb := hbk.lt
        clear hbk
        have N2 := Lib.hid (Next_any rA wA bA cA (some ⟨ho9, 0, none⟩) (some ⟨hb, 0, none⟩) rn rc wn wc bn bc cn cc hc9 hc oh ph h TH KH w6 (I1.out.next (below3 (below3 (below3 (below3 B1.out B2.out (Nat.le_refl _)) B3.out (Nat.le_refl _)) B4.out (Nat.le_refl _)) B5.out (Nat.le_refl _))) M.out.ok HKK.out.2.2.2.2.2.2.2.1 HKK.out.2.2.2.2.2.2.2.2.1 (RHI.out.next (below3 B4.out B5.out (Nat.le_refl _))) HTT.out.2.2.1 (HCL.out.next (below3 B4.out B5.out (Nat.le_refl _))).rb HCL.out.bb)
        go_wp2_with fail
        refine (N2.out).mono ?_
        rintro e w7 ⟨yb, rfl, hy, _, hB⟩
        have B6 : Hid (Below w6.heap.size w6 w7) := Lib.hid hB
        clear hB
        have YB := Lib.hid hy
        clear hy N2
        clear ca0 ca1 ca2 ca3 zca cb0 cb1 cb2 cb3 cb4 cb5 zcb
        have HXL : Hid ((nxL h TL KL ol pl).length = rn ∧ (nxL h TH KH oh ph).length = rn) := Lib.hid ⟨by rw [nxL_len]; exact HRN.out, by rw [nxL_len]; exact HRN.out⟩
        have C1 := Lib.hid (below_any (some ⟨lb, 0, none⟩) (some ⟨xb, 0, none⟩) rn lc rn TL _ w7 (by have := HR4.out; omega) (RLO.out.next (below3 (below3 B4.out B5.out (Nat.le_refl _)) B6.out (Nat.le_refl _))) (Blk.rdI9 (XB.out.below B6.out XB.out.lt) HXL.out.1))
        rw [← HD1.out] at C1
        go_wp2_with fail
        refine (C1.out).mono ?_
        rintro e w8 ⟨rfl, hB⟩
        have B7 : Hid (Below w7.heap.size w7 w8) := Lib.hid hB
        clear hB
        have C2 := Lib.hid (below_any (some ⟨yb, 0, none⟩) (some ⟨hb, 0, none⟩) rn rn hc _ TH w8 (by have := HR4.out; omega) (Blk.rdI9 (YB.out.below B7.out YB.out.lt) HXL.out.2) (RHI.out.next (below3 (below3 (below3 B4.out B5.out (Nat.le_refl _)) B6.out (Nat.le_refl _)) B7.out (Nat.le_refl _))))
        rw [← HD2.out] at C2
        clear C1
        cases d1
        · go_wp2_with fail
          refine (KA.out _).mono ?_
          rintro e wz ⟨rfl, hB⟩
          have HF : Hid (Below w.heap.size w wz) := Lib.hid (below3 (below3 (below3 (below3 (below3 (below3 (below3 (below3 B0.out B1.out (Nat.le_refl _)) B2.out (Nat.le_refl _)) B3.out (Nat.le_refl _)) B4.out (Nat.le_refl _)) B5.out (Nat.le_refl _)) B6.out (Nat.le_refl _)) B7.out (Nat.le_refl _)) hB (Nat.le_refl _))
          clear hB
          go_wp2
          go_ret
          exact ⟨rfl, HF.out⟩
        · have HD2F : Hid (d2 = false) := Lib.hid (by simpa using HIS0.out)
          rw [HD2F.out] at C2
          go_wp2_with fail
          refine (C2.out).mono ?_
          rintro e w9 ⟨rfl, hB⟩
          have B8 : Hid (Below w8.heap.size w8 w9) := Lib.hid hB
          clear hB
          go_wp2_with fail
          refine (KA.out _).mono ?_
          rintro e wz ⟨rfl, hB⟩
          have HF : Hid (Below w.heap.size w wz) := Lib.hid (below3 (below3 (below3 (below3 (below3 (below3 (below3 (below3 (below3 B0.out B1.out (Nat.le_refl _)) B2.out (Nat.le_refl _)) B3.out (Nat.le_refl _)) B4.out (Nat.le_refl _)) B5.out (Nat.le_refl _)) B6.out (Nat.le_refl _)) B7.out (Nat.le_refl _)) B8.out (Nat.le_refl _)) hB (Nat.le_refl _))
          clear hB
          go_wp2
          go_ret
          exact ⟨rfl, HF.out⟩
      · have HIS : Hid (leB TL (nxL h TL KL ol pl) = true ∧ leB (nxL h TH KH oh ph) TH = true) := Lib.hid (by have h9 := HIS9.out; rw [HD1.out, HD2.out] at h9; simpa using h9.symm)
        clear HIS9
        go_wp2_with fail
        refine (clone_ints (some ⟨lb, 0, none⟩) rn lc TL w5 (RLO.out.next B4.out) (by have := HR4.out; omega)).mono ?_
        rintro e wcl ⟨A9, sc, rfl, ho1, hB, _⟩
        obtain ⟨A1', sc', sb, e1, hr1, hk1⟩ := RowW.of_own (by rw [HTT.out.1.1]; exact ho1)
        obtain ⟨k9, ho9x⟩ := hk1 (by rw [HTT.out.1.1]; exact HR4.out.1)
        obtain rfl : A9 = some ⟨sb, 0, none⟩ := by
          obtain ⟨x0, hx0⟩ : ∃ x0, TL[0]? = some x0 := ⟨_, List.getElem?_eq_getElem (by rw [HTT.out.1.1]; exact HR4.out.1)⟩
          have h9 := (hr1.at_ (size := 1) (fun _ => rfl) hx0).1
          simp only [Value.slice.injEq] at e1
          rw [e1.1, h9]
        have HSB : Hid (w5.heap.size ≤ sb) := Lib.hid k9
        have HA1 : Hid (A1' = some ⟨sb, 0, none⟩) := Lib.hid (by simp only [Value.slice.injEq] at e1; exact e1.1.symm)
        have HR1 : Hid (Below w5.heap.size w5 wcl ∧ RowW wcl sb 3 encI (some ⟨sb, 0, none⟩) (smL (btF TL TH l6) TL rn 0)) := Lib.hid ⟨hB, by rw [smL_zero HTT.out.1.1]; rw [HA1.out] at hr1; exact hr1⟩
        clear hB ho1 e1 hr1 hk1 ho9x k9 HA1
        go_wp2
        go_loopw [173] (fun i wr => ∃ k : Nat, k ≤ rn ∧ i = .int .i64 ((k : Nat) : Int) ∧ Hid (Below w5.heap.size w5 wr ∧ RowW wr sb 3 encI (some ⟨sb, 0, none⟩) (smL (btF TL TH l6) TL rn k))) (fun i _ => rn - (intOf i).toNat)
        case atStart => exact ⟨0, by omega, rfl, HR1⟩
        case round =>
          obtain ⟨k, hk, rfl, HW⟩ := hrel
          by_cases hlt : k < rn
          · have hk4 : k ≤ 400 := by have := HR4.out; omega
            have hk0 : (0 : Int) ≤ (k : Int) := by omega
            have hkn : (k : Int) < (rn : Int) := by omega
            have hk8 : (k : Int) ≤ 400 := by omega
            have HLT : Hid (k < rn) := Lib.hid hlt
            by_cases hat : k < n6
            · have hkm : (k : Int) < (n6 : Int) := by omega
              obtain ⟨ab, ao, u9, eA, hab, hu9, hcu⟩ := (K6.out.below (below3 (below3 (below3 (below3 B0.out B1.out (Nat.le_refl _)) B2.out (Nat.le_refl _)) B3.out (Nat.le_refl _)) B4.out (Nat.le_refl _))).at_ hat
              obtain ⟨bb, bo, y9, eB, hbb, hy9, hcy⟩ := (RHI.out.next B4.out).at_ hlt
              obtain ⟨db, dof, x9, eD, hdb, hx9, hcx⟩ := (RLO.out.next B4.out).at_ hlt
              have cu := cellU hcu
              have cy := cellI hcy
              have cx := cellI hcx
              simp only [Option.some.injEq, Addr.mk.injEq] at eB eD
              obtain ⟨eB1, eB2, -⟩ := eB
              obtain ⟨eD1, eD2, -⟩ := eD
              rw [← eB1] at hbb
              rw [← eD1] at hdb
              rw [← eB1, ← eB2] at cy
              rw [← eD1, ← eD2] at cx
              simp only [Nat.zero_add] at cx cy
              have HCU : Hid (∀ V, Below w5.heap.size w5 V → V.cell? ⟨ab, ao + k, none⟩ = some (.int .u8 u9) ∧ ab < V.heap.size) := Lib.hid (fun V hV => ⟨((hV.mono ((below3 (below3 (below3 (below3 B0.out B1.out (Nat.le_refl _)) B2.out (Nat.le_refl _)) B3.out (Nat.le_refl _)) B4.out (Nat.le_refl _)).size)).cell (p := ⟨ab, ao + k, none⟩) hab).trans cu, Nat.lt_of_lt_of_le (Nat.lt_of_lt_of_le hab (below3 (below3 (below3 (below3 B0.out B1.out (Nat.le_refl _)) B2.out (Nat.le_refl _)) B3.out (Nat.le_refl _)) B4.out (Nat.le_refl _)).size) hV.size⟩)
              have HCY : Hid (∀ V, Below w5.heap.size w5 V → V.cell? ⟨hb, k, none⟩ = some (.int .i64 y9) ∧ hb < V.heap.size) := Lib.hid (fun V hV => ⟨(hV.cell (p := ⟨hb, k, none⟩) hbb).trans cy, Nat.lt_of_lt_of_le hbb hV.size⟩)
              have HCX : Hid (∀ V, Below w5.heap.size w5 V → V.cell? ⟨lb, k, none⟩ = some (.int .i64 x9) ∧ lb < V.heap.size) := Lib.hid (fun V hV => ⟨(hV.cell (p := ⟨lb, k, none⟩) hdb).trans cx, Nat.lt_of_lt_of_le hdb hV.size⟩)
              have gx : TL.getD k 0 = x9 := by rw [List.getD_eq_getElem?_getD, hx9]; rfl
              have gy : TH.getD k 0 = y9 := by rw [List.getD_eq_getElem?_getD, hy9]; rfl
              have gu : l6.getD k 0 = u9 := by rw [List.getD_eq_getElem?_getD, hu9]; rfl
              have HBD : Hid ((0 ≤ x9 ∧ x9 ≤ y9 ∧ y9 ≤ 1000000) ∧ 0 ≤ u9 ∧ u9 ≤ 255) := Lib.hid (by
                have h1 := HTT.out.2.2.2.1 k
                have h2 := HTT.out.2.2.2.2 k
                have h3 := HTT.out.2.2.1 y9 (List.mem_of_getElem? hy9)
                have h4 := U6.out u9 (List.mem_of_getElem? hu9)
                rw [gx] at h1 h2
                rw [gy] at h2
                exact ⟨⟨h1, h2, h3.2⟩, h4⟩)
              have HVAL : Hid (btF TL TH l6 k = x9 + ((y9 - x9) * u9).tdiv 255) := Lib.hid (by unfold btF; rw [gx, gy, gu, if_pos (by rw [K6.out.1]; exact hat)])
              have HS0 : Hid ((smL (btF TL TH l6) TL rn k)[k]? = some x9) := Lib.hid (by rw [smL_get hlt, if_neg (by omega), gx])
              clear hab hu9 hcu hbb hy9 hcy hdb hx9 hcx cu cy cx gx gy gu eB1 eB2 eD1 eD2
              subst eA
              go_wp2_with fail
              refine wp_region_free10 22 (by kernel_rfl) [some 180, some 181, some 182, some 183, some 184, some 185, some 186, some 187, some 188, some 189, some 190, some 191, some 192, some 193, some 194, some 195, some 196, some 197, some 198, some 199, some 200, some 201, none] [[], [], [0, 1], [2], [], [], [4, 5], [6], [], [], [8, 9], [10], [7, 11], [], [], [13, 14], [15], [16], [12, 17], [18], [3, 19], [0, 1, 0, 1, 2, 3, 4, 5, 6, 7, 8, 9, 10, 11, 12, 13, 14, 15, 16, 17, 18, 19, 20], [21, 20, 0, 1, 2, 3, 4, 5, 6, 7, 8, 9, 10, 11, 12, 13, 14, 15, 16, 17, 18, 19, 20]] [(33, .slice (some ⟨sb, 0, none⟩) rn sc), (34, .int .i64 (k : Int)), (19, .slice (some ⟨hb, 0, none⟩) rn hc), (18, .slice (some ⟨lb, 0, none⟩) rn lc), (6, .slice (some ⟨ab, ao, none⟩) n6 c6)] (fun W γ => Below w5.heap.size w5 W ∧ RowW W sb 3 encI (some ⟨sb, 0, none⟩) (if γ 1 = 0 then smL (btF TL TH l6) TL rn k else smL (btF TL TH l6) TL rn (k + 1))) (hhPhi sb hb 0 (k) lb 0 (k) ab ao rn sc hc lc n6 c6 k x9 y9 u9) (fun i _ γ => (i = 3 ∨ i = 22) → γ 1 = 0) (by kernel_rfl) (by kernel_rfl) rfl (by kernel_rfl) ?_ ?_ ⟨fun _ => 0, ⟨HW.out.1.drew, HW.out.2.below9 (Below.refl _ _).drew⟩, fun i _ _ => rfl⟩ ?_ ?_
              · intro z hz
                simp only [List.mem_cons, List.mem_nil_iff, or_false] at hz
                rcases hz with rfl | rfl | rfl | rfl | rfl
                all_goals exact ⟨by kernel_rfl, rfl⟩
              · intro i v W γ hi h
                rcases i with _ | _ | _ | _ | _ | _ | _ | _ | _ | _ | _ | _ | _ | _ | _ | _ | _ | _ | _ | _ | _ | _ | _ | i
                all_goals first | exact h | (simp at hi)
              · refine ⟨?_, ?_, ?_, ?_, ?_, ?_, ?_, ?_, ?_, ?_, ?_, ?_, ?_, ?_, ?_, ?_, ?_, ?_, ?_, ?_, ?_, ?_, ?_, trivial⟩
                all_goals
                  intro a9 W γ ev hcc hff hfx hR hψ hpre
                  simp only [List.mem_cons, List.mem_nil_iff, or_false, forall_eq, forall_eq_or_imp] at hfx
                  obtain ⟨f0, f1, f2, f3, f4⟩ := hfx
                  have HR := Lib.hid hR
                  clear hR
                · refine ⟨fun hg K hK => ?_, trivial⟩
                  clear hg
                  clear hpre hψ
                  go_simp
                  exact hK _ _ γ HR.out (fun _ _ _ _ h => h) (fun _ _ _ h => h) rfl
                · refine ⟨fun hg K hK => ?_, trivial⟩
                  clear hg
                  clear hpre hψ
                  go_simp
                  exact hK _ _ γ HR.out (fun _ _ _ _ h => h) (fun _ _ _ h => h) rfl
                · refine ⟨fun hg K hK => ?_, trivial⟩
                  clear hg
                  have q0 : ev (.tmp 180) = _ := hpre 0 (by decide)
                  have q1 : ev (.tmp 181) = _ := hpre 1 (by decide)
                  clear hpre hψ
                  go_simp
                  exact hK _ _ γ HR.out (fun _ _ _ _ h => h) (fun _ _ _ h => h) rfl
                · refine ⟨fun hg K hK => ?_, trivial⟩
                  clear hg
                  have q0 : ev (.tmp 182) = _ := hpre 2 (by decide)
                  have hg9 : γ 1 = 0 := hψ (Or.inl rfl)
                  have hr9 := HR.out.2
                  rw [if_pos hg9] at hr9
                  have ca := rowI_at hr9 HS0.out
                  have zb := (hr9.at_ (size := 1) (fun _ => rfl) HS0.out).2.1
                  clear hr9 hg9
                  clear hpre hψ
                  go_simp
                  exact hK _ _ γ HR.out (fun _ _ _ _ h => h) (fun _ _ _ h => h) rfl
                · refine ⟨fun hg K hK => ?_, trivial⟩
                  clear hg
                  clear hpre hψ
                  go_simp
                  exact hK _ _ γ HR.out (fun _ _ _ _ h => h) (fun _ _ _ h => h) rfl
                · refine ⟨fun hg K hK => ?_, trivial⟩
                  clear hg
                  clear hpre hψ
                  go_simp
                  exact hK _ _ γ HR.out (fun _ _ _ _ h => h) (fun _ _ _ h => h) rfl
                · refine ⟨fun hg K hK => ?_, trivial⟩
                  clear hg
                  have q0 : ev (.tmp 184) = _ := hpre 4 (by decide)
                  have q1 : ev (.tmp 185) = _ := hpre 5 (by decide)
                  clear hpre hψ
                  go_simp
                  exact hK _ _ γ HR.out (fun _ _ _ _ h => h) (fun _ _ _ h => h) rfl
                · refine ⟨fun hg K hK => ?_, trivial⟩
                  clear hg
                  have q0 : ev (.tmp 186) = _ := hpre 6 (by decide)
                  have cy := (HCY.out W HR.out.1).1
                  have zy := (HCY.out W HR.out.1).2
                  clear hpre hψ
                  go_simp
                  exact hK _ _ γ HR.out (fun _ _ _ _ h => h) (fun _ _ _ h => h) rfl
                · refine ⟨fun hg K hK => ?_, trivial⟩
                  clear hg
                  clear hpre hψ
                  go_simp
                  exact hK _ _ γ HR.out (fun _ _ _ _ h => h) (fun _ _ _ h => h) rfl
                · refine ⟨fun hg K hK => ?_, trivial⟩
                  clear hg
                  clear hpre hψ
                  go_simp
                  exact hK _ _ γ HR.out (fun _ _ _ _ h => h) (fun _ _ _ h => h) rfl
                · refine ⟨fun hg K hK => ?_, trivial⟩
                  clear hg
                  have q0 : ev (.tmp 188) = _ := hpre 8 (by decide)
                  have q1 : ev (.tmp 189) = _ := hpre 9 (by decide)
                  clear hpre hψ
                  go_simp
                  exact hK _ _ γ HR.out (fun _ _ _ _ h => h) (fun _ _ _ h => h) rfl
                · refine ⟨fun hg K hK => ?_, trivial⟩
                  clear hg
                  have q0 : ev (.tmp 190) = _ := hpre 10 (by decide)
                  have cx := (HCX.out W HR.out.1).1
                  have zx := (HCX.out W HR.out.1).2
                  clear hpre hψ
                  go_simp
                  exact hK _ _ γ HR.out (fun _ _ _ _ h => h) (fun _ _ _ h => h) rfl
                · refine ⟨fun hg K hK => ?_, trivial⟩
                  clear hg
                  have q0 : ev (.tmp 187) = _ := hpre 7 (by decide)
                  have q1 : ev (.tmp 191) = _ := hpre 11 (by decide)
                  have wv : IntKind.i64.wrap (y9 - x9) = y9 - x9 := IntWalk.i64_in _ (by have := HBD.out; omega)
                  clear hpre hψ
                  go_simp
                  exact hK _ _ γ HR.out (fun _ _ _ _ h => h) (fun _ _ _ h => h) rfl
                · refine ⟨fun hg K hK => ?_, trivial⟩
                  clear hg
                  clear hpre hψ
                  go_simp
                  exact hK _ _ γ HR.out (fun _ _ _ _ h => h) (fun _ _ _ h => h) rfl
                · refine ⟨fun hg K hK => ?_, trivial⟩
                  clear hg
                  clear hpre hψ
                  go_simp
                  exact hK _ _ γ HR.out (fun _ _ _ _ h => h) (fun _ _ _ h => h) rfl
                · refine ⟨fun hg K hK => ?_, trivial⟩
                  clear hg
                  have q0 : ev (.tmp 193) = _ := hpre 13 (by decide)
                  have q1 : ev (.tmp 194) = _ := hpre 14 (by decide)
                  clear hpre hψ
                  go_simp
                  exact hK _ _ γ HR.out (fun _ _ _ _ h => h) (fun _ _ _ h => h) rfl
                · refine ⟨fun hg K hK => ?_, trivial⟩
                  clear hg
                  have q0 : ev (.tmp 195) = _ := hpre 15 (by decide)
                  have cu := (HCU.out W HR.out.1).1
                  have zu := (HCU.out W HR.out.1).2
                  clear hpre hψ
                  go_simp
                  exact hK _ _ γ HR.out (fun _ _ _ _ h => h) (fun _ _ _ h => h) rfl
                · refine ⟨fun hg K hK => ?_, trivial⟩
                  clear hg
                  have q0 : ev (.tmp 196) = _ := hpre 16 (by decide)
                  have wv : IntKind.i64.wrap u9 = u9 := IntWalk.i64_in _ (by have := HBD.out; omega)
                  clear hpre hψ
                  go_simp
                  exact hK _ _ γ HR.out (fun _ _ _ _ h => h) (fun _ _ _ h => h) rfl
                · refine ⟨fun hg K hK => ?_, trivial⟩
                  clear hg
                  have q0 : ev (.tmp 192) = _ := hpre 12 (by decide)
                  have q1 : ev (.tmp 197) = _ := hpre 17 (by decide)
                  have hb9 := mul_in HBD.out
                  have wv : IntKind.i64.wrap ((y9 - x9) * u9) = (y9 - x9) * u9 := IntWalk.i64_in _ (by omega)
                  clear hb9
                  clear hpre hψ
                  go_simp
                  exact hK _ _ γ HR.out (fun _ _ _ _ h => h) (fun _ _ _ h => h) rfl
                · refine ⟨fun hg K hK => ?_, trivial⟩
                  clear hg
                  have q0 : ev (.tmp 198) = _ := hpre 18 (by decide)
                  have hb9 := div_in HBD.out
                  have wv : IntKind.i64.wrap (((y9 - x9) * u9).tdiv 255) = ((y9 - x9) * u9).tdiv 255 := IntWalk.i64_in _ (by omega)
                  clear hb9
                  clear hpre hψ
                  go_simp
                  exact hK _ _ γ HR.out (fun _ _ _ _ h => h) (fun _ _ _ h => h) rfl
                · refine ⟨fun hg K hK => ?_, trivial⟩
                  clear hg
                  have q0 : ev (.tmp 183) = _ := hpre 3 (by decide)
                  have q1 : ev (.tmp 199) = _ := hpre 19 (by decide)
                  have hb9 := div_in HBD.out
                  have hb8 := HBD.out
                  have wv : IntKind.i64.wrap (x9 + ((y9 - x9) * u9).tdiv 255) = x9 + ((y9 - x9) * u9).tdiv 255 := IntWalk.i64_in _ (by omega)
                  clear hb9 hb8
                  clear hpre hψ
                  go_simp
                  exact hK _ _ γ HR.out (fun _ _ _ _ h => h) (fun _ _ _ h => h) rfl
                · refine ⟨fun hg K hK => ?_, trivial⟩
                  clear hg
                  have q0 : ev (.tmp 180) = _ := hpre 0 (by decide)
                  have q1 : ev (.tmp 181) = _ := hpre 1 (by decide)
                  clear hpre hψ
                  go_simp
                  exact hK _ _ γ HR.out (fun _ _ _ _ h => h) (fun _ _ _ h => h) rfl
                · refine ⟨fun hg K hK => ?_, trivial⟩
                  clear hg
                  have q0 : ev (.tmp 200) = _ := hpre 20 (by decide)
                  have q1 : ev (.tmp 201) = _ := hpre 21 (by decide)
                  have hg : γ 1 = 0 := hψ (Or.inr rfl)
                  obtain ⟨hw9, hl9⟩ := HR.out
                  have hr9 := hl9
                  rw [if_pos hg] at hr9
                  have ca := rowI_at hr9 HS0.out
                  have fz := (hr9.at_ (size := 1) (fun _ => rfl) HS0.out).2.2.1
                  have zb := (hr9.at_ (size := 1) (fun _ => rfl) HS0.out).2.1
                  have HX := Lib.hid (And.intro hw9 (And.intro hr9 hg))
                  clear hpre hψ hw9 hl9 hr9 hg
                  go_simp
                  obtain ⟨hw9, hr9, hg⟩ := HX.out
                  refine hK undef _ (fun i => if i = 1 then 1 else γ i) ⟨hw9.setCell HSB.out _, ?_⟩ (fun j u h1 h2 h3 => hhPhi_w h2 h3) (fun h => absurd rfl h) (by simp [hhPhi])
                  rw [if_neg (by simp)]
                  have h9 := rowI_set hr9 HS0.out (x9 + ((y9 - x9) * u9).tdiv 255)
                  rw [← HVAL.out, smL_set HLT.out] at h9
                  rw [← HVAL.out]
                  exact h9
              · intro vs wy γ hvl hR hφ
                have q22 := hφ 22 (by decide)
                have HR := Lib.hid hR
                clear hφ hR
                match vs, hvl with
                | [y0, y1, y2, y3, y4, y5, y6, y7, y8, y9, y10, y11, y12, y13, y14, y15, y16, y17, y18, y19, y20, y21, y22], _ =>
                simp only [List.getD_cons_zero, List.getD_cons_succ] at q22
                have h22 : γ 1 ≠ 0 := by simpa [hhPhi] using q22
                obtain ⟨r1, r2⟩ := HR.out
                rw [if_neg h22] at r2
                have HN9 : Hid (Below w5.heap.size w5 wy ∧ RowW wy sb 3 encI (some ⟨sb, 0, none⟩) (smL (btF TL TH l6) TL rn (k + 1))) := Lib.hid ⟨r1, r2⟩
                clear HR q22 h22 r1 r2
                simp [putAll]
                go_wp2
                go_roundw
                case rel => exact ⟨k + 1, by have := HLT.out; omega, by go_num, HN9⟩
                case measure => have := HLT.out; simp [intOf]; omega
            · have hkm : ¬ (k : Int) < (n6 : Int) := by omega
              have HN9 : Hid (Below w5.heap.size w5 wr ∧ RowW wr sb 3 encI (some ⟨sb, 0, none⟩) (smL (btF TL TH l6) TL rn (k + 1))) := Lib.hid ⟨HW.out.1, by rw [smL_same (by unfold btF; rw [if_neg (by rw [K6.out.1]; exact hat)])]; exact HW.out.2⟩
              go_wp2
              go_roundw
              case rel => exact ⟨k + 1, by have := HLT.out; omega, by go_num, HN9⟩
              case measure => have := HLT.out; simp [intOf]; omega
          · obtain rfl : rn = k := by omega
            have HS9 : Hid (RowW wr sb 3 encI (some ⟨sb, 0, none⟩) (btL TL TH l6 rn)) := Lib.hid (by have h9 := HW.out.2; rw [smL_all] at h9; exact h9)
            have HBW : Hid (Below w5.heap.size w5 wr) := Lib.hid HW.out.1
            have HSB9 : Hid (∀ y ∈ btL TL TH l6 rn, 0 ≤ y ∧ y ≤ 1000000) := Lib.hid (btL_bd HTT.out U6.out)
            go_wp2_with fail
            refine wp_region_free10 10 (by kernel_rfl) [some 204, some 205, some 206, some 207, some 208, some 209, some 203, some 210, some 211, some 35, some 28] [[], [], [], [], [2, 3], [0, 1, 4, 4], [5], [6], [6], [7, 5, 0, 1, 2, 3, 4, 5, 6, 7], [8, 9, 0, 1, 2, 3, 4, 5, 6, 7, 8, 9]] [(17, .pointer (some ⟨bx, 0, none⟩)), (33, .slice (some ⟨sb, 0, none⟩) rn sc), (20, .pointer (some ⟨kb, 0, none⟩)), (5, .slice A5 n5 c5)] (fun W _ => Below wr.heap.size wr W) (hmPhi h rn (.agg #[.slice rA rn rc, .slice wA wn wc, .slice bA bn bc, .slice cA cn cc]) (.slice (some ⟨sb, 0, none⟩) rn sc) (.agg #[.slice (some ⟨lo9, 0, none⟩) rn lc9, .int .i64 ol, .int .i64 pl, .slice (some ⟨ho9, 0, none⟩) rn hc9, .int .i64 oh, .int .i64 ph]) (.slice A5 n5 c5) (btL TL TH l6 rn) KL KH ol pl oh ph) (fun _ _ _ => True) (by kernel_rfl) (by kernel_rfl) rfl (by kernel_rfl) ?_ ?_ ⟨fun _ => 0, (Below.refl _ _).drew, fun _ _ => trivial⟩ ?_ ?_
            · intro z hz
              simp only [List.mem_cons, List.mem_nil_iff, or_false] at hz
              rcases hz with rfl | rfl | rfl | rfl
              all_goals exact ⟨by kernel_rfl, rfl⟩
            · intro i v W γ hi h
              rcases i with _ | _ | _ | _ | _ | _ | _ | _ | _ | _ | _ | i
              all_goals first | exact h | (simp at hi)
            · refine ⟨?_, ?_, ?_, ?_, ?_, ?_, ?_, ?_, ?_, ?_, ?_, trivial⟩
              all_goals
                intro a9 W γ ev hcc hff hfx hR hψ hpre
                simp only [List.mem_cons, List.mem_nil_iff, or_false, forall_eq, forall_eq_or_imp] at hfx
                obtain ⟨f0, f1, f2, f3⟩ := hfx
                have HR := Lib.hid hR
                clear hR
              · refine ⟨fun hg K hK => ?_, trivial⟩
                clear hg
                have hbk := BX.out.below (below3 (below3 (below3 B2.out B3.out (Nat.le_refl _)) B4.out (Nat.le_refl _)) (below3 HBW.out HR.out (Nat.le_refl _)) (Nat.le_refl _)) BX.out.lt
                have hzg := hbk.lt
                have e0 := hbk.cell 0
                have e1 := hbk.cell 1
                have e2 := hbk.cell 2
                have e3 := hbk.cell 3
                simp only [List.getElem?_toArray, List.getElem?_cons_zero, List.getElem?_cons_succ] at e0 e1 e2 e3
                clear hbk
                clear hpre hψ
                go_simp
                exact hK _ _ γ HR.out (fun _ _ _ _ h => h) (fun _ _ _ h => h) rfl
              · refine ⟨fun hg K hK => ?_, trivial⟩
                clear hg
                clear hpre hψ
                go_simp
                exact hK _ _ γ HR.out (fun _ _ _ _ h => h) (fun _ _ _ h => h) rfl
              · refine ⟨fun hg K hK => ?_, trivial⟩
                clear hg
                have hbk := KB.out.below (below3 B4.out (below3 HBW.out HR.out (Nat.le_refl _)) (Nat.le_refl _)) KB.out.lt
                have hzg := hbk.lt
                have e0 := hbk.cell 0
                have e1 := hbk.cell 1
                have e2 := hbk.cell 2
                have e3 := hbk.cell 3
                have e4 := hbk.cell 4
                have e5 := hbk.cell 5
                simp only [List.getElem?_toArray, List.getElem?_cons_zero, List.getElem?_cons_succ] at e0 e1 e2 e3 e4 e5
                clear hbk
                clear hpre hψ
                go_simp
                exact hK _ _ γ HR.out (fun _ _ _ _ h => h) (fun _ _ _ h => h) rfl
              · refine ⟨fun hg K hK => ?_, trivial⟩
                clear hg
                clear hpre hψ
                go_simp
                exact hK _ _ γ HR.out (fun _ _ _ _ h => h) (fun _ _ _ h => h) rfl
              · refine ⟨fun hg K hK => ?_, trivial⟩
                clear hg
                have q0 : ev (.tmp 206) = _ := hpre 2 (by decide)
                have q1 : ev (.tmp 207) = _ := hpre 3 (by decide)
                have hcl := HCL.out.next (below3 B4.out (below3 HBW.out HR.out (Nat.le_refl _)) (Nat.le_refl _))
                have C := Lib.hid (inside_any (some ⟨lo9, 0, none⟩) (some ⟨ho9, 0, none⟩) A5 rn lc9 hc9 n5 c5 KL KH l5 ol pl oh ph W (by have := HR4.out; omega) hcl.ra hcl.rb (in_bd HKK.out) (by have := HKK.out.2.2.2.2.2; omega) (by have := HKK.out.2.2.2.2.2; omega) (K5.out.next (below3 (below3 (below3 (below3 (below3 B0.out B1.out (Nat.le_refl _)) B2.out (Nat.le_refl _)) B3.out (Nat.le_refl _)) B4.out (Nat.le_refl _)) (below3 HBW.out HR.out (Nat.le_refl _)) (Nat.le_refl _))) U5.out)
                have HX := Lib.hid HR.out
                clear hpre hψ hcl
                go_simp
                refine C.out.mono ?_
                rintro e w7 ⟨A7, c7, o7, p7, L7, rfl, hr7, hb7, hop7, hB9⟩
                exact hK _ w7 γ (below3 HX.out hB9 (Nat.le_refl _)) (fun j u hj hne h => hmPhi_next hB9 h) (fun _ _ _ h => h) ⟨A7, c7, o7, p7, L7, rfl, hr7, mid_ok hr7.1 HKK.out hb7 hop7⟩
              · refine ⟨fun hg K hK => ?_, trivial⟩
                clear hg
                have q0 : ev (.tmp 204) = _ := hpre 0 (by decide)
                have q1 : ev (.tmp 205) = _ := hpre 1 (by decide)
                obtain ⟨A7, c7, o7, p7, L7, q4, hr7, hm7⟩ := hpre 4 (by decide)
                replace q4 : ev (.tmp 208) = _ := q4
                have C := Lib.hid (Next_any rA wA bA cA A7 (some ⟨sb, 0, none⟩) rn rc wn wc bn bc cn cc c7 sc o7 p7 h (btL TL TH l6 rn) L7 W (I1.out.next (below3 (below3 (below3 (below3 B1.out B2.out (Nat.le_refl _)) B3.out (Nat.le_refl _)) B4.out (Nat.le_refl _)) (below3 HBW.out HR.out (Nat.le_refl _)) (Nat.le_refl _))) M.out.ok (by have := hm7.2.2.1; omega) (by have := hm7.2.2.2; omega) ((HS9.out.below9 HR.out).rd (fun _ => rfl) (by simp [btL]) (size := 1)) (HSB9.out) hr7 hm7.1)
                have HX := Lib.hid (And.intro HR.out hm7)
                clear hpre hψ hr7 hm7
                go_simp
                refine C.out.mono ?_
                rintro e w7 ⟨xb, rfl, hx7, _, hB9⟩
                exact hK _ w7 γ (below3 HX.out.1 hB9 (Nat.le_refl _)) (fun j u hj hne h => hmPhi_next hB9 h) (fun _ _ _ h => h) ⟨xb, o7, p7, L7, rfl, HX.out.2, hx7⟩
              · refine ⟨fun hg K hK => ?_, trivial⟩
                clear hg
                obtain ⟨xb, o7, p7, L7, q0, hm7⟩ := hpre 5 (by decide)
                replace q0 : ev (.tmp 209) = _ := q0
                have HX := Lib.hid hm7
                clear hpre hψ hm7
                go_simp
                exact hK _ _ γ HR.out (fun _ _ _ _ h => h) (fun _ _ _ h => h) ⟨xb, o7, p7, L7, rfl, HX.out⟩
              · refine ⟨fun hg K hK => ?_, trivial⟩
                clear hg
                obtain ⟨xb, o7, p7, L7, q0, hm7⟩ := hpre 6 (by decide)
                replace q0 : ev (.tmp 203) = _ := q0
                have HX := Lib.hid hm7
                clear hpre hψ hm7
                go_simp
                exact hK _ _ γ HR.out (fun _ _ _ _ h => h) (fun _ _ _ h => h) ⟨xb, o7, p7, L7, rfl, HX.out⟩
              · refine ⟨fun hg K hK => ?_, trivial⟩
                clear hg
                obtain ⟨xb, o7, p7, L7, q0, hm7⟩ := hpre 6 (by decide)
                replace q0 : ev (.tmp 203) = _ := q0
                clear hpre hψ hm7
                go_simp
                exact hK _ _ γ HR.out (fun _ _ _ _ h => h) (fun _ _ _ h => h) rfl
              · refine ⟨fun hg K hK => ?_, trivial⟩
                clear hg
                obtain ⟨xb, o7, p7, L7, q0, hm7⟩ := hpre 7 (by decide)
                replace q0 : ev (.tmp 210) = _ := q0
                have HX := Lib.hid hm7
                clear hpre hψ hm7
                go_simp
                exact hK _ _ γ HR.out (fun _ _ _ _ h => h) (fun _ _ _ h => h) ⟨xb, o7, p7, L7, rfl, HX.out⟩
              · refine ⟨fun hg K hK => ?_, trivial⟩
                clear hg
                have q0 : ev (.tmp 211) = _ := hpre 8 (by decide)
                clear hpre hψ
                go_simp
                exact hK _ _ γ HR.out (fun _ _ _ _ h => h) (fun _ _ _ h => h) rfl
            · intro vs wn2 γ hvl hR hφ
              have q9 := hφ 9 (by decide)
              have q10 := hφ 10 (by decide)
              have HR := Lib.hid hR
              clear hφ hR
              match vs, hvl with
              | [y0, y1, y2, y3, y4, y5, y6, y7, y8, y9, y10], _ =>
              simp only [List.getD_cons_zero, List.getD_cons_succ] at q9 q10
              obtain ⟨xb, o7, p7, L7, e9, hm7, hx7⟩ := q9
              obtain rfl : y9 = _ := e9
              obtain rfl : y10 = _ := q10
              have HM7 := Lib.hid hm7
              have HX7 := Lib.hid hx7
              have hBn := HR.out
              have BN : Hid (Below wr.heap.size wr wn2) := Lib.hid hBn
              clear HR hm7 hx7 hBn
              have HLE : Hid (leB TL (nxL h (btL TL TH l6 rn) L7 o7 p7) = true ∧ leB (nxL h (btL TL TH l6 rn) L7 o7 p7) TH = true) := Lib.hid (hold_end M.out.ok HRN.out HTT.out U6.out HKK.out HM7.out HIS.out)
              have HNL : Hid ((nxL h (btL TL TH l6 rn) L7 o7 p7).length = rn) := Lib.hid (by rw [nxL_len]; exact HRN.out)
              have HWN : Hid (Below w5.heap.size w5 wn2) := Lib.hid (below3 HBW.out BN.out (Nat.le_refl _))
              have C1 := Lib.hid (below_any (some ⟨lb, 0, none⟩) (some ⟨xb, 0, none⟩) rn lc rn _ _ wn2 (by have := HR4.out; omega) (RLO.out.next (below3 B4.out HWN.out (Nat.le_refl _))) (Blk.rdI9 HX7.out HNL.out))
              rw [HLE.out.1] at C1
              simp [putAll]
              go_wp2_with fail
              refine C1.out.mono ?_
              rintro e wv ⟨rfl, hB⟩
              have HB7 := Lib.hid hB
              have C2 := Lib.hid (below_any (some ⟨xb, 0, none⟩) (some ⟨hb, 0, none⟩) rn rn hc _ _ wv (by have := HR4.out; omega) (Blk.rdI9 (HX7.out.below HB7.out HX7.out.lt) HNL.out) (RHI.out.next (below3 (below3 B4.out HWN.out (Nat.le_refl _)) HB7.out (Nat.le_refl _))))
              rw [HLE.out.2] at C2
              clear hB C1
              go_wp2_with fail
              refine C2.out.mono ?_
              rintro e wu ⟨rfl, hB⟩
              have HB8 := Lib.hid hB
              clear hB C2
              go_wp2_with fail
              refine (KA.out _).mono ?_
              rintro e wz ⟨rfl, hB⟩
              have HF : Hid (Below w.heap.size w wz) := Lib.hid (below3 (below3 (below3 (below3 (below3 (below3 (below3 (below3 B0.out B1.out (Nat.le_refl _)) B2.out (Nat.le_refl _)) B3.out (Nat.le_refl _)) B4.out (Nat.le_refl _)) HWN.out (Nat.le_refl _)) HB7.out (Nat.le_refl _)) HB8.out (Nat.le_refl _)) hB (Nat.le_refl _))
              clear hB
              go_wp2
              go_ret
              exact ⟨rfl, HF.out⟩
end Go.Proofs.Ytndlbjcakfhdiaa
