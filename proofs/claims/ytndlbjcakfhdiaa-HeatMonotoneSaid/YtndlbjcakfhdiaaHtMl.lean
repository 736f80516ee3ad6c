/- law07: HeatMonotone. -/
import Derived.Test.YtndlbjcakfhdiaaHtMa

set_option linter.unusedSimpArgs false
set_option linter.unusedVariables false
namespace Go.Proofs.Ytndlbjcakfhdiaa
open Go.RowKit

set_option maxRecDepth 100000 in
set_option maxHeartbeats 4000000 in
theorem monoLaw_any (A0 A1 A2 A3 A4 : Option Addr) (n0 c0 n1 c1 n2 c2 n3 c3 n4 c4 : Nat) (l0 l1 l2 l3 l4 : List Int) (w : World) (k0 : Rd w w.heap.size 1 encU A0 n0 l0) (k1 : Rd w w.heap.size 1 encU A1 n1 l1) (k2 : Rd w w.heap.size 1 encU A2 n2 l2) (k3 : Rd w w.heap.size 1 encU A3 n3 l3) (k4 : Rd w w.heap.size 1 encU A4 n4 l4) (b0 : U8s l0) (b1 : U8s l1) (b2 : U8s l2) (b3 : U8s l3) (b4 : U8s l4) (m0 : n0 ≤ 9223372036854775807) (m1 : n1 ≤ 9223372036854775807) (m2 : n2 ≤ 9223372036854775807) (m3 : n3 ≤ 9223372036854775807) (m4 : n4 ≤ 9223372036854775807) :
    Calls Try.prog 3 #[.slice A0 n0 c0, .slice A1 n1 c1, .slice A2 n2 c2, .slice A3 n3 c3, .slice A4 n4 c4] w fun e w' => e = .returned (.bool true) ∧ Below w.heap.size w w' := by
  have KM := Lib.hid (Made_any A0 n0 c0 l0 w k0 b0)
  have KA := Lib.hid awake_any
  have K1 := Lib.hid k1
  have K2 := Lib.hid k2
  have K3 := Lib.hid k3
  have K4 := Lib.hid k4
  have U1 := Lib.hid b1
  have U2 := Lib.hid b2
  have U3 := Lib.hid b3
  have U4 := Lib.hid b4
  clear k0 k1 k2 k3 k4 b0 b1 b2 b3 b4 m0 m1 m2 m3 m4
  go_enter Try.func3, Try.ntmps3
  go_wp2_with fail
  refine KM.out.mono ?_
  rintro e w1 ⟨rA, wA, bA, cA, rc, wc, bc, cc, h, rfl, m⟩
  have hB := m.low
  have M := Lib.hid m
  have B0 : Hid (Below w.heap.size w w1) := Lib.hid hB
  clear hB m
  obtain ⟨rn, hrn⟩ : ∃ z, z = h.rooms.length := ⟨_, rfl⟩
  obtain ⟨wn, hwn⟩ : ∃ z, z = h.walls.length := ⟨_, rfl⟩
  obtain ⟨bn, hbn⟩ : ∃ z, z = h.brs.length := ⟨_, rfl⟩
  obtain ⟨cn, hcn⟩ : ∃ z, z = h.crs.length := ⟨_, rfl⟩
  have I1 : Hid (HlIn w1 w1.heap.size ⟨rA, wA, bA, cA, rn, wn, bn, cn⟩ h) := Lib.hid (by rw [hrn, hwn, hbn, hcn]; exact M.out.inn)
  rw [← hrn, ← hwn, ← hbn, ← hcn]
  have HRN := Lib.hid hrn.symm
  have HWN := Lib.hid hwn.symm
  have HBN := Lib.hid hbn.symm
  have HCN := Lib.hid hcn.symm
  have HR4 : Hid (1 ≤ rn ∧ rn ≤ 4) := Lib.hid (by rw [hrn]; exact ⟨M.out.ok.n1, M.out.n4⟩)
  clear hrn hwn hbn hcn
  have g1 : w1.heap.size < w1.heap.size + 1 := by omega
  go_wp2_with fail
  obtain ⟨bx, hbx⟩ : ∃ z, z = w1.heap.size := ⟨_, rfl⟩
  obtain ⟨w2, hw2⟩ : ∃ z, z = w1.alloc (.cells #[.slice rA rn rc, .slice wA wn wc, .slice bA bn bc, .slice cA cn cc] 28) := ⟨_, rfl⟩
  have BX : Hid (Blk w2 bx 28 #[.slice rA rn rc, .slice wA wn wc, .slice bA bn bc, .slice cA cn cc]) := Lib.hid (by rw [hw2, hbx]; exact heap_alloc_new w1 _)
  have Sw2 : Hid (w2.heap.size = bx + 1) := Lib.hid (by rw [hw2, hbx, World.size_alloc])
  have Zbx : Hid (w1.heap.size ≤ bx) := Lib.hid (by rw [hbx]; exact Nat.le_refl _)
  have hBn : Below w1.heap.size w1 w2 := by rw [hw2]; exact (Below.refl _ _).alloc (Nat.le_refl _) _
  rw [← hw2, ← hbx]
  have B1 : Hid (Below w1.heap.size w1 w2) := Lib.hid hBn
  clear hw2 hbx hBn
  clear g1
  have KW := Lib.hid (fun (A2 : Option Addr) (n2 c2 : Nat) (l2 : List Int) (W : World) (hW : Below w2.heap.size w2 W) (k2 : Rd w w.heap.size 1 encU A2 n2 l2) (u2 : U8s l2) => Warm_any rA wA bA cA rn rc wn wc bn bc cn cc A2 n2 c2 l2 W (by have := HR4.out; omega) (k2.next (below3 (below3 B0.out B1.out (Nat.le_refl _)) hW (Nat.le_refl _))) u2)
  have KD := Lib.hid (fun (A2 : Option Addr) (n2 c2 : Nat) (l2 : List Int) (W : World) (hW : Below w2.heap.size w2 W) (k2 : Rd w w.heap.size 1 encU A2 n2 l2) (u2 : U8s l2) => Cased_any rA wA bA cA rn rc wn wc bn bc cn cc A2 n2 c2 l2 W (by have := HR4.out; omega) (k2.next (below3 (below3 B0.out B1.out (Nat.le_refl _)) hW (Nat.le_refl _))) u2)
  have KS := Lib.hid (fun (A2 B2 : Option Addr) (c2 d2 : Nat) (La Lb : List Int) (W : World) => sorted_any A2 B2 rn c2 d2 La Lb W (by have := HR4.out; omega))
  have KC := Lib.hid (fun (A2 B2 : Option Addr) (c2 d2 : Nat) (La Lb : List Int) (o1 p1 o2 p2 : Int) (W : World) => classed_any A2 B2 rn c2 d2 La Lb o1 p1 o2 p2 W (by have := HR4.out; omega))
  refine wp_region_free10 11 (by kernel_rfl) [some 22, some 23, some 24, some 25, some 26, some 27, some 28, some 21, some 29, some 30, some 12, some 13] [[], [], [0, 1], [], [], [3, 4, 2], [2, 5, 5], [6], [7], [7], [8, 6, 0, 1, 2, 3, 4, 5, 6, 7, 8], [9, 10, 0, 1, 2, 3, 4, 5, 6, 7, 8, 9, 10]] [(11, .pointer (some ⟨bx, 0, none⟩)), (1, .slice A1 n1 c1), (2, .slice A2 n2 c2)] (fun W _ => Below w2.heap.size w2 W) (mo2Phi rn ( .agg #[.slice rA rn rc, .slice wA wn wc, .slice bA bn bc, .slice cA cn cc]) (.slice A1 n1 c1) (.slice A2 n2 c2)) (mo2Psi) (by kernel_rfl) (by kernel_rfl) rfl (by kernel_rfl) ?_ ?_ ⟨fun _ => 0, ⟨(Below.refl _ _).drew, fun i _ => fun _ => rfl⟩⟩ ?_ ?_
  · intro z hz
    simp only [List.mem_cons, List.mem_nil_iff, or_false] at hz
    rcases hz with rfl | rfl | rfl
    all_goals exact ⟨by kernel_rfl, rfl⟩
  · intro i v W γ hi h
    rcases i with _ | _ | _ | _ | _ | _ | _ | _ | _ | _ | _ | _ | i
    all_goals first | exact h | (simp at hi)
  · refine ⟨?_, ?_, ?_, ?_, ?_, ?_, ?_, ?_, ?_, ?_, ?_, ?_, trivial⟩
    all_goals
      intro a9 W γ ev hcc hff hfx hR hψ hpre
      simp only [List.mem_cons, List.mem_nil_iff, or_false, forall_eq, forall_eq_or_imp] at hfx
      obtain ⟨f0, f1, f2⟩ := hfx
      have HR := Lib.hid hR
      clear hR
    · refine ⟨fun hg K hK => ?_, trivial⟩
      clear hg
      have hbk := BX.out.below (HR.out) BX.out.lt
      have hzg := hbk.lt
      have e0 := hbk.cell 0
      have e1 := hbk.cell 1
      have e2 := hbk.cell 2
      have e3 := hbk.cell 3
      simp only [List.getElem?_toArray, List.getElem?_cons_zero, List.getElem?_cons_succ] at e0 e1 e2 e3
      clear hbk
      clear hpre hψ
      go_simp
      exact hK _ _ γ HR.out (fun _ _ _ _ h => h) (fun _ _ _ h => h) rfl
    · refine ⟨fun hg K hK => ?_, trivial⟩
      clear hg
      clear hpre hψ
      go_simp
      exact hK _ _ γ HR.out (fun _ _ _ _ h => h) (fun _ _ _ h => h) rfl
    · refine ⟨fun hg K hK => ?_, trivial⟩
      clear hg
      have q0 : ev (.tmp 22) = _ := hpre 0 (by decide)
      have q1 : ev (.tmp 23) = _ := hpre 1 (by decide)
      have C := Lib.hid (KW.out A1 n1 c1 l1 W HR.out K1.out U1.out)
      have HX := Lib.hid HR.out
      have HP := Lib.hid hψ
      clear hpre hψ
      go_simp
      refine C.out.mono ?_
      rintro e w7 ⟨A9, c9, L9, rfl, ho9, hl9, hb9, hB9⟩
      have hrd := row_rd (f := encI) (size := 1) (fun _ => rfl) hl9 ho9
      exact hK _ w7 γ (below3 HX.out hB9 (Nat.le_refl _)) (fun j u hj hne h => mo2Phi_next hB9 (Or.inr rfl) h) (fun _ _ _ h => h) ⟨A9, c9, L9, rfl, ⟨hl9, hb9⟩, hrd⟩
    · refine ⟨fun hg K hK => ?_, trivial⟩
      clear hg
      have hbk := BX.out.below (HR.out) BX.out.lt
      have hzg := hbk.lt
      have e0 := hbk.cell 0
      have e1 := hbk.cell 1
      have e2 := hbk.cell 2
      have e3 := hbk.cell 3
      simp only [List.getElem?_toArray, List.getElem?_cons_zero, List.getElem?_cons_succ] at e0 e1 e2 e3
      clear hbk
      clear hpre hψ
      go_simp
      exact hK _ _ γ HR.out (fun _ _ _ _ h => h) (fun _ _ _ h => h) rfl
    · refine ⟨fun hg K hK => ?_, trivial⟩
      clear hg
      clear hpre hψ
      go_simp
      exact hK _ _ γ HR.out (fun _ _ _ _ h => h) (fun _ _ _ h => h) rfl
    · refine ⟨fun hg K hK => ?_, trivial⟩
      clear hg
      have q0 : ev (.tmp 25) = _ := hpre 3 (by decide)
      have q1 : ev (.tmp 26) = _ := hpre 4 (by decide)
      have C := Lib.hid (KW.out A2 n2 c2 l2 W HR.out K2.out U2.out)
      have HX := Lib.hid HR.out
      have HP := Lib.hid hψ
      clear hpre hψ
      go_simp
      refine C.out.mono ?_
      rintro e w7 ⟨A9, c9, L9, rfl, ho9, hl9, hb9, hB9⟩
      have hrd := row_rd (f := encI) (size := 1) (fun _ => rfl) hl9 ho9
      exact hK _ w7 γ (below3 HX.out hB9 (Nat.le_refl _)) (fun j u hj hne h => mo2Phi_next hB9 (Or.inr rfl) h) (fun _ _ _ h => h) ⟨A9, c9, L9, rfl, ⟨hl9, hb9⟩, hrd⟩
    · refine ⟨fun hg K hK => ?_, trivial⟩
      clear hg
      have h19 : γ 19 = 0 := hψ rfl
      obtain ⟨A7, c7, L7, q2, t7, r7⟩ := hpre 2 (by decide)
      obtain ⟨A8, c8, L8, q5, t8, r8⟩ := hpre 5 (by decide)
      replace q2 : ev (.tmp 24) = _ := q2
      replace q5 : ev (.tmp 27) = _ := q5
      have C := Lib.hid (KS.out A7 A8 c7 c8 L7 L8 W r7 r8)
      have HX := Lib.hid (And.intro HR.out (And.intro h19 (And.intro t7 t8)))
      clear hpre hψ h19 t7 t8 r7 r8
      go_simp
      refine C.out.mono ?_
      rintro e w7 ⟨lb9, hb9, lc9, hc9, rfl, hl9, hh9, hB9⟩
      obtain ⟨h0, h19, t7, t8⟩ := HX.out
      refine hK _ w7 (fun i => if i = 19 then 1 else if i = 20 then lb9 else if i = 21 then hb9 else if i = 22 then lc9 else if i = 23 then hc9 else γ i) (below3 h0 hB9 (Nat.le_refl _)) (fun j u hj hne h => mo2Phi_next hB9 (Or.inl h19) h) (fun _ j h1 h2 => fun e => ?_) ⟨⟨by simp, by simp⟩, L7, L8, t7, t8, by simpa using hl9, by simpa using hh9⟩
      exact absurd e h1
    · refine ⟨fun hg K hK => ?_, trivial⟩
      clear hg
      have h6 := hpre 6 (by decide)
      have q0 : ev (.tmp 28) = _ := h6.1.1
      have hf : γ 19 = 1 := h6.1.2
      have HF := Lib.hid hf
      clear hpre hψ hf h6
      go_simp
      exact hK _ _ γ HR.out (fun _ _ _ _ h => h) (fun _ _ _ h => h) ⟨rfl, HF.out⟩
    · refine ⟨fun hg K hK => ?_, trivial⟩
      clear hg
      have h7 := hpre 7 (by decide)
      have q0 : ev (.tmp 21) = _ := h7.1
      have hf : γ 19 = 1 := h7.2
      have HF := Lib.hid hf
      clear hpre hψ hf h7
      go_simp
      exact hK _ _ γ HR.out (fun _ _ _ _ h => h) (fun _ _ _ h => h) ⟨rfl, HF.out⟩
    · refine ⟨fun hg K hK => ?_, trivial⟩
      clear hg
      have h7 := hpre 7 (by decide)
      have q0 : ev (.tmp 21) = _ := h7.1
      have hf : γ 19 = 1 := h7.2
      have HF := Lib.hid hf
      clear hpre hψ hf h7
      go_simp
      exact hK _ _ γ HR.out (fun _ _ _ _ h => h) (fun _ _ _ h => h) ⟨rfl, HF.out⟩
    · refine ⟨fun hg K hK => ?_, trivial⟩
      clear hg
      have h8 := hpre 8 (by decide)
      have q0 : ev (.tmp 29) = _ := h8.1
      have hf : γ 19 = 1 := h8.2
      have HF := Lib.hid hf
      clear hpre hψ hf h8
      go_simp
      exact hK _ _ γ HR.out (fun _ _ _ _ h => h) (fun _ _ _ h => h) ⟨rfl, HF.out⟩
    · refine ⟨fun hg K hK => ?_, trivial⟩
      clear hg
      have h9 := hpre 9 (by decide)
      have q0 : ev (.tmp 30) = _ := h9.1
      have hf : γ 19 = 1 := h9.2
      have HF := Lib.hid hf
      clear hpre hψ hf h9
      go_simp
      exact hK _ _ γ HR.out (fun _ _ _ _ h => h) (fun _ _ _ h => h) ⟨rfl, HF.out⟩
  · intro vs w3 γ hvl hR hφ
    have q6 := hφ 6 (by decide)
    have q10 := hφ 10 (by decide)
    have q11 := hφ 11 (by decide)
    have HR := Lib.hid hR
    clear hφ hR
    match vs, hvl with
    | [y0, y1, y2, y3, y4, y5, y6, y7, y8, y9, y10, y11], _ =>
    simp only [List.getD_cons_zero, List.getD_cons_succ] at q6 q10 q11
    obtain ⟨q6, La, Lb, t7, t8, r7, r8⟩ := q6
    obtain ⟨lb, hlb⟩ : ∃ z, z = γ 20 := ⟨_, rfl⟩
    obtain ⟨hb, hhb⟩ : ∃ z, z = γ 21 := ⟨_, rfl⟩
    obtain ⟨lc, hlc⟩ : ∃ z, z = γ 22 := ⟨_, rfl⟩
    obtain ⟨hc, hhc⟩ : ∃ z, z = γ 23 := ⟨_, rfl⟩
    replace q10 : y10 = .slice (some ⟨γ 20, 0, none⟩) rn (γ 22) ∧ γ 19 = 1 := q10
    replace q11 : y11 = .slice (some ⟨γ 21, 0, none⟩) rn (γ 23) ∧ γ 19 = 1 := q11
    rw [← hlb, ← hlc] at q10
    rw [← hhb, ← hhc] at q11
    rw [← hlb] at r7
    rw [← hhb] at r8
    have HT := Lib.hid (And.intro t7 t8)
    have RL := Lib.hid r7
    have RH := Lib.hid r8
    have e10 := q10.1
    have e11 := q11.1
    have hB := HR.out
    have B2 : Hid (Below w2.heap.size w2 w3) := Lib.hid hB
    clear HR t7 t8 r7 r8 q6 q10 q11 hlb hhb hlc hhc hB
    simp [putAll, e10, e11]
    clear e10 e11
    go_wp2_with fail
    refine wp_region_free10 8 (by kernel_rfl) [some 31, some 32, some 33, some 34, some 35, some 36, some 37, some 14, none] [[], [], [0, 1], [], [], [3, 4, 2], [2, 5, 5], [], [7, 6, 6, 0, 1, 2, 3, 4, 5, 6, 7]] [(11, .pointer (some ⟨bx, 0, none⟩)), (3, .slice A3 n3 c3), (4, .slice A4 n4 c4)] (fun W _ => Below w3.heap.size w3 W) (mo3Phi w3 rn ( .agg #[.slice rA rn rc, .slice wA wn wc, .slice bA bn bc, .slice cA cn cc]) (.slice A3 n3 c3) (.slice A4 n4 c4)) (mo3Psi) (by kernel_rfl) (by kernel_rfl) rfl (by kernel_rfl) ?_ ?_ ⟨fun _ => 0, ⟨(Below.refl _ _).drew, fun i _ => fun _ => rfl⟩⟩ ?_ ?_
    · intro z hz
      simp only [List.mem_cons, List.mem_nil_iff, or_false] at hz
      rcases hz with rfl | rfl | rfl
      all_goals exact ⟨by kernel_rfl, rfl⟩
    · intro i v W γ hi h
      rcases i with _ | _ | _ | _ | _ | _ | _ | _ | _ | i
      all_goals first | exact h | (simp at hi)
    · refine ⟨?_, ?_, ?_, ?_, ?_, ?_, ?_, ?_, ?_, trivial⟩
      all_goals
        intro a9 W γ ev hcc hff hfx hR hψ hpre
        simp only [List.mem_cons, List.mem_nil_iff, or_false, forall_eq, forall_eq_or_imp] at hfx
        obtain ⟨f0, f1, f2⟩ := hfx
        have HR := Lib.hid hR
        clear hR
      · refine ⟨fun hg K hK => ?_, trivial⟩
        clear hg
        have hbk := BX.out.below (below3 B2.out HR.out (Nat.le_refl _)) BX.out.lt
        have hzg := hbk.lt
        have e0 := hbk.cell 0
        have e1 := hbk.cell 1
        have e2 := hbk.cell 2
        have e3 := hbk.cell 3
        simp only [List.getElem?_toArray, List.getElem?_cons_zero, List.getElem?_cons_succ] at e0 e1 e2 e3
        clear hbk
        clear hpre hψ
        go_simp
        exact hK _ _ γ HR.out (fun _ _ _ _ h => h) (fun _ _ _ h => h) rfl
      · refine ⟨fun hg K hK => ?_, trivial⟩
        clear hg
        clear hpre hψ
        go_simp
        exact hK _ _ γ HR.out (fun _ _ _ _ h => h) (fun _ _ _ h => h) rfl
      · refine ⟨fun hg K hK => ?_, trivial⟩
        clear hg
        have q0 : ev (.tmp 31) = _ := hpre 0 (by decide)
        have q1 : ev (.tmp 32) = _ := hpre 1 (by decide)
        have C := Lib.hid (KD.out A3 n3 c3 l3 W (below3 B2.out HR.out (Nat.le_refl _)) K3.out U3.out)
        have HX := Lib.hid HR.out
        have HP := Lib.hid hψ
        clear hpre hψ
        go_simp
        refine C.out.mono ?_
        rintro e w7 ⟨A9, c9, o9, p9, L9, rfl, ho9, hl9, hb9, hop9, hB9⟩
        obtain ⟨b9, hrd⟩ := row_of hl9 ho9
        exact hK _ w7 γ (below3 HX.out hB9 (Nat.le_refl _)) (fun j u hj hne h => mo3Phi_next hB9 (fun _ => ⟨rfl, rfl⟩) h) (fun _ _ _ h => h) ⟨A9, b9, c9, o9, p9, L9, rfl, ⟨hl9, hb9, hop9.1, hop9.2⟩, hrd⟩
      · refine ⟨fun hg K hK => ?_, trivial⟩
        clear hg
        have hbk := BX.out.below (below3 B2.out HR.out (Nat.le_refl _)) BX.out.lt
        have hzg := hbk.lt
        have e0 := hbk.cell 0
        have e1 := hbk.cell 1
        have e2 := hbk.cell 2
        have e3 := hbk.cell 3
        simp only [List.getElem?_toArray, List.getElem?_cons_zero, List.getElem?_cons_succ] at e0 e1 e2 e3
        clear hbk
        clear hpre hψ
        go_simp
        exact hK _ _ γ HR.out (fun _ _ _ _ h => h) (fun _ _ _ h => h) rfl
      · refine ⟨fun hg K hK => ?_, trivial⟩
        clear hg
        clear hpre hψ
        go_simp
        exact hK _ _ γ HR.out (fun _ _ _ _ h => h) (fun _ _ _ h => h) rfl
      · refine ⟨fun hg K hK => ?_, trivial⟩
        clear hg
        have q0 : ev (.tmp 34) = _ := hpre 3 (by decide)
        have q1 : ev (.tmp 35) = _ := hpre 4 (by decide)
        have C := Lib.hid (KD.out A4 n4 c4 l4 W (below3 B2.out HR.out (Nat.le_refl _)) K4.out U4.out)
        have HX := Lib.hid HR.out
        have HP := Lib.hid hψ
        clear hpre hψ
        go_simp
        refine C.out.mono ?_
        rintro e w7 ⟨A9, c9, o9, p9, L9, rfl, ho9, hl9, hb9, hop9, hB9⟩
        obtain ⟨b9, hrd⟩ := row_of hl9 ho9
        exact hK _ w7 γ (below3 HX.out hB9 (Nat.le_refl _)) (fun j u hj hne h => mo3Phi_next hB9 (fun _ => ⟨rfl, rfl⟩) h) (fun _ _ _ h => h) ⟨A9, b9, c9, o9, p9, L9, rfl, ⟨hl9, hb9, hop9.1, hop9.2⟩, hrd⟩
      · refine ⟨fun hg K hK => ?_, trivial⟩
        clear hg
        obtain ⟨A7, b7, c7, o7, p7, L7, q2, t7, r7⟩ := hpre 2 (by decide)
        obtain ⟨A8, b8, c8, o8, p8, L8, q5, t8, r8⟩ := hpre 5 (by decide)
        have r7 := r7.rd (fun _ => rfl) t7.1 (size := 1)
        have r8 := r8.rd (fun _ => rfl) t8.1 (size := 1)
        replace q2 : ev (.tmp 33) = _ := q2
        replace q5 : ev (.tmp 36) = _ := q5
        have C := Lib.hid (KC.out A7 A8 c7 c8 L7 L8 o7 p7 o8 p8 W r7 r8)
        have HX := Lib.hid (And.intro HR.out (And.intro t7 t8))
        have HP := Lib.hid hψ
        clear hpre hψ t7 t8 r7 r8
        go_simp
        refine C.out.mono ?_
        rintro e w7 ⟨lb9, hb9, lc9, hc9, rfl, hl9, hh9, hB9⟩
        obtain ⟨h0, t7, t8⟩ := HX.out
        exact hK _ w7 γ (below3 h0 hB9 (Nat.le_refl _)) (fun j u hj hne h => mo3Phi_next hB9 (fun _ => ⟨rfl, rfl⟩) h) (fun _ _ _ h => h) ⟨⟨lb9, hb9, lc9, hc9, o7, p7, o8, p8, L7, L8⟩, rfl, t7, t8, hl9, hh9⟩
      · refine ⟨fun hg K hK => ?_, trivial⟩
        clear hg
        have HRW9 := HR
        have HP := Lib.hid hψ
        clear hpre hψ
        go_simp
        have hB5 : Below W.heap.size W (W.alloc (.cells #[.slice none 0 0, .int .i64 0, .int .i64 0, .slice none 0 0, .int .i64 0, .int .i64 0] 37)) := (Below.refl _ _).alloc (Nat.le_refl _) _
        refine hK _ _ (fun i => if i = 30 then W.heap.size else γ i) (below3 HRW9.out hB5 (Nat.le_refl _)) (fun j u hj hne h => mo3Phi_next hB5 (fun e => ?_) h) (fun _ _ _ h => by simpa [mo3Psi] using h) ⟨by simp, HRW9.out.size, fun _ => heap_alloc_new W _⟩
        rcases e with e | e
        · exact absurd e hne
        · subst e; exact absurd (by decide) hj
      · refine ⟨fun hg K hK => ?_, trivial⟩
        clear hg
        obtain ⟨q1, hw1, hb1⟩ := hpre 7 (by decide)
        obtain ⟨X, q0, hx⟩ := hpre 6 (by decide)
        replace q0 : ev (.tmp 37) = _ := q0
        replace q1 : ev (.tmp 14) = _ := q1
        have hb1 := hb1 (hψ rfl)
        obtain ⟨bb, hbb⟩ : ∃ z, z = γ 30 := ⟨_, rfl⟩
        rw [← hbb] at q1 hw1 hb1
        obtain ⟨lb9, hb9, lc9, hc9, o7, p7, o8, p8, L7, L8⟩ := X
        unfold ClsV.cells at q0
        dsimp only at q0
        have d0 := hb1.cell 0
        have d1 := hb1.cell 1
        have d2 := hb1.cell 2
        have d3 := hb1.cell 3
        have d4 := hb1.cell 4
        have d5 := hb1.cell 5
        simp only [List.getElem?_toArray, List.getElem?_cons_zero, List.getElem?_cons_succ] at d0 d1 d2 d3 d4 d5
        have zr := hb1.lt
        have fr := hb1.frozen
        obtain ⟨W', hW'⟩ : ∃ z, z = ((((((W.setCell ⟨bb, 0, none⟩ (.slice (some ⟨lb9, 0, none⟩) rn lc9)).setCell ⟨bb, 1, none⟩ (.int .i64 (min o7 o8))).setCell ⟨bb, 2, none⟩ (.int .i64 (max p7 p8))).setCell ⟨bb, 3, none⟩ (.slice (some ⟨hb9, 0, none⟩) rn hc9)).setCell ⟨bb, 4, none⟩ (.int .i64 (max o7 o8))).setCell ⟨bb, 5, none⟩ (.int .i64 (min p7 p8))) := ⟨_, rfl⟩
        have hkk : Keep (fun b => b = bb) W W' := by rw [hW']; exact (((((((Keep.refl (fun b => b = bb) W).setCell rfl _).setCell rfl _).setCell rfl _).setCell rfl _).setCell rfl _).setCell rfl _)
        have hrow : Blk W' bb 37 #[.slice (some ⟨lb9, 0, none⟩) rn lc9, .int .i64 (min o7 o8), .int .i64 (max p7 p8), .slice (some ⟨hb9, 0, none⟩) rn hc9, .int .i64 (max o7 o8), .int .i64 (min p7 p8)] := by
          have h := ((((((hb1.set_ 0 (.slice (some ⟨lb9, 0, none⟩) rn lc9)).set_ 1 (.int .i64 (min o7 o8))).set_ 2 (.int .i64 (max p7 p8))).set_ 3 (.slice (some ⟨hb9, 0, none⟩) rn hc9)).set_ 4 (.int .i64 (max o7 o8))).set_ 5 (.int .i64 (min p7 p8)))
          rw [hW']
          simpa using h
        have HX := Lib.hid (And.intro hrow (And.intro hx (And.intro hbb (And.intro hkk (And.intro hb1 (And.intro hw1 hW'))))))
        clear hpre hψ hrow hx hbb hw1 hkk hb1 hW'
        go_simp
        obtain ⟨hrow, hx, hbb, hkk, hb1, hw1, hW'⟩ := HX.out
        rw [← hW']
        have h0 := HR.out
        refine hK undef _ (fun i => if i = 20 then 1 else γ i) (h0.trans (hkk.below h0.size (fun b e => by rw [e]; exact hw1))) (fun j u h1 h2 h3 => ?_) (fun h => absurd rfl h) ⟨⟨lb9, hb9, lc9, hc9, o7, p7, o8, p8, L7, L8⟩, by simpa [← hbb, ClsV.cells] using hrow, hx.apart hkk hb1 (by decide)⟩
        exact mo3Phi_store ⟨Below.refl _ _, hkk.size⟩ hkk hb1 ⟨by simp, by simp⟩ h2 h3
    · intro vs w4 γ hvl hR hφ
      have q7 := hφ 7 (by decide)
      have q8 := hφ 8 (by decide)
      have HR := Lib.hid hR
      clear hφ hR
      match vs, hvl with
      | [y0, y1, y2, y3, y4, y5, y6, y7, y8], _ =>
      simp only [List.getD_cons_zero, List.getD_cons_succ] at q7 q8
      obtain ⟨q7, hxw, _⟩ := q7
      obtain ⟨X, hbx, hx⟩ := q8
      obtain ⟨kb, hkb⟩ : ∃ z, z = γ 30 := ⟨_, rfl⟩
      rw [← hkb] at q7 hbx
      obtain ⟨lo9, ho9, lc9, hc9, o1, p1, o2, p2, Lc, Ld⟩ := X
      have B3 : Hid (Below w3.heap.size w3 w4) := Lib.hid HR.out
      have KB : Hid (Blk w4 kb 37 #[.slice (some ⟨lo9, 0, none⟩) rn lc9, .int .i64 (min o1 o2), .int .i64 (max p1 p2), .slice (some ⟨ho9, 0, none⟩) rn hc9, .int .i64 (max o1 o2), .int .i64 (min p1 p2)]) := Lib.hid hbx
      have CX := Lib.hid hx
      have HTL : Hid ((mnL La Lb).length = rn ∧ (mxL La Lb).length = rn ∧ (mnL Lc Ld).length = rn ∧ (mxL Lc Ld).length = rn) := Lib.hid ⟨by rw [mnL_len]; exact HT.out.1.1, by rw [mxL_len]; exact HT.out.1.1, by rw [mnL_len]; exact CX.out.a.1, by rw [mxL_len]; exact CX.out.a.1⟩
      have HTB := Lib.hid (mnL_bd HT.out.1.1 HT.out.2.1 HT.out.1.2 HT.out.2.2)
      have HLB := Lib.hid (mnL_bd CX.out.a.1 CX.out.b.1 CX.out.a.2.1 CX.out.b.2.1)
      have HOP : Hid ((0 ≤ min o1 o2 ∧ min o1 o2 ≤ 1000000) ∧ (0 ≤ max p1 p2 ∧ max p1 p2 ≤ 100000) ∧ (0 ≤ max o1 o2 ∧ max o1 o2 ≤ 1000000) ∧ (0 ≤ min p1 p2 ∧ min p1 p2 ≤ 100000) ∧ min o1 o2 ≤ max o1 o2 ∧ min p1 p2 ≤ max p1 p2) := Lib.hid (by have h1 := CX.out.a.2.2; have h2 := CX.out.b.2.2; dsimp only at h1 h2; omega)
      clear HR hbx hx hxw hkb
      simp [putAll, q7]
      clear q7
      have hbk := BX.out.below (below3 B2.out B3.out (Nat.le_refl _)) BX.out.lt
      have ca0 := hbk.cell 0
      have ca1 := hbk.cell 1
      have ca2 := hbk.cell 2
      have ca3 := hbk.cell 3
      simp only [List.getElem?_toArray, List.getElem?_cons_zero, List.getElem?_cons_succ] at ca0 ca1 ca2 ca3
      have zca := hbk.lt
      clear hbk
      have hbk := KB.out.below (Below.refl w4.heap.size w4) KB.out.lt
      have cb0 := hbk.cell 0
      have cb1 := hbk.cell 1
      have cb2 := hbk.cell 2
      have cb3 := hbk.cell 3
      have cb4 := hbk.cell 4
      have cb5 := hbk.cell 5
      simp only [List.getElem?_toArray, List.getElem?_cons_zero, List.getElem?_cons_succ] at cb0 cb1 cb2 cb3 cb4 cb5
      have zcb := hbk.lt
      clear hbk
      have N1 := Lib.hid (Next_any rA wA bA cA (some ⟨lo9, 0, none⟩) (some ⟨lb, 0, none⟩) rn rc wn wc bn bc cn cc lc9 lc (min o1 o2) (max p1 p2) h (mnL La Lb) (mnL Lc Ld) w4 (I1.out.next (below3 (below3 B1.out B2.out (Nat.le_refl _)) B3.out (Nat.le_refl _))) M.out.ok HOP.out.1 HOP.out.2.1 ((RL.out.below9 B3.out).rd (fun _ => rfl) HTL.out.1 (size := 1)) (fun y hy => by have := HTB.out.1 y hy; omega) (CX.out.l.rd (fun _ => rfl) HTL.out.2.2.1 (size := 1)) (fun y hy => by have := HLB.out.1 y hy; omega))
      go_wp2_with fail
      refine (N1.out).mono ?_
      rintro e w5 ⟨xb, rfl, hx, _, hB⟩
      have B4 : Hid (Below w4.heap.size w4 w5) := Lib.hid hB
      clear hB
      have XB := Lib.hid hx
      clear hx ca0 ca1 ca2 ca3 zca cb0 cb1 cb2 cb3 cb4 cb5 zcb N1
      have hbk := BX.out.below (below3 (below3 B2.out B3.out (Nat.le_refl _)) B4.out (Nat.le_refl _)) BX.out.lt
      have ca0 := hbk.cell 0
      have ca1 := hbk.cell 1
      have ca2 := hbk.cell 2
      have ca3 := hbk.cell 3
      simp only [List.getElem?_toArray, List.getElem?_cons_zero, List.getElem?_cons_succ] at ca0 ca1 ca2 ca3
      have zca := hbk.lt
      clear hbk
      have hbk := KB.out.below B4.out KB.out.lt
      have cb0 := hbk.cell 0
      have cb1 := hbk.cell 1
      have cb2 := hbk.cell 2
      have cb3 := hbk.cell 3
      have cb4 := hbk.cell 4
      have cb5 := hbk.cell 5
      simp only [List.getElem?_toArray, List.getElem?_cons_zero, List.getElem?_cons_succ] at cb0 cb1 cb2 cb3 cb4 cb5
      have zcb := hbk.lt
      clear hbk
      have N2 := Lib.hid (Next_any rA wA bA cA (some ⟨ho9, 0, none⟩) (some ⟨hb, 0, none⟩) rn rc wn wc bn bc cn cc hc9 hc (max o1 o2) (min p1 p2) h (mxL La Lb) (mxL Lc Ld) w5 (I1.out.next (below3 (below3 (below3 B1.out B2.out (Nat.le_refl _)) B3.out (Nat.le_refl _)) B4.out (Nat.le_refl _))) M.out.ok HOP.out.2.2.1 HOP.out.2.2.2.1 (((RH.out.below9 B3.out).below9 B4.out).rd (fun _ => rfl) HTL.out.2.1 (size := 1)) (fun y hy => by have := HTB.out.2 y hy; omega) ((CX.out.h.below9 B4.out).rd (fun _ => rfl) HTL.out.2.2.2 (size := 1)) (fun y hy => by have := HLB.out.2 y hy; omega))
      go_wp2_with fail
      refine (N2.out).mono ?_
      rintro e w6 ⟨yb, rfl, hy, _, hB⟩
      have B5 : Hid (Below w5.heap.size w5 w6) := Lib.hid hB
      clear hB
      have YB := Lib.hid hy
      clear hy ca0 ca1 ca2 ca3 zca cb0 cb1 cb2 cb3 cb4 cb5 zcb N2
      have HXL : Hid ((nxL h (mnL La Lb) (mnL Lc Ld) (min o1 o2) (max p1 p2)).length = rn ∧ (nxL h (mxL La Lb) (mxL Lc Ld) (max o1 o2) (min p1 p2)).length = rn) := Lib.hid ⟨by rw [nxL_len]; exact HRN.out, by rw [nxL_len]; exact HRN.out⟩
      have HT0 : Hid ((∀ i, 0 ≤ (mnL La Lb).getD i 0) ∧ ∀ i, 0 ≤ (mnL Lc Ld).getD i 0) := Lib.hid ⟨getD_nonneg (by omega) HTB.out.1, getD_nonneg (by omega) HLB.out.1⟩
      have HT1 : Hid ((∀ i, 0 ≤ (mxL La Lb).getD i 0) ∧ ∀ i, 0 ≤ (mxL Lc Ld).getD i 0) := Lib.hid ⟨getD_nonneg (by omega) HTB.out.2, getD_nonneg (by omega) HLB.out.2⟩
      have hle : leB (nxL h (mnL La Lb) (mnL Lc Ld) (min o1 o2) (max p1 p2)) (nxL h (mxL La Lb) (mxL Lc Ld) (max o1 o2) (min p1 p2)) = true := nxL_below M.out.ok HOP.out.2.1 HOP.out.2.2.2.1 HOP.out.1.1 HOP.out.2.2.2.2.2 HOP.out.2.2.2.2.1 HT0.out.1 HT0.out.2 (mn_le_mx _ _) (mn_le_mx _ _)
      have C := Lib.hid (below_any (some ⟨xb, 0, none⟩) (some ⟨yb, 0, none⟩) rn rn rn _ _ w6 (by have := HR4.out; omega) (Blk.rdI9 (XB.out.below B5.out XB.out.lt) HXL.out.1) (Blk.rdI9 YB.out HXL.out.2))
      rw [hle] at C
      clear hle
      go_wp2_with fail
      refine (C.out).mono ?_
      rintro e w7 ⟨rfl, hB⟩
      have B6 : Hid (Below w6.heap.size w6 w7) := Lib.hid hB
      clear hB
      clear C
      have HXB : Hid (Blk w7 xb 3 (intsA (nxL h (mnL La Lb) (mnL Lc Ld) (min o1 o2) (max p1 p2)))) := Lib.hid (XB.out.below (below3 B5.out B6.out (Nat.le_refl _)) XB.out.lt)
      have HYB : Hid (Blk w7 yb 3 (intsA (nxL h (mxL La Lb) (mxL Lc Ld) (max o1 o2) (min p1 p2)))) := Lib.hid (YB.out.below B6.out YB.out.lt)
      have C := Lib.hid (Min_any (some ⟨xb, 0, none⟩) rn rn _ w7 (Blk.rdI9 HXB.out HXL.out.1) HR4.out.1 (by have := HR4.out; omega))
      go_wp2_with fail
      refine C.out.mono ?_
      rintro e w8 ⟨mn, rfl, hmn, hB⟩
      have B7 : Hid (Below w7.heap.size w7 w8) := Lib.hid hB
      have hm0 : 0 ≤ mn := by
        obtain ⟨i, hi9, e⟩ := hmn.1
        rw [nxL_get (by rw [HRN.out]; exact hi9)] at e
        cases e
        exact (nxV_bd M.out.ok HOP.out.2.1 HOP.out.1.1 HT0.out.1 HT0.out.2 (by rw [HRN.out]; exact hi9)).1
      have t4 : decide (0 ≤ mn) = true := decide_eq_true hm0
      clear C hmn hB
      have C := Lib.hid (Max_any (some ⟨yb, 0, none⟩) rn rn _ w8 (Blk.rdI9 (HYB.out.below B7.out HYB.out.lt) HXL.out.2) HR4.out.1 (by have := HR4.out; omega))
      go_wp2_with fail
      refine C.out.mono ?_
      rintro e w9 ⟨mx, rfl, hmx, hB⟩
      have B8 : Hid (Below w8.heap.size w8 w9) := Lib.hid hB
      have hx0 : mx ≤ 1000000 := by
        obtain ⟨i, hi9, e⟩ := hmx.1
        rw [nxL_get (by rw [HRN.out]; exact hi9)] at e
        cases e
        exact (nxV_bd M.out.ok HOP.out.2.2.2.1 HOP.out.2.2.1.1 HT1.out.1 HT1.out.2 (by rw [HRN.out]; exact hi9)).2
      have t5 : decide (mx ≤ 1000000) = true := decide_eq_true hx0
      clear C hmx hB
      go_wp2_with fail
      refine (KA.out _).mono ?_
      rintro e w10 ⟨rfl, hB⟩
      have HF : Hid (Below w.heap.size w w10) := Lib.hid (below3 (below3 (below3 (below3 (below3 (below3 (below3 (below3 (below3 B0.out B1.out (Nat.le_refl _)) B2.out (Nat.le_refl _)) B3.out (Nat.le_refl _)) B4.out (Nat.le_refl _)) B5.out (Nat.le_refl _)) B6.out (Nat.le_refl _)) B7.out (Nat.le_refl _)) B8.out (Nat.le_refl _)) hB (Nat.le_refl _))
      clear hB
      go_wp2
      go_ret
      exact ⟨rfl, HF.out⟩
end Go.Proofs.Ytndlbjcakfhdiaa
