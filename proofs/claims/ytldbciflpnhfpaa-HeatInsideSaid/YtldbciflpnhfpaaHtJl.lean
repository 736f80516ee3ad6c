/- law07: HeatInside. -/
import Derived.Test.YtldbciflpnhfpaaHtJa

set_option linter.unusedSimpArgs false
set_option linter.unusedVariables false
namespace Go.Proofs.Ytldbciflpnhfpaa
open Go.RowKit

set_option maxRecDepth 100000 in
set_option maxHeartbeats 16000000 in
theorem insideLaw_any (A0 A1 A2 A3 A4 A5 A6 : Option Addr) (n0 c0 n1 c1 n2 c2 n3 c3 n4 c4 n5 c5 n6 c6 : Nat) (l0 l1 l2 l3 l4 l6 : List Int) (xs5 : List (Ls × List Int)) (w : World) (k0 : Rd w w.heap.size 1 encU A0 n0 l0) (k1 : Rd w w.heap.size 1 encU A1 n1 l1) (k2 : Rd w w.heap.size 1 encU A2 n2 l2) (k3 : Rd w w.heap.size 1 encU A3 n3 l3) (k4 : Rd w w.heap.size 1 encU A4 n4 l4) (k6 : Rd w w.heap.size 1 encU A6 n6 l6) (b0 : U8s l0) (b1 : U8s l1) (b2 : U8s l2) (b3 : U8s l3) (b4 : U8s l4) (b6 : U8s l6) (k5 : Rd w w.heap.size 1 Ls.enc A5 n5 (xs5.map Prod.fst)) (b5 : ∀ x ∈ xs5, Rd w w.heap.size 1 encU x.1.A x.1.n x.2 ∧ U8s x.2) (m5 : n5 ≤ c5) :
    Calls Try.prog 4 #[.slice A0 n0 c0, .slice A1 n1 c1, .slice A2 n2 c2, .slice A3 n3 c3, .slice A4 n4 c4, .slice A5 n5 c5, .slice A6 n6 c6] w fun e w' => e = .returned (.bool true) ∧ Below w.heap.size w w' := by
  have KM := Lib.hid (Made_any A0 n0 c0 l0 w k0 b0)
  have KA := Lib.hid awake_any
  have HC5 := Lib.hid (And.intro k5 (And.intro b5 m5))
  clear k5 b5 m5
  have K1 := Lib.hid k1
  have U1 := Lib.hid b1
  have K2 := Lib.hid k2
  have U2 := Lib.hid b2
  have K3 := Lib.hid k3
  have U3 := Lib.hid b3
  have K4 := Lib.hid k4
  have U4 := Lib.hid b4
  have K6 := Lib.hid k6
  have U6 := Lib.hid b6
  clear k0 b0 k1 b1 k2 b2 k3 b3 k4 b4 k6 b6
  go_enter Try.func4, Try.ntmps4
  go_wp2_with fail
  refine KM.out.mono ?_
  rintro e w1 ⟨rA, wA, bA, cA, rc, wc, bc, cc, h, rfl, m⟩
  have hB := m.low
  have M := Lib.hid m
  have B0 : Hid (Below w.heap.size w w1) := Lib.hid hB
  clear hB m
  obtain ⟨rn, hrn⟩ : ∃ z, z = h.rooms.length := ⟨_, rfl⟩
  obtain ⟨wn, hwn⟩ : ∃ z, z = h.walls.length := ⟨_, rfl⟩
  obtain ⟨bn, hbn⟩ : ∃ z, z = h.brs.length := ⟨_, rfl⟩
  obtain ⟨cn, hcn⟩ : ∃ z, z = h.crs.length := ⟨_, rfl⟩
  have I1 : Hid (HlIn w1 w1.heap.size ⟨rA, wA, bA, cA, rn, wn, bn, cn⟩ h) := Lib.hid (by rw [hrn, hwn, hbn, hcn]; exact M.out.inn)
  rw [← hrn, ← hwn, ← hbn, ← hcn]
  have HRN := Lib.hid hrn.symm
  have HWN := Lib.hid hwn.symm
  have HBN := Lib.hid hbn.symm
  have HCN := Lib.hid hcn.symm
  have HR4 : Hid (1 ≤ rn ∧ rn ≤ 4) := Lib.hid (by rw [hrn]; exact ⟨M.out.ok.n1, M.out.n4⟩)
  clear hrn hwn hbn hcn
  have g1 : w1.heap.size < w1.heap.size + 1 := by omega
  go_wp2_with fail
  obtain ⟨bx, hbx⟩ : ∃ z, z = w1.heap.size := ⟨_, rfl⟩
  obtain ⟨w2, hw2⟩ : ∃ z, z = w1.alloc (.cells #[.slice rA rn rc, .slice wA wn wc, .slice bA bn bc, .slice cA cn cc] 28) := ⟨_, rfl⟩
  have BX : Hid (Blk w2 bx 28 #[.slice rA rn rc, .slice wA wn wc, .slice bA bn bc, .slice cA cn cc]) := Lib.hid (by rw [hw2, hbx]; exact heap_alloc_new w1 _)
  have Sw2 : Hid (w2.heap.size = bx + 1) := Lib.hid (by rw [hw2, hbx, World.size_alloc])
  have Zbx : Hid (w1.heap.size ≤ bx) := Lib.hid (by rw [hbx]; exact Nat.le_refl _)
  have hBn : Below w1.heap.size w1 w2 := by rw [hw2]; exact (Below.refl _ _).alloc (Nat.le_refl _) _
  rw [← hw2, ← hbx]
  have B1 : Hid (Below w1.heap.size w1 w2) := Lib.hid hBn
  clear hw2 hbx hBn
  clear g1
  have KW := Lib.hid (fun (A2 : Option Addr) (n2 c2 : Nat) (l2 : List Int) (W : World) (hW : Below w2.heap.size w2 W) (k2 : Rd w w.heap.size 1 encU A2 n2 l2) (u2 : U8s l2) => Warm_any rA wA bA cA rn rc wn wc bn bc cn cc A2 n2 c2 l2 W (by have := HR4.out; omega) (k2.next (below3 (below3 B0.out B1.out (Nat.le_refl _)) hW (Nat.le_refl _))) u2)
  have KD := Lib.hid (fun (A2 : Option Addr) (n2 c2 : Nat) (l2 : List Int) (W : World) (hW : Below w2.heap.size w2 W) (k2 : Rd w w.heap.size 1 encU A2 n2 l2) (u2 : U8s l2) => Cased_any rA wA bA cA rn rc wn wc bn bc cn cc A2 n2 c2 l2 W (by have := HR4.out; omega) (k2.next (below3 (below3 B0.out B1.out (Nat.le_refl _)) hW (Nat.le_refl _))) u2)
  have KS := Lib.hid (fun (A2 B2 : Option Addr) (c2 d2 : Nat) (La Lb : List Int) (W : World) => sorted_any A2 B2 rn c2 d2 La Lb W (by have := HR4.out; omega))
  have KC := Lib.hid (fun (A2 B2 : Option Addr) (c2 d2 : Nat) (La Lb : List Int) (o1 p1 o2 p2 : Int) (W : World) => classed_any A2 B2 rn c2 d2 La Lb o1 p1 o2 p2 W (by have := HR4.out; omega))
  refine wp_region_free10 11 (by kernel_rfl) [some 47, some 48, some 49, some 50, some 51, some 52, some 53, some 46, some 54, some 55, some 16, some 17] [[], [], [0, 1], [], [], [3, 4, 2], [2, 5, 5], [6], [7], [7], [8, 6, 0, 1, 2, 3, 4, 5, 6, 7, 8], [9, 10, 0, 1, 2, 3, 4, 5, 6, 7, 8, 9, 10]] [(15, .pointer (some ⟨bx, 0, none⟩)), (1, .slice A1 n1 c1), (2, .slice A2 n2 c2)] (fun W _ => Below w2.heap.size w2 W) (mo2Phi rn ( .agg #[.slice rA rn rc, .slice wA wn wc, .slice bA bn bc, .slice cA cn cc]) (.slice A1 n1 c1) (.slice A2 n2 c2)) (mo2Psi) (by kernel_rfl) (by kernel_rfl) rfl (by kernel_rfl) ?_ ?_ ⟨fun _ => 0, ⟨(Below.refl _ _).drew, fun i _ => fun _ => rfl⟩⟩ ?_ ?_
  · intro z hz
    simp only [List.mem_cons, List.mem_nil_iff, or_false] at hz
    rcases hz with rfl | rfl | rfl
    all_goals exact ⟨by kernel_rfl, rfl⟩
  · intro i v W γ hi h
    rcases i with _ | _ | _ | _ | _ | _ | _ | _ | _ | _ | _ | _ | i
    all_goals first | exact h | (simp at hi)
  · refine ⟨?_, ?_, ?_, ?_, ?_, ?_, ?_, ?_, ?_, ?_, ?_, ?_, trivial⟩
    all_goals
      intro a9 W γ ev hcc hff hfx hR hψ hpre
      simp only [List.mem_cons, List.mem_nil_iff, or_false, forall_eq, forall_eq_or_imp] at hfx
      obtain ⟨f0, f1, f2⟩ := hfx
      have HR := Lib.hid hR
      clear hR
    · refine ⟨fun hg K hK => ?_, trivial⟩
      clear hg
      have hbk := BX.out.below (HR.out) BX.out.lt
      have hzg := hbk.lt
      have e0 := hbk.cell 0
      have e1 := hbk.cell 1
      have e2 := hbk.cell 2
      have e3 := hbk.cell 3
      simp only [List.getElem?_toArray, List.getElem?_cons_zero, List.getElem?_cons_succ] at e0 e1 e2 e3
      clear hbk
      clear hpre hψ
      go_simp
      exact hK _ _ γ HR.out (fun _ _ _ _ h => h) (fun _ _ _ h => h) rfl
    · refine ⟨fun hg K hK => ?_, trivial⟩
      clear hg
      clear hpre hψ
      go_simp
      exact hK _ _ γ HR.out (fun _ _ _ _ h => h) (fun _ _ _ h => h) rfl
    · refine ⟨fun hg K hK => ?_, trivial⟩
      clear hg
      have q0 : ev (.tmp 47) = _ := hpre 0 (by decide)
      have q1 : ev (.tmp 48) = _ := hpre 1 (by decide)
      have C := Lib.hid (KW.out A1 n1 c1 l1 W HR.out K1.out U1.out)
      have HX := Lib.hid HR.out
      have HP := Lib.hid hψ
      clear hpre hψ
      go_simp
      refine C.out.mono ?_
      rintro e w7 ⟨A9, c9, L9, rfl, ho9, hl9, hb9, hB9⟩
      have hrd := row_rd (f := encI) (size := 1) (fun _ => rfl) hl9 ho9
      exact hK _ w7 γ (below3 HX.out hB9 (Nat.le_refl _)) (fun j u hj hne h => mo2Phi_next hB9 (Or.inr rfl) h) (fun _ _ _ h => h) ⟨A9, c9, L9, rfl, ⟨hl9, hb9⟩, hrd⟩
    · refine ⟨fun hg K hK => ?_, trivial⟩
      clear hg
      have hbk := BX.out.below (HR.out) BX.out.lt
      have hzg := hbk.lt
      have e0 := hbk.cell 0
      have e1 := hbk.cell 1
      have e2 := hbk.cell 2
      have e3 := hbk.cell 3
      simp only [List.getElem?_toArray, List.getElem?_cons_zero, List.getElem?_cons_succ] at e0 e1 e2 e3
      clear hbk
      clear hpre hψ
      go_simp
      exact hK _ _ γ HR.out (fun _ _ _ _ h => h) (fun _ _ _ h => h) rfl
    · refine ⟨fun hg K hK => ?_, trivial⟩
      clear hg
      clear hpre hψ
      go_simp
      exact hK _ _ γ HR.out (fun _ _ _ _ h => h) (fun _ _ _ h => h) rfl
    · refine ⟨fun hg K hK => ?_, trivial⟩
      clear hg
      have q0 : ev (.tmp 50) = _ := hpre 3 (by decide)
      have q1 : ev (.tmp 51) = _ := hpre 4 (by decide)
      have C := Lib.hid (KW.out A2 n2 c2 l2 W HR.out K2.out U2.out)
      have HX := Lib.hid HR.out
      have HP := Lib.hid hψ
      clear hpre hψ
      go_simp
      refine C.out.mono ?_
      rintro e w7 ⟨A9, c9, L9, rfl, ho9, hl9, hb9, hB9⟩
      have hrd := row_rd (f := encI) (size := 1) (fun _ => rfl) hl9 ho9
      exact hK _ w7 γ (below3 HX.out hB9 (Nat.le_refl _)) (fun j u hj hne h => mo2Phi_next hB9 (Or.inr rfl) h) (fun _ _ _ h => h) ⟨A9, c9, L9, rfl, ⟨hl9, hb9⟩, hrd⟩
    · refine ⟨fun hg K hK => ?_, trivial⟩
      clear hg
      have h19 : γ 19 = 0 := hψ rfl
      obtain ⟨A7, c7, L7, q2, t7, r7⟩ := hpre 2 (by decide)
      obtain ⟨A8, c8, L8, q5, t8, r8⟩ := hpre 5 (by decide)
      replace q2 : ev (.tmp 49) = _ := q2
      replace q5 : ev (.tmp 52) = _ := q5
      have C := Lib.hid (KS.out A7 A8 c7 c8 L7 L8 W r7 r8)
      have HX := Lib.hid (And.intro HR.out (And.intro h19 (And.intro t7 t8)))
      clear hpre hψ h19 t7 t8 r7 r8
      go_simp
      refine C.out.mono ?_
      rintro e w7 ⟨lb9, hb9, lc9, hc9, rfl, hl9, hh9, hB9⟩
      obtain ⟨h0, h19, t7, t8⟩ := HX.out
      refine hK _ w7 (fun i => if i = 19 then 1 else if i = 20 then lb9 else if i = 21 then hb9 else if i = 22 then lc9 else if i = 23 then hc9 else γ i) (below3 h0 hB9 (Nat.le_refl _)) (fun j u hj hne h => mo2Phi_next hB9 (Or.inl h19) h) (fun _ j h1 h2 => fun e => ?_) ⟨⟨by simp, by simp⟩, L7, L8, t7, t8, by simpa using hl9, by simpa using hh9⟩
      exact absurd e h1
    · refine ⟨fun hg K hK => ?_, trivial⟩
      clear hg
      have h6 := hpre 6 (by decide)
      have q0 : ev (.tmp 53) = _ := h6.1.1
      have hf : γ 19 = 1 := h6.1.2
      have HF := Lib.hid hf
      clear hpre hψ hf h6
      go_simp
      exact hK _ _ γ HR.out (fun _ _ _ _ h => h) (fun _ _ _ h => h) ⟨rfl, HF.out⟩
    · refine ⟨fun hg K hK => ?_, trivial⟩
      clear hg
      have h7 := hpre 7 (by decide)
      have q0 : ev (.tmp 46) = _ := h7.1
      have hf : γ 19 = 1 := h7.2
      have HF := Lib.hid hf
      clear hpre hψ hf h7
      go_simp
      exact hK _ _ γ HR.out (fun _ _ _ _ h => h) (fun _ _ _ h => h) ⟨rfl, HF.out⟩
    · refine ⟨fun hg K hK => ?_, trivial⟩
      clear hg
      have h7 := hpre 7 (by decide)
      have q0 : ev (.tmp 46) = _ := h7.1
      have hf : γ 19 = 1 := h7.2
      have HF := Lib.hid hf
      clear hpre hψ hf h7
      go_simp
      exact hK _ _ γ HR.out (fun _ _ _ _ h => h) (fun _ _ _ h => h) ⟨rfl, HF.out⟩
    · refine ⟨fun hg K hK => ?_, trivial⟩
      clear hg
      have h8 := hpre 8 (by decide)
      have q0 : ev (.tmp 54) = _ := h8.1
      have hf : γ 19 = 1 := h8.2
      have HF := Lib.hid hf
      clear hpre hψ hf h8
      go_simp
      exact hK _ _ γ HR.out (fun _ _ _ _ h => h) (fun _ _ _ h => h) ⟨rfl, HF.out⟩
    · refine ⟨fun hg K hK => ?_, trivial⟩
      clear hg
      have h9 := hpre 9 (by decide)
      have q0 : ev (.tmp 55) = _ := h9.1
      have hf : γ 19 = 1 := h9.2
      have HF := Lib.hid hf
      clear hpre hψ hf h9
      go_simp
      exact hK _ _ γ HR.out (fun _ _ _ _ h => h) (fun _ _ _ h => h) ⟨rfl, HF.out⟩
  · intro vs w3 γ hvl hR hφ
    have q6 := hφ 6 (by decide)
    have q10 := hφ 10 (by decide)
    have q11 := hφ 11 (by decide)
    have HR := Lib.hid hR
    clear hφ hR
    match vs, hvl with
    | [y0, y1, y2, y3, y4, y5, y6, y7, y8, y9, y10, y11], _ =>
    simp only [List.getD_cons_zero, List.getD_cons_succ] at q6 q10 q11
    obtain ⟨q6, La, Lb, t7, t8, r7, r8⟩ := q6
    obtain ⟨lb, hlb⟩ : ∃ z, z = γ 20 := ⟨_, rfl⟩
    obtain ⟨hb, hhb⟩ : ∃ z, z = γ 21 := ⟨_, rfl⟩
    obtain ⟨lc, hlc⟩ : ∃ z, z = γ 22 := ⟨_, rfl⟩
    obtain ⟨hc, hhc⟩ : ∃ z, z = γ 23 := ⟨_, rfl⟩
    replace q10 : y10 = .slice (some ⟨γ 20, 0, none⟩) rn (γ 22) ∧ γ 19 = 1 := q10
    replace q11 : y11 = .slice (some ⟨γ 21, 0, none⟩) rn (γ 23) ∧ γ 19 = 1 := q11
    rw [← hlb, ← hlc] at q10
    rw [← hhb, ← hhc] at q11
    rw [← hlb] at r7
    rw [← hhb] at r8
    have HT := Lib.hid (And.intro t7 t8)
    have RL := Lib.hid r7
    have RH := Lib.hid r8
    have e10 := q10.1
    have e11 := q11.1
    have hB := HR.out
    have B2 : Hid (Below w2.heap.size w2 w3) := Lib.hid hB
    clear HR t7 t8 r7 r8 q6 q10 q11 hlb hhb hlc hhc hB
    simp [putAll, e10, e11]
    clear e10 e11
    go_wp2_with fail
    refine wp_region_free10 8 (by kernel_rfl) [some 56, some 57, some 58, some 59, some 60, some 61, some 62, some 18, none] [[], [], [0, 1], [], [], [3, 4, 2], [2, 5, 5], [], [7, 6, 6, 0, 1, 2, 3, 4, 5, 6, 7]] [(15, .pointer (some ⟨bx, 0, none⟩)), (3, .slice A3 n3 c3), (4, .slice A4 n4 c4)] (fun W _ => Below w3.heap.size w3 W) (mo3Phi w3 rn ( .agg #[.slice rA rn rc, .slice wA wn wc, .slice bA bn bc, .slice cA cn cc]) (.slice A3 n3 c3) (.slice A4 n4 c4)) (mo3Psi) (by kernel_rfl) (by kernel_rfl) rfl (by kernel_rfl) ?_ ?_ ⟨fun _ => 0, ⟨(Below.refl _ _).drew, fun i _ => fun _ => rfl⟩⟩ ?_ ?_
    · intro z hz
      simp only [List.mem_cons, List.mem_nil_iff, or_false] at hz
      rcases hz with rfl | rfl | rfl
      all_goals exact ⟨by kernel_rfl, rfl⟩
    · intro i v W γ hi h
      rcases i with _ | _ | _ | _ | _ | _ | _ | _ | _ | i
      all_goals first | exact h | (simp at hi)
    · refine ⟨?_, ?_, ?_, ?_, ?_, ?_, ?_, ?_, ?_, trivial⟩
      all_goals
        intro a9 W γ ev hcc hff hfx hR hψ hpre
        simp only [List.mem_cons, List.mem_nil_iff, or_false, forall_eq, forall_eq_or_imp] at hfx
        obtain ⟨f0, f1, f2⟩ := hfx
        have HR := Lib.hid hR
        clear hR
      · refine ⟨fun hg K hK => ?_, trivial⟩
        clear hg
        have hbk := BX.out.below (below3 B2.out HR.out (Nat.le_refl _)) BX.out.lt
        have hzg := hbk.lt
        have e0 := hbk.cell 0
        have e1 := hbk.cell 1
        have e2 := hbk.cell 2
        have e3 := hbk.cell 3
        simp only [List.getElem?_toArray, List.getElem?_cons_zero, List.getElem?_cons_succ] at e0 e1 e2 e3
        clear hbk
        clear hpre hψ
        go_simp
        exact hK _ _ γ HR.out (fun _ _ _ _ h => h) (fun _ _ _ h => h) rfl
      · refine ⟨fun hg K hK => ?_, trivial⟩
        clear hg
        clear hpre hψ
        go_simp
        exact hK _ _ γ HR.out (fun _ _ _ _ h => h) (fun _ _ _ h => h) rfl
      · refine ⟨fun hg K hK => ?_, trivial⟩
        clear hg
        have q0 : ev (.tmp 56) = _ := hpre 0 (by decide)
        have q1 : ev (.tmp 57) = _ := hpre 1 (by decide)
        have C := Lib.hid (KD.out A3 n3 c3 l3 W (below3 B2.out HR.out (Nat.le_refl _)) K3.out U3.out)
        have HX := Lib.hid HR.out
        have HP := Lib.hid hψ
        clear hpre hψ
        go_simp
        refine C.out.mono ?_
        rintro e w7 ⟨A9, c9, o9, p9, L9, rfl, ho9, hl9, hb9, hop9, hB9⟩
        obtain ⟨b9, hrd⟩ := row_of hl9 ho9
        exact hK _ w7 γ (below3 HX.out hB9 (Nat.le_refl _)) (fun j u hj hne h => mo3Phi_next hB9 (fun _ => ⟨rfl, rfl⟩) h) (fun _ _ _ h => h) ⟨A9, b9, c9, o9, p9, L9, rfl, ⟨hl9, hb9, hop9.1, hop9.2⟩, hrd⟩
      · refine ⟨fun hg K hK => ?_, trivial⟩
        clear hg
        have hbk := BX.out.below (below3 B2.out HR.out (Nat.le_refl _)) BX.out.lt
        have hzg := hbk.lt
        have e0 := hbk.cell 0
        have e1 := hbk.cell 1
        have e2 := hbk.cell 2
        have e3 := hbk.cell 3
        simp only [List.getElem?_toArray, List.getElem?_cons_zero, List.getElem?_cons_succ] at e0 e1 e2 e3
        clear hbk
        clear hpre hψ
        go_simp
        exact hK _ _ γ HR.out (fun _ _ _ _ h => h) (fun _ _ _ h => h) rfl
      · refine ⟨fun hg K hK => ?_, trivial⟩
        clear hg
        clear hpre hψ
        go_simp
        exact hK _ _ γ HR.out (fun _ _ _ _ h => h) (fun _ _ _ h => h) rfl
      · refine ⟨fun hg K hK => ?_, trivial⟩
        clear hg
        have q0 : ev (.tmp 59) = _ := hpre 3 (by decide)
        have q1 : ev (.tmp 60) = _ := hpre 4 (by decide)
        have C := Lib.hid (KD.out A4 n4 c4 l4 W (below3 B2.out HR.out (Nat.le_refl _)) K4.out U4.out)
        have HX := Lib.hid HR.out
        have HP := Lib.hid hψ
        clear hpre hψ
        go_simp
        refine C.out.mono ?_
        rintro e w7 ⟨A9, c9, o9, p9, L9, rfl, ho9, hl9, hb9, hop9, hB9⟩
        obtain ⟨b9, hrd⟩ := row_of hl9 ho9
        exact hK _ w7 γ (below3 HX.out hB9 (Nat.le_refl _)) (fun j u hj hne h => mo3Phi_next hB9 (fun _ => ⟨rfl, rfl⟩) h) (fun _ _ _ h => h) ⟨A9, b9, c9, o9, p9, L9, rfl, ⟨hl9, hb9, hop9.1, hop9.2⟩, hrd⟩
      · refine ⟨fun hg K hK => ?_, trivial⟩
        clear hg
        obtain ⟨A7, b7, c7, o7, p7, L7, q2, t7, r7⟩ := hpre 2 (by decide)
        obtain ⟨A8, b8, c8, o8, p8, L8, q5, t8, r8⟩ := hpre 5 (by decide)
        have r7 := r7.rd (fun _ => rfl) t7.1 (size := 1)
        have r8 := r8.rd (fun _ => rfl) t8.1 (size := 1)
        replace q2 : ev (.tmp 58) = _ := q2
        replace q5 : ev (.tmp 61) = _ := q5
        have C := Lib.hid (KC.out A7 A8 c7 c8 L7 L8 o7 p7 o8 p8 W r7 r8)
        have HX := Lib.hid (And.intro HR.out (And.intro t7 t8))
        have HP := Lib.hid hψ
        clear hpre hψ t7 t8 r7 r8
        go_simp
        refine C.out.mono ?_
        rintro e w7 ⟨lb9, hb9, lc9, hc9, rfl, hl9, hh9, hB9⟩
        obtain ⟨h0, t7, t8⟩ := HX.out
        exact hK _ w7 γ (below3 h0 hB9 (Nat.le_refl _)) (fun j u hj hne h => mo3Phi_next hB9 (fun _ => ⟨rfl, rfl⟩) h) (fun _ _ _ h => h) ⟨⟨lb9, hb9, lc9, hc9, o7, p7, o8, p8, L7, L8⟩, rfl, t7, t8, hl9, hh9⟩
      · refine ⟨fun hg K hK => ?_, trivial⟩
        clear hg
        have HRW9 := HR
        have HP := Lib.hid hψ
        clear hpre hψ
        go_simp
        have hB5 : Below W.heap.size W (W.alloc (.cells #[.slice none 0 0, .int .i64 0, .int .i64 0, .slice none 0 0, .int .i64 0, .int .i64 0] 37)) := (Below.refl _ _).alloc (Nat.le_refl _) _
        refine hK _ _ (fun i => if i = 30 then W.heap.size else γ i) (below3 HRW9.out hB5 (Nat.le_refl _)) (fun j u hj hne h => mo3Phi_next hB5 (fun e => ?_) h) (fun _ _ _ h => by simpa [mo3Psi] using h) ⟨by simp, HRW9.out.size, fun _ => heap_alloc_new W _⟩
        rcases e with e | e
        · exact absurd e hne
        · subst e; exact absurd (by decide) hj
      · refine ⟨fun hg K hK => ?_, trivial⟩
        clear hg
        obtain ⟨q1, hw1, hb1⟩ := hpre 7 (by decide)
        obtain ⟨X, q0, hx⟩ := hpre 6 (by decide)
        replace q0 : ev (.tmp 62) = _ := q0
        replace q1 : ev (.tmp 18) = _ := q1
        have hb1 := hb1 (hψ rfl)
        obtain ⟨bb, hbb⟩ : ∃ z, z = γ 30 := ⟨_, rfl⟩
        rw [← hbb] at q1 hw1 hb1
        obtain ⟨lb9, hb9, lc9, hc9, o7, p7, o8, p8, L7, L8⟩ := X
        unfold ClsV.cells at q0
        dsimp only at q0
        have d0 := hb1.cell 0
        have d1 := hb1.cell 1
        have d2 := hb1.cell 2
        have d3 := hb1.cell 3
        have d4 := hb1.cell 4
        have d5 := hb1.cell 5
        simp only [List.getElem?_toArray, List.getElem?_cons_zero, List.getElem?_cons_succ] at d0 d1 d2 d3 d4 d5
        have zr := hb1.lt
        have fr := hb1.frozen
        obtain ⟨W', hW'⟩ : ∃ z, z = ((((((W.setCell ⟨bb, 0, none⟩ (.slice (some ⟨lb9, 0, none⟩) rn lc9)).setCell ⟨bb, 1, none⟩ (.int .i64 (min o7 o8))).setCell ⟨bb, 2, none⟩ (.int .i64 (max p7 p8))).setCell ⟨bb, 3, none⟩ (.slice (some ⟨hb9, 0, none⟩) rn hc9)).setCell ⟨bb, 4, none⟩ (.int .i64 (max o7 o8))).setCell ⟨bb, 5, none⟩ (.int .i64 (min p7 p8))) := ⟨_, rfl⟩
        have hkk : Keep (fun b => b = bb) W W' := by rw [hW']; exact (((((((Keep.refl (fun b => b = bb) W).setCell rfl _).setCell rfl _).setCell rfl _).setCell rfl _).setCell rfl _).setCell rfl _)
        have hrow : Blk W' bb 37 #[.slice (some ⟨lb9, 0, none⟩) rn lc9, .int .i64 (min o7 o8), .int .i64 (max p7 p8), .slice (some ⟨hb9, 0, none⟩) rn hc9, .int .i64 (max o7 o8), .int .i64 (min p7 p8)] := by
          have h := ((((((hb1.set_ 0 (.slice (some ⟨lb9, 0, none⟩) rn lc9)).set_ 1 (.int .i64 (min o7 o8))).set_ 2 (.int .i64 (max p7 p8))).set_ 3 (.slice (some ⟨hb9, 0, none⟩) rn hc9)).set_ 4 (.int .i64 (max o7 o8))).set_ 5 (.int .i64 (min p7 p8)))
          rw [hW']
          simpa using h
        have HX := Lib.hid (And.intro hrow (And.intro hx (And.intro hbb (And.intro hkk (And.intro hb1 (And.intro hw1 hW'))))))
        clear hpre hψ hrow hx hbb hw1 hkk hb1 hW'
        go_simp
        obtain ⟨hrow, hx, hbb, hkk, hb1, hw1, hW'⟩ := HX.out
        rw [← hW']
        have h0 := HR.out
        refine hK undef _ (fun i => if i = 20 then 1 else γ i) (h0.trans (hkk.below h0.size (fun b e => by rw [e]; exact hw1))) (fun j u h1 h2 h3 => ?_) (fun h => absurd rfl h) ⟨⟨lb9, hb9, lc9, hc9, o7, p7, o8, p8, L7, L8⟩, by simpa [← hbb, ClsV.cells] using hrow, hx.apart hkk hb1 (by decide)⟩
        exact mo3Phi_store ⟨Below.refl _ _, hkk.size⟩ hkk hb1 ⟨by simp, by simp⟩ h2 h3
    · intro vs w4 γ hvl hR hφ
      have q7 := hφ 7 (by decide)
      have q8 := hφ 8 (by decide)
      have HR := Lib.hid hR
      clear hφ hR
      match vs, hvl with
      | [y0, y1, y2, y3, y4, y5, y6, y7, y8], _ =>
      simp only [List.getD_cons_zero, List.getD_cons_succ] at q7 q8
      obtain ⟨q7, hxw, _⟩ := q7
      obtain ⟨X, hbx, hx⟩ := q8
      obtain ⟨kb, hkb⟩ : ∃ z, z = γ 30 := ⟨_, rfl⟩
      rw [← hkb] at q7 hbx
      obtain ⟨lo9, ho9, lc9, hc9, o1, p1, o2, p2, Lc, Ld⟩ := X
      have B3 : Hid (Below w3.heap.size w3 w4) := Lib.hid HR.out
      have CX := Lib.hid hx
      have HTL : Hid ((mnL La Lb).length = rn ∧ (mxL La Lb).length = rn ∧ (mnL Lc Ld).length = rn ∧ (mxL Lc Ld).length = rn) := Lib.hid ⟨by rw [mnL_len]; exact HT.out.1.1, by rw [mxL_len]; exact HT.out.1.1, by rw [mnL_len]; exact CX.out.a.1, by rw [mxL_len]; exact CX.out.a.1⟩
      have HTB := Lib.hid (mnL_bd HT.out.1.1 HT.out.2.1 HT.out.1.2 HT.out.2.2)
      have HLB := Lib.hid (mnL_bd CX.out.a.1 CX.out.b.1 CX.out.a.2.1 CX.out.b.2.1)
      have HOP : Hid ((0 ≤ min o1 o2 ∧ min o1 o2 ≤ 1000000) ∧ (0 ≤ max p1 p2 ∧ max p1 p2 ≤ 100000) ∧ (0 ≤ max o1 o2 ∧ max o1 o2 ≤ 1000000) ∧ (0 ≤ min p1 p2 ∧ min p1 p2 ≤ 100000) ∧ min o1 o2 ≤ max o1 o2 ∧ min p1 p2 ≤ max p1 p2) := Lib.hid (by have h1 := CX.out.a.2.2; have h2 := CX.out.b.2.2; dsimp only at h1 h2; omega)
      obtain ⟨ol, hol⟩ : ∃ z, z = min o1 o2 := ⟨_, rfl⟩
      obtain ⟨pl, hpl⟩ : ∃ z, z = max p1 p2 := ⟨_, rfl⟩
      obtain ⟨oh, hoh⟩ : ∃ z, z = max o1 o2 := ⟨_, rfl⟩
      obtain ⟨ph, hph⟩ : ∃ z, z = min p1 p2 := ⟨_, rfl⟩
      obtain ⟨KL, hKL⟩ : ∃ z, z = mnL Lc Ld := ⟨_, rfl⟩
      obtain ⟨KH, hKH⟩ : ∃ z, z = mxL Lc Ld := ⟨_, rfl⟩
      have KB : Hid (Blk w4 kb 37 #[.slice (some ⟨lo9, 0, none⟩) rn lc9, .int .i64 ol, .int .i64 pl, .slice (some ⟨ho9, 0, none⟩) rn hc9, .int .i64 oh, .int .i64 ph]) := Lib.hid (by rw [hol, hpl, hoh, hph]; exact hbx)
      have HKK : Hid ((KL.length = rn ∧ KH.length = rn) ∧ (∀ y ∈ KL, 0 ≤ y ∧ y ≤ 255000) ∧ (∀ y ∈ KH, 0 ≤ y ∧ y ≤ 255000) ∧ (∀ i, 0 ≤ KL.getD i 0) ∧ (∀ i, KL.getD i 0 ≤ KH.getD i 0) ∧ ((0 ≤ ol ∧ ol ≤ 1000000) ∧ (0 ≤ pl ∧ pl ≤ 100000) ∧ (0 ≤ oh ∧ oh ≤ 1000000) ∧ (0 ≤ ph ∧ ph ≤ 100000) ∧ ol ≤ oh ∧ ph ≤ pl)) := Lib.hid (by
        rw [hKL, hKH, hol, hpl, hoh, hph]
        exact ⟨⟨HTL.out.2.2.1, HTL.out.2.2.2⟩, HLB.out.1, HLB.out.2, getD_nonneg (by omega) HLB.out.1, mn_le_mx _ _, HOP.out⟩)
      have HCL : Hid (ClIn w4 rn (some ⟨lo9, 0, none⟩) (some ⟨ho9, 0, none⟩) ol pl oh ph KL KH) := Lib.hid (by
        obtain ⟨k1, k2, k3, k4, k5, k6⟩ := HKK.out
        refine ⟨?_, ?_, fun y hy => ?_, fun y hy => ?_, ⟨k6.1, k6.2.2.1⟩, ⟨k6.2.1, k6.2.2.2.1⟩, leB_yes (fun i _ => k5 i), k6.2.2.2.2.1, k6.2.2.2.2.2⟩
        · rw [hKL]; exact CX.out.l.rd (fun _ => rfl) HTL.out.2.2.1 (size := 1)
        · rw [hKH]; exact CX.out.h.rd (fun _ => rfl) HTL.out.2.2.2 (size := 1)
        · have := k2 y hy; omega
        · have := k3 y hy; omega)
      obtain ⟨TL, hTL⟩ : ∃ z, z = mnL La Lb := ⟨_, rfl⟩
      obtain ⟨TH, hTH⟩ : ∃ z, z = mxL La Lb := ⟨_, rfl⟩
      have RLO : Hid (Rd w4 w4.heap.size 1 encI (some ⟨lb, 0, none⟩) rn TL) := Lib.hid (by rw [hTL]; exact (RL.out.below9 B3.out).rd (fun _ => rfl) HTL.out.1 (size := 1))
      have RHW : Hid (RowW w4 hb 3 encI (some ⟨hb, 0, none⟩) TH) := Lib.hid (by rw [hTH]; exact RH.out.below9 B3.out)
      have RHI : Hid (Rd w4 w4.heap.size 1 encI (some ⟨hb, 0, none⟩) rn TH) := Lib.hid (by rw [hTH]; exact (RH.out.below9 B3.out).rd (fun _ => rfl) HTL.out.2.1 (size := 1))
      have HTT : Hid ((TL.length = rn ∧ TH.length = rn) ∧ (∀ y ∈ TL, 0 ≤ y ∧ y ≤ 1000000) ∧ (∀ y ∈ TH, 0 ≤ y ∧ y ≤ 1000000) ∧ (∀ i, 0 ≤ TL.getD i 0) ∧ (∀ i, TL.getD i 0 ≤ TH.getD i 0)) := Lib.hid (by
        rw [hTL, hTH]
        exact ⟨⟨HTL.out.1, HTL.out.2.1⟩, fun y hy => by have := HTB.out.1 y hy; omega, fun y hy => by have := HTB.out.2 y hy; omega, getD_nonneg (by omega) HTB.out.1, mn_le_mx _ _⟩)
      clear hol hpl hoh hph hKL hKH hTL hTH HTL HTB HLB HOP CX RL RH HT KW KD KS KC
      clear HR hbx hx hxw hkb
      simp [putAll, q7]
      clear q7
      have HKKx : Hid (KK rn KL KH ol pl oh ph) := HKK
      have HTTx : Hid (TT rn TL TH) := HTT
      go_wp2_with fail
      refine (clone_ints (some ⟨lb, 0, none⟩) rn lc TL w4 (RLO.out) (by have := HR4.out; omega)).mono ?_
      rintro e wcl ⟨A9, sc, rfl, ho1, hB, _⟩
      obtain ⟨A1', sc', sb, e1, hr1, hk1⟩ := RowW.of_own (by rw [HTT.out.1.1]; exact ho1)
      obtain ⟨k9, ho9x⟩ := hk1 (by rw [HTT.out.1.1]; exact HR4.out.1)
      obtain rfl : A9 = some ⟨sb, 0, none⟩ := by
        obtain ⟨x0, hx0⟩ : ∃ x0, TL[0]? = some x0 := ⟨_, List.getElem?_eq_getElem (by rw [HTT.out.1.1]; exact HR4.out.1)⟩
        have h9 := (hr1.at_ (size := 1) (fun _ => rfl) hx0).1
        simp only [Value.slice.injEq] at e1
        rw [e1.1, h9]
      have HSB : Hid (w4.heap.size ≤ sb) := Lib.hid k9
      have HA1 : Hid (A1' = some ⟨sb, 0, none⟩) := Lib.hid (by simp only [Value.slice.injEq] at e1; exact e1.1.symm)
      have HR1 : Hid (Below w4.heap.size w4 wcl ∧ RowW wcl sb 3 encI (some ⟨sb, 0, none⟩) (smL (btF TL TH l6) TL rn 0)) := Lib.hid ⟨hB, by rw [smL_zero HTT.out.1.1]; rw [HA1.out] at hr1; exact hr1⟩
      clear hB ho1 e1 hr1 hk1 ho9x k9 HA1
      go_wp2
      go_loopw [67] (fun i wr => ∃ k : Nat, k ≤ rn ∧ i = .int .i64 ((k : Nat) : Int) ∧ Hid (Below w4.heap.size w4 wr ∧ RowW wr sb 3 encI (some ⟨sb, 0, none⟩) (smL (btF TL TH l6) TL rn k))) (fun i _ => rn - (intOf i).toNat)
      case atStart => exact ⟨0, by omega, rfl, HR1⟩
      case round =>
        obtain ⟨k, hk, rfl, HW⟩ := hrel
        by_cases hlt : k < rn
        · have hk4 : k ≤ 400 := by have := HR4.out; omega
          have hk0 : (0 : Int) ≤ (k : Int) := by omega
          have hkn : (k : Int) < (rn : Int) := by omega
          have hk8 : (k : Int) ≤ 400 := by omega
          have HLT : Hid (k < rn) := Lib.hid hlt
          by_cases hat : k < n6
          · have hkm : (k : Int) < (n6 : Int) := by omega
            obtain ⟨ab, ao, u9, eA, hab, hu9, hcu⟩ := (K6.out.below (below3 (below3 (below3 B0.out B1.out (Nat.le_refl _)) B2.out (Nat.le_refl _)) B3.out (Nat.le_refl _))).at_ hat
            obtain ⟨bb, bo, y9, eB, hbb, hy9, hcy⟩ := (RHI.out.next (Below.refl w4.heap.size w4)).at_ hlt
            obtain ⟨db, dof, x9, eD, hdb, hx9, hcx⟩ := (RLO.out.next (Below.refl w4.heap.size w4)).at_ hlt
            have cu := cellU hcu
            have cy := cellI hcy
            have cx := cellI hcx
            simp only [Option.some.injEq, Addr.mk.injEq] at eB eD
            obtain ⟨eB1, eB2, -⟩ := eB
            obtain ⟨eD1, eD2, -⟩ := eD
            rw [← eB1] at hbb
            rw [← eD1] at hdb
            rw [← eB1, ← eB2] at cy
            rw [← eD1, ← eD2] at cx
            simp only [Nat.zero_add] at cx cy
            have HCU : Hid (∀ V, Below w4.heap.size w4 V → V.cell? ⟨ab, ao + k, none⟩ = some (.int .u8 u9) ∧ ab < V.heap.size) := Lib.hid (fun V hV => ⟨((hV.mono ((below3 (below3 (below3 B0.out B1.out (Nat.le_refl _)) B2.out (Nat.le_refl _)) B3.out (Nat.le_refl _)).size)).cell (p := ⟨ab, ao + k, none⟩) hab).trans cu, Nat.lt_of_lt_of_le (Nat.lt_of_lt_of_le hab (below3 (below3 (below3 B0.out B1.out (Nat.le_refl _)) B2.out (Nat.le_refl _)) B3.out (Nat.le_refl _)).size) hV.size⟩)
            have HCY : Hid (∀ V, Below w4.heap.size w4 V → V.cell? ⟨hb, k, none⟩ = some (.int .i64 y9) ∧ hb < V.heap.size) := Lib.hid (fun V hV => ⟨(hV.cell (p := ⟨hb, k, none⟩) hbb).trans cy, Nat.lt_of_lt_of_le hbb hV.size⟩)
            have HCX : Hid (∀ V, Below w4.heap.size w4 V → V.cell? ⟨lb, k, none⟩ = some (.int .i64 x9) ∧ lb < V.heap.size) := Lib.hid (fun V hV => ⟨(hV.cell (p := ⟨lb, k, none⟩) hdb).trans cx, Nat.lt_of_lt_of_le hdb hV.size⟩)
            have gx : TL.getD k 0 = x9 := by rw [List.getD_eq_getElem?_getD, hx9]; rfl
            have gy : TH.getD k 0 = y9 := by rw [List.getD_eq_getElem?_getD, hy9]; rfl
            have gu : l6.getD k 0 = u9 := by rw [List.getD_eq_getElem?_getD, hu9]; rfl
            have HBD : Hid ((0 ≤ x9 ∧ x9 ≤ y9 ∧ y9 ≤ 1000000) ∧ 0 ≤ u9 ∧ u9 ≤ 255) := Lib.hid (by
              have h1 := HTT.out.2.2.2.1 k
              have h2 := HTT.out.2.2.2.2 k
              have h3 := HTT.out.2.2.1 y9 (List.mem_of_getElem? hy9)
              have h4 := U6.out u9 (List.mem_of_getElem? hu9)
              rw [gx] at h1 h2
              rw [gy] at h2
              exact ⟨⟨h1, h2, h3.2⟩, h4⟩)
            have HVAL : Hid (btF TL TH l6 k = x9 + ((y9 - x9) * u9).tdiv 255) := Lib.hid (by unfold btF; rw [gx, gy, gu, if_pos (by rw [K6.out.1]; exact hat)])
            have HS0 : Hid ((smL (btF TL TH l6) TL rn k)[k]? = some x9) := Lib.hid (by rw [smL_get hlt, if_neg (by omega), gx])
            clear hab hu9 hcu hbb hy9 hcy hdb hx9 hcx cu cy cx gx gy gu eB1 eB2 eD1 eD2
            subst eA
            go_wp2_with fail
            refine wp_region_free10 22 (by kernel_rfl) [some 74, some 75, some 76, some 77, some 78, some 79, some 80, some 81, some 82, some 83, some 84, some 85, some 86, some 87, some 88, some 89, some 90, some 91, some 92, some 93, some 94, some 95, none] [[], [], [0, 1], [2], [], [], [4, 5], [6], [], [], [8, 9], [10], [7, 11], [], [], [13, 14], [15], [16], [12, 17], [18], [3, 19], [0, 1, 0, 1, 2, 3, 4, 5, 6, 7, 8, 9, 10, 11, 12, 13, 14, 15, 16, 17, 18, 19, 20], [21, 20, 0, 1, 2, 3, 4, 5, 6, 7, 8, 9, 10, 11, 12, 13, 14, 15, 16, 17, 18, 19, 20]] [(19, .slice (some ⟨sb, 0, none⟩) rn sc), (20, .int .i64 (k : Int)), (17, .slice (some ⟨hb, 0, none⟩) rn hc), (16, .slice (some ⟨lb, 0, none⟩) rn lc), (6, .slice (some ⟨ab, ao, none⟩) n6 c6)] (fun W γ => Below w4.heap.size w4 W ∧ RowW W sb 3 encI (some ⟨sb, 0, none⟩) (if γ 1 = 0 then smL (btF TL TH l6) TL rn k else smL (btF TL TH l6) TL rn (k + 1))) (hhPhi sb hb 0 (k) lb 0 (k) ab ao rn sc hc lc n6 c6 k x9 y9 u9) (fun i _ γ => (i = 3 ∨ i = 22) → γ 1 = 0) (by kernel_rfl) (by kernel_rfl) rfl (by kernel_rfl) ?_ ?_ ⟨fun _ => 0, ⟨HW.out.1.drew, HW.out.2.below9 (Below.refl _ _).drew⟩, fun i _ _ => rfl⟩ ?_ ?_
            · intro z hz
              simp only [List.mem_cons, List.mem_nil_iff, or_false] at hz
              rcases hz with rfl | rfl | rfl | rfl | rfl
              all_goals exact ⟨by kernel_rfl, rfl⟩
            · intro i v W γ hi h
              rcases i with _ | _ | _ | _ | _ | _ | _ | _ | _ | _ | _ | _ | _ | _ | _ | _ | _ | _ | _ | _ | _ | _ | _ | i
              all_goals first | exact h | (simp at hi)
            · refine ⟨?_, ?_, ?_, ?_, ?_, ?_, ?_, ?_, ?_, ?_, ?_, ?_, ?_, ?_, ?_, ?_, ?_, ?_, ?_, ?_, ?_, ?_, ?_, trivial⟩
              all_goals
                intro a9 W γ ev hcc hff hfx hR hψ hpre
                simp only [List.mem_cons, List.mem_nil_iff, or_false, forall_eq, forall_eq_or_imp] at hfx
                obtain ⟨f0, f1, f2, f3, f4⟩ := hfx
                have HR := Lib.hid hR
                clear hR
              · refine ⟨fun hg K hK => ?_, trivial⟩
                clear hg
                clear hpre hψ
                go_simp
                exact hK _ _ γ HR.out (fun _ _ _ _ h => h) (fun _ _ _ h => h) rfl
              · refine ⟨fun hg K hK => ?_, trivial⟩
                clear hg
                clear hpre hψ
                go_simp
                exact hK _ _ γ HR.out (fun _ _ _ _ h => h) (fun _ _ _ h => h) rfl
              · refine ⟨fun hg K hK => ?_, trivial⟩
                clear hg
                have q0 : ev (.tmp 74) = _ := hpre 0 (by decide)
                have q1 : ev (.tmp 75) = _ := hpre 1 (by decide)
                clear hpre hψ
                go_simp
                exact hK _ _ γ HR.out (fun _ _ _ _ h => h) (fun _ _ _ h => h) rfl
              · refine ⟨fun hg K hK => ?_, trivial⟩
                clear hg
                have q0 : ev (.tmp 76) = _ := hpre 2 (by decide)
                have hg9 : γ 1 = 0 := hψ (Or.inl rfl)
                have hr9 := HR.out.2
                rw [if_pos hg9] at hr9
                have ca := rowI_at hr9 HS0.out
                have zb := (hr9.at_ (size := 1) (fun _ => rfl) HS0.out).2.1
                clear hr9 hg9
                clear hpre hψ
                go_simp
                exact hK _ _ γ HR.out (fun _ _ _ _ h => h) (fun _ _ _ h => h) rfl
              · refine ⟨fun hg K hK => ?_, trivial⟩
                clear hg
                clear hpre hψ
                go_simp
                exact hK _ _ γ HR.out (fun _ _ _ _ h => h) (fun _ _ _ h => h) rfl
              · refine ⟨fun hg K hK => ?_, trivial⟩
                clear hg
                clear hpre hψ
                go_simp
                exact hK _ _ γ HR.out (fun _ _ _ _ h => h) (fun _ _ _ h => h) rfl
              · refine ⟨fun hg K hK => ?_, trivial⟩
                clear hg
                have q0 : ev (.tmp 78) = _ := hpre 4 (by decide)
                have q1 : ev (.tmp 79) = _ := hpre 5 (by decide)
                clear hpre hψ
                go_simp
                exact hK _ _ γ HR.out (fun _ _ _ _ h => h) (fun _ _ _ h => h) rfl
              · refine ⟨fun hg K hK => ?_, trivial⟩
                clear hg
                have q0 : ev (.tmp 80) = _ := hpre 6 (by decide)
                have cy := (HCY.out W HR.out.1).1
                have zy := (HCY.out W HR.out.1).2
                clear hpre hψ
                go_simp
                exact hK _ _ γ HR.out (fun _ _ _ _ h => h) (fun _ _ _ h => h) rfl
              · refine ⟨fun hg K hK => ?_, trivial⟩
                clear hg
                clear hpre hψ
                go_simp
                exact hK _ _ γ HR.out (fun _ _ _ _ h => h) (fun _ _ _ h => h) rfl
              · refine ⟨fun hg K hK => ?_, trivial⟩
                clear hg
                clear hpre hψ
                go_simp
                exact hK _ _ γ HR.out (fun _ _ _ _ h => h) (fun _ _ _ h => h) rfl
              · refine ⟨fun hg K hK => ?_, trivial⟩
                clear hg
                have q0 : ev (.tmp 82) = _ := hpre 8 (by decide)
                have q1 : ev (.tmp 83) = _ := hpre 9 (by decide)
                clear hpre hψ
                go_simp
                exact hK _ _ γ HR.out (fun _ _ _ _ h => h) (fun _ _ _ h => h) rfl
              · refine ⟨fun hg K hK => ?_, trivial⟩
                clear hg
                have q0 : ev (.tmp 84) = _ := hpre 10 (by decide)
                have cx := (HCX.out W HR.out.1).1
                have zx := (HCX.out W HR.out.1).2
                clear hpre hψ
                go_simp
                exact hK _ _ γ HR.out (fun _ _ _ _ h => h) (fun _ _ _ h => h) rfl
              · refine ⟨fun hg K hK => ?_, trivial⟩
                clear hg
                have q0 : ev (.tmp 81) = _ := hpre 7 (by decide)
                have q1 : ev (.tmp 85) = _ := hpre 11 (by decide)
                have wv : IntKind.i64.wrap (y9 - x9) = y9 - x9 := IntWalk.i64_in _ (by have := HBD.out; omega)
                clear hpre hψ
                go_simp
                exact hK _ _ γ HR.out (fun _ _ _ _ h => h) (fun _ _ _ h => h) rfl
              · refine ⟨fun hg K hK => ?_, trivial⟩
                clear hg
                clear hpre hψ
                go_simp
                exact hK _ _ γ HR.out (fun _ _ _ _ h => h) (fun _ _ _ h => h) rfl
              · refine ⟨fun hg K hK => ?_, trivial⟩
                clear hg
                clear hpre hψ
                go_simp
                exact hK _ _ γ HR.out (fun _ _ _ _ h => h) (fun _ _ _ h => h) rfl
              · refine ⟨fun hg K hK => ?_, trivial⟩
                clear hg
                have q0 : ev (.tmp 87) = _ := hpre 13 (by decide)
                have q1 : ev (.tmp 88) = _ := hpre 14 (by decide)
                clear hpre hψ
                go_simp
                exact hK _ _ γ HR.out (fun _ _ _ _ h => h) (fun _ _ _ h => h) rfl
              · refine ⟨fun hg K hK => ?_, trivial⟩
                clear hg
                have q0 : ev (.tmp 89) = _ := hpre 15 (by decide)
                have cu := (HCU.out W HR.out.1).1
                have zu := (HCU.out W HR.out.1).2
                clear hpre hψ
                go_simp
                exact hK _ _ γ HR.out (fun _ _ _ _ h => h) (fun _ _ _ h => h) rfl
              · refine ⟨fun hg K hK => ?_, trivial⟩
                clear hg
                have q0 : ev (.tmp 90) = _ := hpre 16 (by decide)
                have wv : IntKind.i64.wrap u9 = u9 := IntWalk.i64_in _ (by have := HBD.out; omega)
                clear hpre hψ
                go_simp
                exact hK _ _ γ HR.out (fun _ _ _ _ h => h) (fun _ _ _ h => h) rfl
              · refine ⟨fun hg K hK => ?_, trivial⟩
                clear hg
                have q0 : ev (.tmp 86) = _ := hpre 12 (by decide)
                have q1 : ev (.tmp 91) = _ := hpre 17 (by decide)
                have hb9 := mul_in HBD.out
                have wv : IntKind.i64.wrap ((y9 - x9) * u9) = (y9 - x9) * u9 := IntWalk.i64_in _ (by omega)
                clear hb9
                clear hpre hψ
                go_simp
                exact hK _ _ γ HR.out (fun _ _ _ _ h => h) (fun _ _ _ h => h) rfl
              · refine ⟨fun hg K hK => ?_, trivial⟩
                clear hg
                have q0 : ev (.tmp 92) = _ := hpre 18 (by decide)
                have hb9 := div_in HBD.out
                have wv : IntKind.i64.wrap (((y9 - x9) * u9).tdiv 255) = ((y9 - x9) * u9).tdiv 255 := IntWalk.i64_in _ (by omega)
                clear hb9
                clear hpre hψ
                go_simp
                exact hK _ _ γ HR.out (fun _ _ _ _ h => h) (fun _ _ _ h => h) rfl
              · refine ⟨fun hg K hK => ?_, trivial⟩
                clear hg
                have q0 : ev (.tmp 77) = _ := hpre 3 (by decide)
                have q1 : ev (.tmp 93) = _ := hpre 19 (by decide)
                have hb9 := div_in HBD.out
                have hb8 := HBD.out
                have wv : IntKind.i64.wrap (x9 + ((y9 - x9) * u9).tdiv 255) = x9 + ((y9 - x9) * u9).tdiv 255 := IntWalk.i64_in _ (by omega)
                clear hb9 hb8
                clear hpre hψ
                go_simp
                exact hK _ _ γ HR.out (fun _ _ _ _ h => h) (fun _ _ _ h => h) rfl
              · refine ⟨fun hg K hK => ?_, trivial⟩
                clear hg
                have q0 : ev (.tmp 74) = _ := hpre 0 (by decide)
                have q1 : ev (.tmp 75) = _ := hpre 1 (by decide)
                clear hpre hψ
                go_simp
                exact hK _ _ γ HR.out (fun _ _ _ _ h => h) (fun _ _ _ h => h) rfl
              · refine ⟨fun hg K hK => ?_, trivial⟩
                clear hg
                have q0 : ev (.tmp 94) = _ := hpre 20 (by decide)
                have q1 : ev (.tmp 95) = _ := hpre 21 (by decide)
                have hg : γ 1 = 0 := hψ (Or.inr rfl)
                obtain ⟨hw9, hl9⟩ := HR.out
                have hr9 := hl9
                rw [if_pos hg] at hr9
                have ca := rowI_at hr9 HS0.out
                have fz := (hr9.at_ (size := 1) (fun _ => rfl) HS0.out).2.2.1
                have zb := (hr9.at_ (size := 1) (fun _ => rfl) HS0.out).2.1
                have HX := Lib.hid (And.intro hw9 (And.intro hr9 hg))
                clear hpre hψ hw9 hl9 hr9 hg
                go_simp
                obtain ⟨hw9, hr9, hg⟩ := HX.out
                refine hK undef _ (fun i => if i = 1 then 1 else γ i) ⟨hw9.setCell HSB.out _, ?_⟩ (fun j u h1 h2 h3 => hhPhi_w h2 h3) (fun h => absurd rfl h) (by simp [hhPhi])
                rw [if_neg (by simp)]
                have h9 := rowI_set hr9 HS0.out (x9 + ((y9 - x9) * u9).tdiv 255)
                rw [← HVAL.out, smL_set HLT.out] at h9
                rw [← HVAL.out]
                exact h9
            · intro vs wy γ hvl hR hφ
              have q22 := hφ 22 (by decide)
              have HR := Lib.hid hR
              clear hφ hR
              match vs, hvl with
              | [y0, y1, y2, y3, y4, y5, y6, y7, y8, y9, y10, y11, y12, y13, y14, y15, y16, y17, y18, y19, y20, y21, y22], _ =>
              simp only [List.getD_cons_zero, List.getD_cons_succ] at q22
              have h22 : γ 1 ≠ 0 := by simpa [hhPhi] using q22
              obtain ⟨r1, r2⟩ := HR.out
              rw [if_neg h22] at r2
              have HN9 : Hid (Below w4.heap.size w4 wy ∧ RowW wy sb 3 encI (some ⟨sb, 0, none⟩) (smL (btF TL TH l6) TL rn (k + 1))) := Lib.hid ⟨r1, r2⟩
              clear HR q22 h22 r1 r2
              simp [putAll]
              go_wp2
              go_roundw
              case rel => exact ⟨k + 1, by have := HLT.out; omega, by go_num, HN9⟩
              case measure => have := HLT.out; simp [intOf]; omega
          · have hkm : ¬ (k : Int) < (n6 : Int) := by omega
            have HN9 : Hid (Below w4.heap.size w4 wr ∧ RowW wr sb 3 encI (some ⟨sb, 0, none⟩) (smL (btF TL TH l6) TL rn (k + 1))) := Lib.hid ⟨HW.out.1, by rw [smL_same (by unfold btF; rw [if_neg (by rw [K6.out.1]; exact hat)])]; exact HW.out.2⟩
            go_wp2
            go_roundw
            case rel => exact ⟨k + 1, by have := HLT.out; omega, by go_num, HN9⟩
            case measure => have := HLT.out; simp [intOf]; omega
        · obtain rfl : rn = k := by omega
          have HS9 : Hid (RowW wr sb 3 encI (some ⟨sb, 0, none⟩) (btL TL TH l6 rn)) := Lib.hid (by have h9 := HW.out.2; rw [smL_all] at h9; exact h9)
          have HBW : Hid (Below w4.heap.size w4 wr) := Lib.hid HW.out.1
          obtain ⟨w5, hw5⟩ : ∃ z, z = wr := ⟨wr, rfl⟩
          subst hw5
          obtain ⟨S, hS⟩ : ∃ z, z = btL TL TH l6 rn := ⟨_, rfl⟩
          have HSS : Hid (S.length = rn ∧ (∀ y ∈ S, 0 ≤ y ∧ y ≤ 1000000) ∧ ∀ i, TL.getD i 0 ≤ S.getD i 0 ∧ S.getD i 0 ≤ TH.getD i 0) := Lib.hid (by rw [hS]; exact ⟨by simp [btL], btL_bd HTT.out U6.out, btL_le HTT.out U6.out⟩)
          have RS : Hid (Rd w5 w5.heap.size 1 encI (some ⟨sb, 0, none⟩) rn S) := Lib.hid (by rw [hS]; exact HS9.out.rd (fun _ => rfl) (by simp [btL]) (size := 1))
          have hBn := HBW.out
          have B4 : Hid (Below w4.heap.size w4 w5) := Lib.hid hBn
          clear hBn hS HS9 HBW HW hk
          obtain ⟨m, hm, hm1, hm2⟩ : ∃ m : Nat, min (n5 : Int) 40 = (m : Int) ∧ m ≤ n5 ∧ m ≤ 40 := ⟨min n5 40, by omega, by omega, by omega⟩
          have hm3 : (0 : Int) ≤ (m : Int) := by omega
          have hm4 : (m : Int) ≤ (c5 : Int) := by have := HC5.out.2.2; omega
          have hm5 : m ≤ c5 := by omega
          go_wp2
          have HM := Lib.hid (And.intro hm1 hm2)
          clear hm hm1 hm2 hm3 hm4 hm5
          obtain ⟨iC, hiC⟩ : ∃ i : TypeInfo, (Try.prog.info? 35 = some i ∧ i.zero = some (.agg #[.slice none 0 0, .int .i64 0, .int .i64 0]) ∧ i.size = 3 ∧ i.bytes = 40) := by
            obtain ⟨i, h1, h2, h3, h4⟩ := info_parts caseInfo
            exact ⟨i, h1, h2, h3, h4⟩
          have hCI := Lib.hid hiC
          have HK40 : Hid (m ≤ 40) := Lib.hid HM.out.2
          clear hiC
          have KI := Lib.hid (fun (A9 : Option Addr) (n9 c9 : Nat) (l9 : List Int) (W : World) (hW : Below w4.heap.size w4 W) (k9 : Rd W W.heap.size 1 encU A9 n9 l9) (u9 : U8s l9) => inside_row (some ⟨lo9, 0, none⟩) (some ⟨ho9, 0, none⟩) A9 rn lc9 hc9 n9 c9 KL KH l9 ol pl oh ph W (by have := HR4.out; omega) (HCL.out.next hW).ra (HCL.out.next hW).rb (in_bd HKK.out) (by have := HKK.out.2.2.2.2.2; omega) (by have := HKK.out.2.2.2.2.2; omega) k9 u9)
          have KB5 := Lib.hid (fun (mA : Option Addr) (mc : Nat) (o3 p3 : Int) (Lm : List Int) (W : World) (hW : Below w4.heap.size w4 W) (hx : CzR W rn ⟨⟨mA, rn, mc, o3, p3⟩, Lm⟩) (hm : MidC rn KL KH ol pl oh ph ⟨⟨mA, rn, mc, o3, p3⟩, Lm⟩) => Belongs_yes rA wA bA cA rn rc wn wc bn bc cn cc (some ⟨lo9, 0, none⟩) (some ⟨ho9, 0, none⟩) mA lc9 hc9 mc ol pl oh ph o3 p3 KL KH Lm h W (I1.out.next (below3 (below3 (below3 B1.out B2.out (Nat.le_refl _)) B3.out (Nat.le_refl _)) hW (Nat.le_refl _))) M.out.ok (HCL.out.next hW) (hx.ok hm).rd (hx.ok hm).bd (hx.ok hm).o (hx.ok hm).p (leB_yes (fun i _ => (hm.2.1 i).1)) (leB_yes (fun i _ => (hm.2.1 i).2)) hm.2.2.1.1 hm.2.2.2.1)
          have HC0 : Hid (CasI w5 rn KL KH ol pl oh ph none 0 0 [] w5) := Lib.hid ⟨Below.refl _ _, World.ownsRow_nil _ _ _ _, rfl, fun x hx => by simp at hx⟩
          go_loopw [21, 103] (fun al i wr => ∃ (k : Nat) (A7 : Option Addr) (c7 : Nat) (cl : List Cz), k ≤ m ∧ al = .slice A7 k c7 ∧ i = .int .i64 ((k : Nat) : Int) ∧ Hid (CasI w5 rn KL KH ol pl oh ph A7 c7 k cl wr)) (fun _ i _ => m - (intOf i).toNat)
          case atStart => exact ⟨0, none, 0, [], Nat.zero_le _, rfl, rfl, HC0⟩
          case round =>
            obtain ⟨k, A7, c7, cl, hk, rfl, rfl, HI⟩ := hrel
            by_cases hlt : k < m
            · have hk40 : k ≤ 40 := by have := HM.out; omega
              have hk0 : (0 : Int) ≤ (k : Int) := by omega
              have hkn : (k : Int) < (m : Int) := by omega
              have hk4 : (k : Int) ≤ 40 := by omega
              have HLT : Hid (k < m) := Lib.hid hlt
              obtain ⟨x9, l9, e9, hx9⟩ : ∃ (x9 : Ls) (l9 : List Int), (x9, l9) ∈ xs5 ∧ (xs5.map Prod.fst)[k]? = some x9 := by
                have h1 := HC5.out.1.1
                rw [List.length_map] at h1
                have h2 := HM.out
                refine ⟨(xs5[k]'(by omega)).1, (xs5[k]'(by omega)).2, List.getElem_mem _, ?_⟩
                rw [List.getElem?_map, List.getElem?_eq_getElem (by omega)]
                rfl
              obtain ⟨cb, co, x8, eA, hcb, hx8, hcx⟩ := HC5.out.1.at_ (show k < n5 by have := HM.out; omega)
              obtain rfl : x8 = x9 := by rw [hx9] at hx8; cases hx8; rfl
              have cx := hcx 0 _ rfl
              rw [Nat.mul_one, Nat.add_zero] at cx
              have cx := (((below3 (below3 (below3 (below3 B0.out B1.out (Nat.le_refl _)) B2.out (Nat.le_refl _)) B3.out (Nat.le_refl _)) B4.out (Nat.le_refl _)).mono (Nat.le_refl _)).cell (p := ⟨cb, co + k, none⟩) hcb).trans cx
              have cx := (HI.out.low.cell (p := ⟨cb, co + k, none⟩) (Nat.lt_of_lt_of_le hcb (below3 (below3 (below3 (below3 B0.out B1.out (Nat.le_refl _)) B2.out (Nat.le_refl _)) B3.out (Nat.le_refl _)) B4.out (Nat.le_refl _)).size)).trans cx
              have zx : cb < wr.heap.size := Nat.lt_of_lt_of_le (Nat.lt_of_lt_of_le hcb (below3 (below3 (below3 (below3 B0.out B1.out (Nat.le_refl _)) B2.out (Nat.le_refl _)) B3.out (Nat.le_refl _)) B4.out (Nat.le_refl _)).size) HI.out.low.size
              have HX9 : Hid (Rd w w.heap.size 1 encU x8.A x8.n l9 ∧ U8s l9) := Lib.hid (HC5.out.2.1 _ e9)
              have hB5 := HI.out.low
              clear e9 hx9 hcb hx8 hcx
              have B5 : Hid (Below w5.heap.size w5 wr) := Lib.hid hB5
              subst eA
              clear hB5 hlt hk
              have hbk := KB.out.below (below3 B4.out B5.out (Nat.le_refl _)) KB.out.lt
              have cb0 := hbk.cell 0
              have cb1 := hbk.cell 1
              have cb2 := hbk.cell 2
              have cb3 := hbk.cell 3
              have cb4 := hbk.cell 4
              have cb5 := hbk.cell 5
              simp only [List.getElem?_toArray, List.getElem?_cons_zero, List.getElem?_cons_succ] at cb0 cb1 cb2 cb3 cb4 cb5
              have zcb := hbk.lt
              clear hbk
              have C := Lib.hid (KI.out x8.A x8.n x8.c l9 wr (below3 B4.out B5.out (Nat.le_refl _)) (HX9.out.1.next (below3 (below3 (below3 (below3 (below3 B0.out B1.out (Nat.le_refl _)) B2.out (Nat.le_refl _)) B3.out (Nat.le_refl _)) B4.out (Nat.le_refl _)) B5.out (Nat.le_refl _))) HX9.out.2)
              go_wp2_with fail
              refine (C.out).mono ?_
              rintro e v1 ⟨A9, c9, o, p, L9, rfl, hrw, hln, hbd, hop, hB⟩
              have B6 : Hid (Below wr.heap.size wr v1) := Lib.hid hB
              clear hB
              have HNX : Hid (CzR v1 rn ⟨⟨A9, rn, c9, o, p⟩, L9⟩ ∧ MidC rn KL KH ol pl oh ph ⟨⟨A9, rn, c9, o, p⟩, L9⟩) := Lib.hid ⟨⟨rfl, hln, hrw⟩, mid_ok hln HKKx.out hbd hop⟩
              clear hrw hln hbd hop C cb0 cb1 cb2 cb3 cb4 cb5 zcb cx zx
              have g1 : v1.heap.size < v1.heap.size + 1 := by omega
              have hbk := BX.out.below (below3 (below3 (below3 (below3 B2.out B3.out (Nat.le_refl _)) B4.out (Nat.le_refl _)) B5.out (Nat.le_refl _)) B6.out (Nat.le_refl _)) BX.out.lt
              have ca0 := hbk.cell 0
              have ca1 := hbk.cell 1
              have ca2 := hbk.cell 2
              have ca3 := hbk.cell 3
              simp only [List.getElem?_toArray, List.getElem?_cons_zero, List.getElem?_cons_succ] at ca0 ca1 ca2 ca3
              have zca := hbk.lt
              clear hbk
              have hbk := KB.out.below (below3 (below3 B4.out B5.out (Nat.le_refl _)) B6.out (Nat.le_refl _)) KB.out.lt
              have cb0 := hbk.cell 0
              have cb1 := hbk.cell 1
              have cb2 := hbk.cell 2
              have cb3 := hbk.cell 3
              have cb4 := hbk.cell 4
              have cb5 := hbk.cell 5
              simp only [List.getElem?_toArray, List.getElem?_cons_zero, List.getElem?_cons_succ] at cb0 cb1 cb2 cb3 cb4 cb5
              have zcb := hbk.lt
              clear hbk
              go_wp2_with fail
              obtain ⟨db, hdb⟩ : ∃ z, z = v1.heap.size := ⟨_, rfl⟩
              obtain ⟨v2, hv2⟩ : ∃ z, z = v1.alloc (.cells #[.slice A9 rn c9, .int .i64 o, .int .i64 p] 35) := ⟨_, rfl⟩
              have DB : Hid (Blk v2 db 35 #[.slice A9 rn c9, .int .i64 o, .int .i64 p]) := Lib.hid (by rw [hv2, hdb]; exact heap_alloc_new v1 _)
              have Sv2 : Hid (v2.heap.size = db + 1) := Lib.hid (by rw [hv2, hdb, World.size_alloc])
              have Zdb : Hid (v1.heap.size ≤ db) := Lib.hid (by rw [hdb]; exact Nat.le_refl _)
              have hBn : Below v1.heap.size v1 v2 := by rw [hv2]; exact (Below.refl _ _).alloc (Nat.le_refl _) _
              rw [← hv2, ← hdb]
              have B7 : Hid (Below v1.heap.size v1 v2) := Lib.hid hBn
              clear hv2 hdb hBn
              clear g1 ca0 ca1 ca2 ca3 zca cb0 cb1 cb2 cb3 cb4 cb5 zcb
              have C := Lib.hid (KB5.out A9 c9 o p L9 v2 (below3 (below3 (below3 B4.out B5.out (Nat.le_refl _)) B6.out (Nat.le_refl _)) B7.out (Nat.le_refl _)) (HNX.out.1.next B7.out) HNX.out.2)
              refine (C.out).mono ?_
              rintro e v3 ⟨rfl, hB⟩
              have B8 : Hid (Below v2.heap.size v2 v3) := Lib.hid hB
              clear hB
              clear C
              have HI3 := Lib.hid (HI.out.next (below3 (below3 B6.out B7.out (Nat.le_refl _)) B8.out (Nat.le_refl _)))
              have HN3 := Lib.hid (HNX.out.1.next (below3 B7.out B8.out (Nat.le_refl _)))
              have hbk := DB.out.below B8.out DB.out.lt
              have cd0 := hbk.cell 0
              have cd1 := hbk.cell 1
              have cd2 := hbk.cell 2
              simp only [List.getElem?_toArray, List.getElem?_cons_zero, List.getElem?_cons_succ] at cd0 cd1 cd2
              have zcd := hbk.lt
              clear hbk
              have hb9 := HI3.out.low.size
              go_wp2_with (at_builtin; refine wpList_append_own_at _ rfl (.tmp 123) (.tmp 125) 49 rfl w5.heap.size 35 iC (.agg #[.slice none 0 0, .int .i64 0, .int .i64 0]) 3 40 Try.underlying49 hCI.out.1 hCI.out.2.1 hCI.out.2.2.1 hCI.out.2.2.2 rfl (by decide) (.slice A7 k c7) k ((cl.map Prod.fst).flatMap Cs.enc) rfl (HI3.out.row.alloc _) ⟨v3.heap.size, 0, none⟩ 1 1 [.slice A9 rn c9, .int .i64 o, .int .i64 p] rfl rfl ?_ ?_ ?_ ?_ ?_ ?_)
              case _ =>
                intro i z hz
                rcases i with _ | _ | _ | i
                all_goals first | (simp only [List.getElem?_cons_succ, List.getElem?_cons_zero, Option.some.injEq] at hz; subst hz; simp [Addr.add, go_sem]) | (simp at hz)
              case _ =>
                intro z hz
                simp only [List.mem_cons, List.mem_nil_iff, or_false] at hz
                rcases hz with rfl | rfl | rfl <;> rfl
              case _ => simp only [maxLen]; omega
              case _ => omega
              case _ => simp only [World.size_alloc]; omega
              intro v' v5 hown hg8 _ _
              obtain ⟨A8, c8, rfl⟩ := row_slice hown
              have hBa : Below v3.heap.size v3 (v3.alloc (.cells #[.slice A9 rn c9, .int .i64 o, .int .i64 p] 35)) := (Below.refl _ _).alloc (Nat.le_refl _) _
              have HN9 : Hid (CasI w5 rn KL KH ol pl oh ph A8 c8 (k + 1) (cl ++ [⟨⟨A9, rn, c9, o, p⟩, L9⟩]) v5) := Lib.hid ((HI3.out.next hBa).push (HN3.out.next hBa) HNX.out.2 hg8 hown)
              clear hown hg8 hBa cd0 cd1 cd2 zcd hb9
              go_wp2
              go_roundw
              case rel => exact ⟨k + 1, A8, c8, _, by have := HLT.out; omega, rfl, by go_num, HN9⟩
              case measure => have := HLT.out; simp [intOf]; omega
            · obtain rfl : m = k := by omega
              obtain ⟨w6, hw6⟩ : ∃ z, z = wr := ⟨wr, rfl⟩
              subst hw6
              have hB5 := HI.out.low
              have B5 : Hid (Below w5.heap.size w5 w6) := Lib.hid hB5
              clear hB5 hlt hk
              have HCAS := HI
              clear HI KI KB5 HC5 HM
              have hbk := BX.out.below (below3 (below3 (below3 B2.out B3.out (Nat.le_refl _)) B4.out (Nat.le_refl _)) B5.out (Nat.le_refl _)) BX.out.lt
              have ca0 := hbk.cell 0
              have ca1 := hbk.cell 1
              have ca2 := hbk.cell 2
              have ca3 := hbk.cell 3
              simp only [List.getElem?_toArray, List.getElem?_cons_zero, List.getElem?_cons_succ] at ca0 ca1 ca2 ca3
              have zca := hbk.lt
              clear hbk
              have hbk := KB.out.below (below3 B4.out B5.out (Nat.le_refl _)) KB.out.lt
              have cb0 := hbk.cell 0
              have cb1 := hbk.cell 1
              have cb2 := hbk.cell 2
              have cb3 := hbk.cell 3
              have cb4 := hbk.cell 4
              have cb5 := hbk.cell 5
              simp only [List.getElem?_toArray, List.getElem?_cons_zero, List.getElem?_cons_succ] at cb0 cb1 cb2 cb3 cb4 cb5
              have zcb := hbk.lt
              clear hbk
              have C := Lib.hid (Run_yes rA wA bA cA rn rc wn wc bn bc cn cc (some ⟨sb, 0, none⟩) A7 sc m c7 S cl h w6 (I1.out.next (below3 (below3 (below3 (below3 B1.out B2.out (Nat.le_refl _)) B3.out (Nat.le_refl _)) B4.out (Nat.le_refl _)) B5.out (Nat.le_refl _))) M.out.ok (by have := HK40.out; omega) (RS.out.next B5.out) HSS.out.2.1 (row_rd (f := Cs.enc) (size := 3) (fun _ => rfl) (by simp [HCAS.out.len]) HCAS.out.row) (fun x hx => (HCAS.out.els x hx).1.ok (HCAS.out.els x hx).2))
              go_wp2_with fail
              refine C.out.mono ?_
              rintro e w7 ⟨v9, rfl, hrv, hB⟩
              obtain ⟨RA, rrc, hve⟩ : ∃ A c, v9 = .slice A m c := by obtain ⟨A, c, _, h, _⟩ := hrv; exact ⟨A, c, h⟩
              subst hve
              have HRUN := Lib.hid hrv
              have B6 : Hid (Below w6.heap.size w6 w7) := Lib.hid hB
              clear hB hrv C ca0 ca1 ca2 ca3 zca cb0 cb1 cb2 cb3 cb4 cb5 zcb
              have hbk := BX.out.below (below3 (below3 (below3 (below3 B2.out B3.out (Nat.le_refl _)) B4.out (Nat.le_refl _)) B5.out (Nat.le_refl _)) B6.out (Nat.le_refl _)) BX.out.lt
              have ca0 := hbk.cell 0
              have ca1 := hbk.cell 1
              have ca2 := hbk.cell 2
              have ca3 := hbk.cell 3
              simp only [List.getElem?_toArray, List.getElem?_cons_zero, List.getElem?_cons_succ] at ca0 ca1 ca2 ca3
              have zca := hbk.lt
              clear hbk
              have hbk := KB.out.below (below3 (below3 B4.out B5.out (Nat.le_refl _)) B6.out (Nat.le_refl _)) KB.out.lt
              have cb0 := hbk.cell 0
              have cb1 := hbk.cell 1
              have cb2 := hbk.cell 2
              have cb3 := hbk.cell 3
              have cb4 := hbk.cell 4
              have cb5 := hbk.cell 5
              simp only [List.getElem?_toArray, List.getElem?_cons_zero, List.getElem?_cons_succ] at cb0 cb1 cb2 cb3 cb4 cb5
              have zcb := hbk.lt
              clear hbk
              have C := Lib.hid (Bounds_yes rA wA bA cA rn rc wn wc bn bc cn cc (some ⟨lo9, 0, none⟩) (some ⟨ho9, 0, none⟩) (some ⟨lb, 0, none⟩) (some ⟨hb, 0, none⟩) lc9 hc9 lc hc m (by have := HK40.out; omega) ol pl oh ph KL KH TL TH h w7 (I1.out.next (below3 (below3 (below3 (below3 (below3 B1.out B2.out (Nat.le_refl _)) B3.out (Nat.le_refl _)) B4.out (Nat.le_refl _)) B5.out (Nat.le_refl _)) B6.out (Nat.le_refl _))) M.out.ok (HCL.out.next (below3 (below3 B4.out B5.out (Nat.le_refl _)) B6.out (Nat.le_refl _))) (RLO.out.next (below3 (below3 B4.out B5.out (Nat.le_refl _)) B6.out (Nat.le_refl _))) HTT.out.2.1 (RHI.out.next (below3 (below3 B4.out B5.out (Nat.le_refl _)) B6.out (Nat.le_refl _))) HTT.out.2.2.1 (leB_yes (fun i _ => HTT.out.2.2.2.2 i)))
              go_wp2_with fail
              refine C.out.mono ?_
              rintro e w8 ⟨v9, v8, rfl, hr1, hr2, hB⟩
              obtain ⟨LA, lrc, hve⟩ : ∃ A c, v9 = .slice A m c := by obtain ⟨A, c, _, h, _⟩ := hr1; exact ⟨A, c, h⟩
              subst hve
              obtain ⟨UA, urc, hve⟩ : ∃ A c, v8 = .slice A m c := by obtain ⟨A, c, _, h, _⟩ := hr2; exact ⟨A, c, h⟩
              subst hve
              have HLOW := Lib.hid hr1
              have HUPP := Lib.hid hr2
              have B7 : Hid (Below w7.heap.size w7 w8) := Lib.hid hB
              clear hB hr1 hr2 C ca0 ca1 ca2 ca3 zca cb0 cb1 cb2 cb3 cb4 cb5 zcb
              have hbk := BX.out.below (below3 (below3 (below3 (below3 (below3 B2.out B3.out (Nat.le_refl _)) B4.out (Nat.le_refl _)) B5.out (Nat.le_refl _)) B6.out (Nat.le_refl _)) B7.out (Nat.le_refl _)) BX.out.lt
              have ca0 := hbk.cell 0
              have ca1 := hbk.cell 1
              have ca2 := hbk.cell 2
              have ca3 := hbk.cell 3
              simp only [List.getElem?_toArray, List.getElem?_cons_zero, List.getElem?_cons_succ] at ca0 ca1 ca2 ca3
              have zca := hbk.lt
              clear hbk
              have hbk := KB.out.below (below3 (below3 (below3 B4.out B5.out (Nat.le_refl _)) B6.out (Nat.le_refl _)) B7.out (Nat.le_refl _)) KB.out.lt
              have cb0 := hbk.cell 0
              have cb1 := hbk.cell 1
              have cb2 := hbk.cell 2
              have cb3 := hbk.cell 3
              have cb4 := hbk.cell 4
              have cb5 := hbk.cell 5
              simp only [List.getElem?_toArray, List.getElem?_cons_zero, List.getElem?_cons_succ] at cb0 cb1 cb2 cb3 cb4 cb5
              have zcb := hbk.lt
              clear hbk
              have C := Lib.hid (Ride_yes rA wA bA cA rn rc wn wc bn bc cn cc (some ⟨lo9, 0, none⟩) (some ⟨ho9, 0, none⟩) (some ⟨hb, 0, none⟩) lc9 hc9 hc 200 (by omega) ol pl oh ph KL KH TH h w8 (I1.out.next (below3 (below3 (below3 (below3 (below3 (below3 B1.out B2.out (Nat.le_refl _)) B3.out (Nat.le_refl _)) B4.out (Nat.le_refl _)) B5.out (Nat.le_refl _)) B6.out (Nat.le_refl _)) B7.out (Nat.le_refl _))) M.out.ok (HCL.out.next (below3 (below3 (below3 B4.out B5.out (Nat.le_refl _)) B6.out (Nat.le_refl _)) B7.out (Nat.le_refl _))) (RHI.out.next (below3 (below3 (below3 B4.out B5.out (Nat.le_refl _)) B6.out (Nat.le_refl _)) B7.out (Nat.le_refl _))) HTT.out.2.2.1)
              rw [show ((200 : Nat) : Int) = 200 from rfl] at C
              go_wp2_with fail
              refine C.out.mono ?_
              rintro e w9 ⟨n, r, rfl, hri, hB⟩
              have HRI := Lib.hid hri
              have B8 : Hid (Below w8.heap.size w8 w9) := Lib.hid hB
              clear hB hri C ca0 ca1 ca2 ca3 zca cb0 cb1 cb2 cb3 cb4 cb5 zcb
              go_wp2
              have HN : Hid (0 ≤ n ∧ n ≤ 201) := Lib.hid (by have := ride_n HRI.out; omega)
              go_loopw [180] (fun i wr => ∃ k : Nat, k ≤ m ∧ i = .int .i64 ((k : Nat) : Int) ∧ Hid (Below w9.heap.size w9 wr)) (fun i _ => m - (intOf i).toNat)
              case atStart => exact ⟨0, Nat.zero_le _, rfl, Lib.hid (Below.refl _ _)⟩
              case round =>
                obtain ⟨k, hk, rfl, HW9⟩ := hrel
                by_cases hlt : k < m
                · have HLT : Hid (k < m) := Lib.hid hlt
                  have hk40 : k ≤ 40 := by have := HK40.out; omega
                  have hk0 : (0 : Int) ≤ (k : Int) := by omega
                  have hkn : (k : Int) < (m : Int) := by omega
                  have hk4 : (k : Int) ≤ 40 := by omega
                  have hB8 := HW9.out
                  obtain ⟨wk, hwk⟩ : ∃ z, z = wr := ⟨wr, rfl⟩
                  subst hwk
                  have B9 : Hid (Below w9.heap.size w9 wk) := Lib.hid hB8
                  clear hB8
                  obtain ⟨XR, hXR⟩ : ∃ z, z = itC h S (cl.take (k + 1)) := ⟨_, rfl⟩
                  obtain ⟨LR, hLR⟩ : ∃ z, z = itL h KL ol pl TL (k + 1) := ⟨_, rfl⟩
                  obtain ⟨UR, hUR⟩ : ∃ z, z = itL h KH oh ph TH (k + 1) := ⟨_, rfl⟩
                  have HBD : Hid ((XR.length = rn ∧ LR.length = rn ∧ UR.length = rn) ∧ (leB LR XR = true ∧ leB XR UR = true) ∧ ∀ j, XR.getD j 0 ≤ UR.getD j 0) := Lib.hid (by
                    have h1 : (cl.take (k + 1)).length = k + 1 := by rw [List.length_take, HCAS.out.len]; omega
                    have h2 := itC_mid M.out.ok HKKx.out HTTx.out HSS.out.2.2 (cl.take (k + 1)) (fun x hx => (HCAS.out.els x (List.mem_of_mem_take hx)).2)
                    rw [h1, ← hXR, ← hLR, ← hUR] at h2
                    refine ⟨⟨?_, ?_, ?_⟩, ⟨leB_yes (fun i _ => (h2 i).2.1), leB_yes (fun i _ => (h2 i).2.2)⟩, fun j => (h2 j).2.2⟩
                    · rw [hXR, itC_len (by rw [HSS.out.1, HRN.out]), HRN.out]
                    · rw [hLR]; show (nxL h _ KL ol pl).length = rn; rw [nxL_len, HRN.out]
                    · rw [hUR]; show (nxL h _ KH oh ph).length = rn; rw [nxL_len, HRN.out])
                  have HCOOL : Hid (((k : Nat) : Int) + 1 < n → ∀ j, j < rn → UR.getD j 0 ≤ limG h j) := Lib.hid (fun h9 j hj => by
                    rw [hUR]
                    exact ride_cool HRI.out (k := k + 1) (by simpa using h9) j (by rw [HRN.out]; exact hj))
                  obtain ⟨g1, o1, b1, eR, hg1, hc1, hx1⟩ := (HRUN.out.below (below3 (below3 B7.out B8.out (Nat.le_refl _)) B9.out (Nat.le_refl _))).at_ hlt
                  obtain ⟨g2, o2, b2, eL, hg2, hc2, hx2⟩ := (HLOW.out.below (below3 B8.out B9.out (Nat.le_refl _))).at_ hlt
                  obtain ⟨g3, o3, b3, eU, hg3, hc3, hx3⟩ := (HUPP.out.below (below3 B8.out B9.out (Nat.le_refl _))).at_ hlt
                  rw [← hXR] at hx1
                  rw [itC_take_rep h TL (⟨⟨some ⟨lo9, 0, none⟩, rn, lc9, ol, pl⟩, KL⟩ : Cz) (show k + 1 ≤ m by omega), ← hLR] at hx2
                  rw [itC_take_rep h TH (⟨⟨some ⟨ho9, 0, none⟩, rn, hc9, oh, ph⟩, KH⟩ : Cz) (show k + 1 ≤ m by omega), ← hUR] at hx3
                  have HX1 := Lib.hid hx1
                  have HX2 := Lib.hid hx2
                  have HX3 := Lib.hid hx3
                  have HC3 : Hid (∀ V, Below wk.heap.size wk V → V.cell? ⟨g3, o3 + k, none⟩ = some (.slice (some ⟨b3, 0, none⟩) rn rn) ∧ g3 < V.heap.size) := Lib.hid (fun V hV => ⟨(hV.cell (p := ⟨g3, o3 + k, none⟩) hg3).trans hc3, Nat.lt_of_lt_of_le hg3 hV.size⟩)
                  subst eR
                  subst eL
                  subst eU
                  have C1 := Lib.hid (below_any (some ⟨b2, 0, none⟩) (some ⟨b1, 0, none⟩) rn rn rn LR XR wk (by have := HR4.out; omega) (Blk.rdI9 HX2.out HBD.out.1.2.1) (Blk.rdI9 HX1.out HBD.out.1.1))
                  rw [HBD.out.2.1.1] at C1
                  clear hx1 hx2 hx3 hc3 hg3 hXR hLR hUR
                  go_wp2_with fail
                  refine C1.out.mono ?_
                  rintro e u1 ⟨rfl, hB⟩
                  have B10 : Hid (Below wk.heap.size wk u1) := Lib.hid hB
                  clear hB C1 hc1 hc2 hg1 hg2
                  have C2 := Lib.hid (below_any (some ⟨b1, 0, none⟩) (some ⟨b3, 0, none⟩) rn rn rn XR UR u1 (by have := HR4.out; omega) (Blk.rdI9 (HX1.out.below B10.out HX1.out.lt) HBD.out.1.1) (Blk.rdI9 (HX3.out.below B10.out HX3.out.lt) HBD.out.1.2.2))
                  rw [HBD.out.2.1.2] at C2
                  have c3 := (HC3.out u1 B10.out).1
                  have z3 := (HC3.out u1 B10.out).2
                  go_wp2_with fail
                  refine C2.out.mono ?_
                  rintro e u2 ⟨rfl, hB⟩
                  have B11 : Hid (Below u1.heap.size u1 u2) := Lib.hid hB
                  clear hB C2 c3 z3
                  have HRM := Lib.hid (I1.out.rm.next (below3 (below3 (below3 (below3 (below3 (below3 (below3 (below3 (below3 (below3 B1.out B2.out (Nat.le_refl _)) B3.out (Nat.le_refl _)) B4.out (Nat.le_refl _)) B5.out (Nat.le_refl _)) B6.out (Nat.le_refl _)) B7.out (Nat.le_refl _)) B8.out (Nat.le_refl _)) B9.out (Nat.le_refl _)) B10.out (Nat.le_refl _)) B11.out (Nat.le_refl _)))
                  obtain ⟨mb, mo, emA, hmb, _⟩ := HRM.out.2 (by have := HR4.out; dsimp only; omega)
                  dsimp only at emA
                  have HMB : Hid (mb < u2.heap.size) := Lib.hid hmb
                  clear hmb
                  have hbk := BX.out.below (below3 (below3 (below3 (below3 (below3 (below3 (below3 (below3 (below3 B2.out B3.out (Nat.le_refl _)) B4.out (Nat.le_refl _)) B5.out (Nat.le_refl _)) B6.out (Nat.le_refl _)) B7.out (Nat.le_refl _)) B8.out (Nat.le_refl _)) B9.out (Nat.le_refl _)) B10.out (Nat.le_refl _)) B11.out (Nat.le_refl _)) BX.out.lt
                  have ca0 := hbk.cell 0
                  have ca1 := hbk.cell 1
                  have ca2 := hbk.cell 2
                  have ca3 := hbk.cell 3
                  simp only [List.getElem?_toArray, List.getElem?_cons_zero, List.getElem?_cons_succ] at ca0 ca1 ca2 ca3
                  have zca := hbk.lt
                  clear hbk
                  subst emA
                  go_wp2
                  clear ca0 ca1 ca2 ca3 zca
                  go_loopw [204] (fun i wr => ∃ j : Nat, j ≤ rn ∧ i = .int .i64 ((j : Nat) : Int) ∧ Hid (Below u2.heap.size u2 wr)) (fun i _ => rn - (intOf i).toNat)
                  case atStart => exact ⟨0, Nat.zero_le _, rfl, Lib.hid (Below.refl _ _)⟩
                  case round =>
                    obtain ⟨j, hj, rfl, HW8⟩ := hrel
                    by_cases hjt : j < rn
                    · have HJT : Hid (j < rn) := Lib.hid hjt
                      have hj4 : j ≤ 4 := by have := HR4.out; omega
                      have hj0 : (0 : Int) ≤ (j : Int) := by omega
                      have hjn : (j : Int) < (rn : Int) := by omega
                      have hj5 : (j : Int) ≤ 4 := by omega
                      have hB8 := HW8.out
                      have B12 : Hid (Below u2.heap.size u2 wr) := Lib.hid hB8
                      obtain ⟨b9, o9, x0, e9, hb9, hx9, hcx⟩ := (HRM.out.below hB8).at_ hjt
                      simp only [Option.some.injEq, Addr.mk.injEq] at e9
                      obtain ⟨e9, e9', -⟩ := e9
                      rw [← e9] at hb9
                      rw [← e9, ← e9'] at hcx
                      clear e9 e9'
                      obtain ⟨st, lim⟩ := x0
                      have cx0 := hcx 0 (.int .i64 st) rfl
                      have cx1 := hcx 1 (.int .i64 lim) rfl
                      rw [Nat.add_zero] at cx0
                      have z0 : mb < wr.heap.size := Nat.lt_of_lt_of_le hb9 hB8.size
                      have hlim : limG h j = lim := by unfold limG; rw [List.getD_eq_getElem?_getD, hx9]; rfl
                      obtain ⟨xv, hxv⟩ : ∃ z, XR[j]? = some z := ⟨_, List.getElem?_eq_getElem (by rw [HBD.out.1.1]; exact hjt)⟩
                      have hxg : XR.getD j 0 = xv := by rw [List.getD_eq_getElem?_getD, hxv]; rfl
                      obtain ⟨d, hd⟩ : ∃ z, z = decide (((k : Nat) : Int) + 1 < n) := ⟨_, rfl⟩
                      have HD : Hid (decide (((k : Nat) : Int) + 1 < n) = d) := Lib.hid hd.symm
                      have HLE9 : Hid (d = true → decide (lim < xv) = false) := Lib.hid (fun e => by
                        rw [hd] at e
                        have h1 := HCOOL.out (of_decide_eq_true e) j hjt
                        have h2 := HBD.out.2.2 j
                        rw [hxg] at h2
                        rw [hlim] at h1
                        exact decide_eq_false (by omega))
                      have HXV : Hid (Blk wr b1 3 (intsA XR) ∧ XR[j]? = some xv) := Lib.hid ⟨HX1.out.below (below3 (below3 B10.out B11.out (Nat.le_refl _)) B12.out (Nat.le_refl _)) HX1.out.lt, hxv⟩
                      have g1x : wr.heap.size < wr.heap.size + 1 := by omega
                      clear hx9 hcx hb9 hB8 hlim hxv hxg hd hlt hjt
                      go_wp2_with fail
                      obtain ⟨xb, hxb⟩ : ∃ z, z = wr.heap.size := ⟨_, rfl⟩
                      obtain ⟨wx, hwx⟩ : ∃ z, z = wr.alloc (.cells #[.int .i64 st, .int .i64 lim] 61) := ⟨_, rfl⟩
                      have XB : Hid (Blk wx xb 61 #[.int .i64 st, .int .i64 lim]) := Lib.hid (by rw [hwx, hxb]; exact heap_alloc_new wr _)
                      have Swx : Hid (wx.heap.size = xb + 1) := Lib.hid (by rw [hwx, hxb, World.size_alloc])
                      have Zxb : Hid (wr.heap.size ≤ xb) := Lib.hid (by rw [hxb]; exact Nat.le_refl _)
                      have hBn : Below wr.heap.size wr wx := by rw [hwx]; exact (Below.refl _ _).alloc (Nat.le_refl _) _
                      rw [← hwx, ← hxb]
                      have B13 : Hid (Below wr.heap.size wr wx) := Lib.hid hBn
                      clear hwx hxb hBn
                      clear g1x cx0 cx1 z0
                      refine wp_region_free10 12 (by kernel_rfl) [some 209, some 210, some 211, some 212, some 213, some 214, some 215, some 216, some 217, some 218, some 219, some 220, some 221] [[], [0], [], [1, 2], [3], [4], [4], [5, 6, 4], [7, 4], [4], [9, 4], [8, 10, 4], [4, 11]] [(35, .int .i64 (k : Int)), (32, .int .i64 n), (36, .slice (some ⟨b1, 0, none⟩) rn rn), (37, .int .i64 (j : Int)), (38, .pointer (some ⟨xb, 0, none⟩))] (fun W _ => Below wx.heap.size wx W) (coPhi b1 xb j k n xv lim d rn) (fun _ _ _ => True) (by kernel_rfl) (by kernel_rfl) rfl (by kernel_rfl) ?_ ?_ ⟨fun _ => 0, (Below.refl _ _).drew, fun _ _ => trivial⟩ ?_ ?_
                      · intro z hz
                        simp only [List.mem_cons, List.mem_nil_iff, or_false] at hz
                        rcases hz with rfl | rfl | rfl | rfl | rfl
                        all_goals exact ⟨by kernel_rfl, rfl⟩
                      · intro i v W γ hi h
                        rcases i with _ | _ | _ | _ | _ | _ | _ | _ | _ | _ | _ | _ | _ | i
                        all_goals first | exact h | (simp at hi)
                      · refine ⟨?_, ?_, ?_, ?_, ?_, ?_, ?_, ?_, ?_, ?_, ?_, ?_, ?_, trivial⟩
                        all_goals
                          intro a9 W γ ev hcc hff hfx hR hψ hpre
                          simp only [List.mem_cons, List.mem_nil_iff, or_false, forall_eq, forall_eq_or_imp] at hfx
                          obtain ⟨f0, f1, f2, f3, f4⟩ := hfx
                          have HR := Lib.hid hR
                          clear hR
                        · refine ⟨fun hg K hK => ?_, trivial⟩
                          clear hg
                          clear hpre hψ
                          go_simp
                          exact hK _ _ γ HR.out (fun _ _ _ _ h => h) (fun _ _ _ h => h) rfl
                        · refine ⟨fun hg K hK => ?_, trivial⟩
                          clear hg
                          have q0 : ev (.tmp 209) = _ := hpre 0 (by decide)
                          have wv : IntKind.i64.wrap ((k : Int) + 1) = (k : Int) + 1 := IntWalk.i64_in _ (by omega)
                          clear hpre hψ
                          go_simp
                          exact hK _ _ γ HR.out (fun _ _ _ _ h => h) (fun _ _ _ h => h) rfl
                        · refine ⟨fun hg K hK => ?_, trivial⟩
                          clear hg
                          clear hpre hψ
                          go_simp
                          exact hK _ _ γ HR.out (fun _ _ _ _ h => h) (fun _ _ _ h => h) rfl
                        · refine ⟨fun hg K hK => ?_, trivial⟩
                          clear hg
                          have q0 : ev (.tmp 210) = _ := hpre 1 (by decide)
                          have q1 : ev (.tmp 211) = _ := hpre 2 (by decide)
                          have wd := HD.out
                          clear hpre hψ
                          go_simp
                          exact hK _ _ γ HR.out (fun _ _ _ _ h => h) (fun _ _ _ h => h) rfl
                        · refine ⟨fun hg K hK => ?_, trivial⟩
                          clear hg
                          have q0 : ev (.tmp 212) = _ := hpre 3 (by decide)
                          clear hpre hψ
                          go_simp
                          exact hK _ _ γ HR.out (fun _ _ _ _ h => h) (fun _ _ _ h => h) rfl
                        · refine ⟨fun hg K hK => ?_, fun hg h => absurd ((show left _ ev 4 = .bool d from hpre 4 (by decide)).trans (by rw [h])) hg⟩
                          have hg1 : d = true := by have h := Eq.trans (Eq.symm (show left _ ev 4 = .bool d from hpre 4 (by decide))) hg; simpa using h
                          clear hg
                          clear hpre hψ
                          go_simp
                          exact hK _ _ γ HR.out (fun _ _ _ _ h => h) (fun _ _ _ h => h) (fun _ => rfl)
                        · refine ⟨fun hg K hK => ?_, fun hg h => absurd ((show left _ ev 4 = .bool d from hpre 4 (by decide)).trans (by rw [h])) hg⟩
                          have hg1 : d = true := by have h := Eq.trans (Eq.symm (show left _ ev 4 = .bool d from hpre 4 (by decide))) hg; simpa using h
                          clear hg
                          clear hpre hψ
                          go_simp
                          exact hK _ _ γ HR.out (fun _ _ _ _ h => h) (fun _ _ _ h => h) (fun _ => rfl)
                        · refine ⟨fun hg K hK => ?_, fun hg h => absurd ((show left _ ev 4 = .bool d from hpre 4 (by decide)).trans (by rw [h])) hg⟩
                          have hg1 : d = true := by have h := Eq.trans (Eq.symm (show left _ ev 4 = .bool d from hpre 4 (by decide))) hg; simpa using h
                          clear hg
                          have q0 : ev (.tmp 214) = _ := hpre 5 (by decide) hg1
                          have q1 : ev (.tmp 215) = _ := hpre 6 (by decide) hg1
                          clear hpre hψ
                          go_simp
                          exact hK _ _ γ HR.out (fun _ _ _ _ h => h) (fun _ _ _ h => h) (fun _ => rfl)
                        · refine ⟨fun hg K hK => ?_, fun hg h => absurd ((show left _ ev 4 = .bool d from hpre 4 (by decide)).trans (by rw [h])) hg⟩
                          have hg1 : d = true := by have h := Eq.trans (Eq.symm (show left _ ev 4 = .bool d from hpre 4 (by decide))) hg; simpa using h
                          clear hg
                          have q0 : ev (.tmp 216) = _ := hpre 7 (by decide) hg1
                          have hbk := HXV.out.1.below (below3 B13.out HR.out (Nat.le_refl _)) HXV.out.1.lt
                          have cy := hbk.intAt HXV.out.2
                          have zy := hbk.lt
                          clear hbk
                          clear hpre hψ
                          go_simp
                          exact hK _ _ γ HR.out (fun _ _ _ _ h => h) (fun _ _ _ h => h) (fun _ => rfl)
                        · refine ⟨fun hg K hK => ?_, fun hg h => absurd ((show left _ ev 4 = .bool d from hpre 4 (by decide)).trans (by rw [h])) hg⟩
                          have hg1 : d = true := by have h := Eq.trans (Eq.symm (show left _ ev 4 = .bool d from hpre 4 (by decide))) hg; simpa using h
                          clear hg
                          clear hpre hψ
                          go_simp
                          exact hK _ _ γ HR.out (fun _ _ _ _ h => h) (fun _ _ _ h => h) (fun _ => rfl)
                        · refine ⟨fun hg K hK => ?_, fun hg h => absurd ((show left _ ev 4 = .bool d from hpre 4 (by decide)).trans (by rw [h])) hg⟩
                          have hg1 : d = true := by have h := Eq.trans (Eq.symm (show left _ ev 4 = .bool d from hpre 4 (by decide))) hg; simpa using h
                          clear hg
                          have q0 : ev (.tmp 218) = _ := hpre 9 (by decide) hg1
                          have hbk := XB.out.below HR.out XB.out.lt
                          have cx := hbk.cell 1
                          have zx := hbk.lt
                          simp only [List.getElem?_toArray, List.getElem?_cons_zero, List.getElem?_cons_succ] at cx
                          clear hbk
                          clear hpre hψ
                          go_simp
                          exact hK _ _ γ HR.out (fun _ _ _ _ h => h) (fun _ _ _ h => h) (fun _ => rfl)
                        · refine ⟨fun hg K hK => ?_, fun hg h => absurd ((show left _ ev 4 = .bool d from hpre 4 (by decide)).trans (by rw [h])) hg⟩
                          have hg1 : d = true := by have h := Eq.trans (Eq.symm (show left _ ev 4 = .bool d from hpre 4 (by decide))) hg; simpa using h
                          clear hg
                          have q0 : ev (.tmp 217) = _ := hpre 8 (by decide) hg1
                          have q1 : ev (.tmp 219) = _ := hpre 10 (by decide) hg1
                          have wd := HLE9.out hg1
                          clear hpre hψ
                          go_simp
                          exact hK _ _ γ HR.out (fun _ _ _ _ h => h) (fun _ _ _ h => h) (fun _ => rfl)
                        · refine ⟨fun hg K hK => ?_, trivial⟩
                          clear hg
                          have q0 : ev (.tmp 213) = .bool d := hpre 4 (by decide)
                          have q1 : d = true → ev (.tmp 220) = .bool false := hpre 11 (by decide)
                          have HRW := HR
                          clear hpre hψ
                          cases d
                          · clear q1
                            go_simp
                            exact hK _ _ γ HRW.out (fun _ _ _ _ h => h) (fun _ _ _ h => h) rfl
                          · have q1 := q1 rfl
                            go_simp
                            exact hK _ _ γ HRW.out (fun _ _ _ _ h => h) (fun _ _ _ h => h) rfl
                      · intro vs wy γ hvl hR hφ
                        have q12 := hφ 12 (by decide)
                        have HR := Lib.hid hR
                        clear hφ hR
                        match vs, hvl with
                        | [y0, y1, y2, y3, y4, y5, y6, y7, y8, y9, y10, y11, y12], _ =>
                        simp only [List.getD_cons_zero, List.getD_cons_succ] at q12
                        obtain rfl : y12 = _ := q12
                        have HN2 : Hid (Below u2.heap.size u2 wy) := Lib.hid (below3 (below3 B12.out B13.out (Nat.le_refl _)) HR.out (Nat.le_refl _))
                        clear HR
                        simp [putAll]
                        go_wp2
                        go_roundw
                        case rel => exact ⟨j + 1, by have := HJT.out; omega, by go_num, HN2⟩
                        case measure => have := HJT.out; simp [intOf]; omega
                    · obtain rfl : rn = j := by omega
                      have HN2 : Hid (Below w9.heap.size w9 wr) := Lib.hid (below3 (below3 (below3 B9.out B10.out (Nat.le_refl _)) B11.out (Nat.le_refl _)) HW8.out (Nat.le_refl _))
                      go_wp2
                      go_roundw
                      case rel => exact ⟨k + 1, by have := HLT.out; omega, by go_num, HN2⟩
                      case measure => have := HLT.out; simp [intOf]; omega
                · obtain rfl : m = k := by omega
                  obtain ⟨wa, hwa⟩ : ∃ z, z = wr := ⟨wr, rfl⟩
                  subst hwa
                  have hB8 := HW9.out
                  obtain ⟨q, hq, hq2⟩ : ∃ q : Nat, min n 200 = (q : Int) ∧ q ≤ 200 := ⟨(min n 200).toNat, by have := HN.out; omega, by omega⟩
                  have B9 : Hid (Below w9.heap.size w9 wa) := Lib.hid hB8
                  have HQ : Hid (min n 200 = (q : Int) ∧ q ≤ 200) := Lib.hid ⟨hq, hq2⟩
                  have HCZ9 : Hid (∀ W, Below w4.heap.size w4 W → CzOk W W.heap.size rn (⟨⟨some ⟨ho9, 0, none⟩, rn, hc9, oh, ph⟩, KH⟩ : Cz)) := Lib.hid (fun W hW => ⟨rfl, (HCL.out.next hW).rb, (HCL.out.next hW).bb, (HCL.out.next hW).o.2, (HCL.out.next hW).p.2⟩)
                  have KRP := Lib.hid (fun (xb : Nat) (W : World) (hx : Blk W xb 35 #[.slice (some ⟨ho9, 0, none⟩) rn hc9, .int .i64 oh, .int .i64 ph]) => repeatC_any xb 1 q ⟨some ⟨ho9, 0, none⟩, rn, hc9, oh, ph⟩ W hx (by have := HQ.out.2; omega))
                  have KRU := Lib.hid (fun (nb : Nat) (W : World) (hW : Below w4.heap.size w4 W) (hb9 : Blk W nb 35 ((List.replicate q (⟨some ⟨ho9, 0, none⟩, rn, hc9, oh, ph⟩ : Cs)).flatMap Cs.enc).toArray) => Run_yes rA wA bA cA rn rc wn wc bn bc cn cc (some ⟨hb, 0, none⟩) (some ⟨nb, 0, none⟩) hc q q TH (List.replicate q (⟨⟨some ⟨ho9, 0, none⟩, rn, hc9, oh, ph⟩, KH⟩ : Cz)) h W (I1.out.next (below3 (below3 (below3 B1.out B2.out (Nat.le_refl _)) B3.out (Nat.le_refl _)) hW (Nat.le_refl _))) M.out.ok (by have := HQ.out.2; omega) (RHI.out.next hW) HTT.out.2.2.1 (by rw [List.map_replicate]; exact rd_blkC hb9) (fun y hy => by obtain rfl := (List.mem_replicate.1 hy).2; exact HCZ9.out W hW))
                  clear hq hq2 hlt hk HW9
                  go_wp2_with fail
                  refine wp_region_free10 13 (by kernel_rfl) [some 225, some 226, some 227, some 228, some 229, some 230, some 231, some 232, some 233, some 224, some 234, some 235, some 39, some 28] [[], [], [], [2], [3], [], [5], [4, 6], [0, 1, 7, 7], [8], [9], [9], [10, 8, 0, 1, 2, 3, 4, 5, 6, 7, 8, 9, 10], [11, 12, 0, 1, 2, 3, 4, 5, 6, 7, 8, 9, 10, 11, 12]] [(15, .pointer (some ⟨bx, 0, none⟩)), (17, .slice (some ⟨hb, 0, none⟩) rn hc), (18, .pointer (some ⟨kb, 0, none⟩)), (32, .int .i64 n)] (fun W _ => Below wa.heap.size wa W) (wrPhi wa.heap.size rn q hc kb #[.slice rA rn rc, .slice wA wn wc, .slice bA bn bc, .slice cA cn cc] #[.slice (some ⟨ho9, 0, none⟩) rn hc9, .int .i64 oh, .int .i64 ph] (some ⟨hb, 0, none⟩) n ⟨some ⟨ho9, 0, none⟩, rn, hc9, oh, ph⟩ (fun k => itC h TH ((List.replicate q (⟨⟨some ⟨ho9, 0, none⟩, rn, hc9, oh, ph⟩, KH⟩ : Cz)).take k))) (fun _ _ _ => True) (by kernel_rfl) (by kernel_rfl) rfl (by kernel_rfl) ?_ ?_ ⟨fun _ => 0, (Below.refl _ _).drew, fun _ _ => trivial⟩ ?_ ?_
                  · intro z hz
                    simp only [List.mem_cons, List.mem_nil_iff, or_false] at hz
                    rcases hz with rfl | rfl | rfl | rfl
                    all_goals exact ⟨by kernel_rfl, rfl⟩
                  · intro i v W γ hi h
                    rcases i with _ | _ | _ | _ | _ | _ | _ | _ | _ | _ | _ | _ | _ | _ | i
                    all_goals first | exact h | (simp at hi)
                  · refine ⟨?_, ?_, ?_, ?_, ?_, ?_, ?_, ?_, ?_, ?_, ?_, ?_, ?_, ?_, trivial⟩
                    all_goals
                      intro a9 W γ ev hcc hff hfx hR hψ hpre
                      simp only [List.mem_cons, List.mem_nil_iff, or_false, forall_eq, forall_eq_or_imp] at hfx
                      obtain ⟨f0, f1, f2, f3⟩ := hfx
                      have HR := Lib.hid hR
                      clear hR
                    · refine ⟨fun hg K hK => ?_, trivial⟩
                      clear hg
                      have hbk := BX.out.below (below3 (below3 (below3 (below3 (below3 (below3 (below3 (below3 B2.out B3.out (Nat.le_refl _)) B4.out (Nat.le_refl _)) B5.out (Nat.le_refl _)) B6.out (Nat.le_refl _)) B7.out (Nat.le_refl _)) B8.out (Nat.le_refl _)) B9.out (Nat.le_refl _)) HR.out (Nat.le_refl _)) BX.out.lt
                      have hzg := hbk.lt
                      have e0 := hbk.cell 0
                      have e1 := hbk.cell 1
                      have e2 := hbk.cell 2
                      have e3 := hbk.cell 3
                      simp only [List.getElem?_toArray, List.getElem?_cons_zero, List.getElem?_cons_succ] at e0 e1 e2 e3
                      clear hbk
                      clear hpre hψ
                      go_simp
                      exact hK _ _ γ HR.out (fun _ _ _ _ h => h) (fun _ _ _ h => h) rfl
                    · refine ⟨fun hg K hK => ?_, trivial⟩
                      clear hg
                      clear hpre hψ
                      go_simp
                      exact hK _ _ γ HR.out (fun _ _ _ _ h => h) (fun _ _ _ h => h) rfl
                    · refine ⟨fun hg K hK => ?_, trivial⟩
                      clear hg
                      clear hpre hψ
                      go_simp
                      exact hK _ _ γ HR.out (fun _ _ _ _ h => h) (fun _ _ _ h => h) rfl
                    · refine ⟨fun hg K hK => ?_, trivial⟩
                      clear hg
                      have q0 : ev (.tmp 227) = _ := hpre 2 (by decide)
                      have hbk := KB.out.below (below3 (below3 (below3 (below3 (below3 (below3 B4.out B5.out (Nat.le_refl _)) B6.out (Nat.le_refl _)) B7.out (Nat.le_refl _)) B8.out (Nat.le_refl _)) B9.out (Nat.le_refl _)) HR.out (Nat.le_refl _)) KB.out.lt
                      have hzg := hbk.lt
                      have e0 := hbk.cell 0
                      have e1 := hbk.cell 1
                      have e2 := hbk.cell 2
                      have e3 := hbk.cell 3
                      have e4 := hbk.cell 4
                      have e5 := hbk.cell 5
                      simp only [List.getElem?_toArray, List.getElem?_cons_zero, List.getElem?_cons_succ] at e0 e1 e2 e3 e4 e5
                      clear hbk
                      clear hpre hψ
                      go_simp
                      exact hK _ _ γ HR.out (fun _ _ _ _ h => h) (fun _ _ _ h => h) rfl
                    · refine ⟨fun hg K hK => ?_, trivial⟩
                      clear hg
                      have q0 : ev (.tmp 228) = _ := hpre 3 (by decide)
                      have HX := Lib.hid HR.out
                      clear hpre hψ
                      go_simp
                      have hB5 : Below W.heap.size W (W.alloc (.cells #[.slice (some ⟨ho9, 0, none⟩) rn hc9, .int .i64 oh, .int .i64 ph] 35)) := (Below.refl _ _).alloc (Nat.le_refl _) _
                      exact hK _ _ γ (below3 HX.out hB5 (Nat.le_refl _)) (fun j u hj hne h => wrPhi_next hB5 j u h) (fun _ _ _ h => h) ⟨W.heap.size, rfl, heap_alloc_new W _⟩
                    · refine ⟨fun hg K hK => ?_, trivial⟩
                      clear hg
                      clear hpre hψ
                      go_simp
                      exact hK _ _ γ HR.out (fun _ _ _ _ h => h) (fun _ _ _ h => h) rfl
                    · refine ⟨fun hg K hK => ?_, trivial⟩
                      clear hg
                      have q0 : ev (.tmp 230) = _ := hpre 5 (by decide)
                      have wm := HQ.out.1
                      clear hpre hψ
                      go_simp
                      exact hK _ _ γ HR.out (fun _ _ _ _ h => h) (fun _ _ _ h => h) rfl
                    · refine ⟨fun hg K hK => ?_, trivial⟩
                      clear hg
                      have q0 : ev (.tmp 231) = _ := hpre 6 (by decide)
                      obtain ⟨xb, q4, h4⟩ := hpre 4 (by decide)
                      replace q4 : ev (.tmp 229) = _ := q4
                      have C := Lib.hid (KRP.out xb W h4)
                      have HX := Lib.hid HR.out
                      clear hpre hψ h4
                      go_simp
                      refine C.out.mono ?_
                      rintro e w7 ⟨nb, rfl, _, h1, hB9⟩
                      exact hK _ w7 γ (below3 HX.out hB9 (Nat.le_refl _)) (fun j u hj hne h => wrPhi_next hB9 j u h) (fun _ _ _ h => h) ⟨nb, rfl, h1⟩
                    · refine ⟨fun hg K hK => ?_, trivial⟩
                      clear hg
                      have q0 : ev (.tmp 225) = _ := hpre 0 (by decide)
                      have q1 : ev (.tmp 226) = _ := hpre 1 (by decide)
                      obtain ⟨nb, q7, h7⟩ := hpre 7 (by decide)
                      replace q7 : ev (.tmp 232) = _ := q7
                      have C := Lib.hid (KRU.out nb W (below3 (below3 (below3 (below3 (below3 (below3 B4.out B5.out (Nat.le_refl _)) B6.out (Nat.le_refl _)) B7.out (Nat.le_refl _)) B8.out (Nat.le_refl _)) B9.out (Nat.le_refl _)) HR.out (Nat.le_refl _)) h7)
                      have HX := Lib.hid HR.out
                      clear hpre hψ h7
                      go_simp
                      refine C.out.mono ?_
                      rintro e w7 ⟨v, rfl, hrv, hB9⟩
                      obtain ⟨A8, c8, hve⟩ : ∃ A c, v = .slice A q c := by obtain ⟨A, c, _, h, _⟩ := hrv; exact ⟨A, c, h⟩
                      subst hve
                      exact hK _ w7 γ (below3 HX.out hB9 (Nat.le_refl _)) (fun j u hj hne h => wrPhi_next hB9 j u h) (fun _ _ _ h => h) ⟨A8, c8, rfl, RunV.low hrv (Nat.le_trans (Below.refl wa.heap.size wa).size HX.out.size)⟩
                    · refine ⟨fun hg K hK => ?_, trivial⟩
                      clear hg
                      obtain ⟨A8, c8, q0, hrv⟩ := hpre 8 (by decide)
                      replace q0 : ev (.tmp 233) = _ := q0
                      have HX := Lib.hid hrv
                      clear hpre hψ hrv
                      go_simp
                      exact hK _ _ γ HR.out (fun _ _ _ _ h => h) (fun _ _ _ h => h) ⟨A8, c8, rfl, HX.out⟩
                    · refine ⟨fun hg K hK => ?_, trivial⟩
                      clear hg
                      obtain ⟨A8, c8, q0, hrv⟩ := hpre 9 (by decide)
                      replace q0 : ev (.tmp 224) = _ := q0
                      have HX := Lib.hid hrv
                      clear hpre hψ hrv
                      go_simp
                      exact hK _ _ γ HR.out (fun _ _ _ _ h => h) (fun _ _ _ h => h) ⟨A8, c8, rfl, HX.out⟩
                    · refine ⟨fun hg K hK => ?_, trivial⟩
                      clear hg
                      obtain ⟨A8, c8, q0, hrv⟩ := hpre 9 (by decide)
                      replace q0 : ev (.tmp 224) = _ := q0
                      clear hpre hψ hrv
                      go_simp
                      exact hK _ _ γ HR.out (fun _ _ _ _ h => h) (fun _ _ _ h => h) rfl
                    · refine ⟨fun hg K hK => ?_, trivial⟩
                      clear hg
                      obtain ⟨A8, c8, q0, hrv⟩ := hpre 10 (by decide)
                      replace q0 : ev (.tmp 234) = _ := q0
                      have HX := Lib.hid hrv
                      clear hpre hψ hrv
                      go_simp
                      exact hK _ _ γ HR.out (fun _ _ _ _ h => h) (fun _ _ _ h => h) ⟨A8, c8, rfl, HX.out⟩
                    · refine ⟨fun hg K hK => ?_, trivial⟩
                      clear hg
                      have q0 : ev (.tmp 235) = _ := hpre 11 (by decide)
                      clear hpre hψ
                      go_simp
                      exact hK _ _ γ HR.out (fun _ _ _ _ h => h) (fun _ _ _ h => h) rfl
                  · intro vs wb γ hvl hR hφ
                    have q12 := hφ 12 (by decide)
                    have q13 := hφ 13 (by decide)
                    have HR := Lib.hid hR
                    clear hφ hR
                    match vs, hvl with
                    | [y0, y1, y2, y3, y4, y5, y6, y7, y8, y9, y10, y11, y12, y13], _ =>
                    simp only [List.getD_cons_zero, List.getD_cons_succ] at q12 q13
                    obtain ⟨WA0, wc0, e12, hrv⟩ := q12
                    obtain rfl : y12 = _ := e12
                    obtain rfl : y13 = _ := q13
                    have HWO := Lib.hid (RunV.congr hrv (L' := itL h KH oh ph TH) (fun i hi => itC_take_rep h TH (⟨⟨some ⟨ho9, 0, none⟩, rn, hc9, oh, ph⟩, KH⟩ : Cz) (show i + 1 ≤ q by omega)))
                    have hB9 := HR.out
                    have B10 : Hid (Below wa.heap.size wa wb) := Lib.hid hB9
                    clear HR hrv hB9
                    simp [putAll]
                    have hal : Below wb.heap.size wb (wb.alloc (.cells #[.slice (some ⟨hb, 0, none⟩) rn hc] 30)) := (Below.refl _ _).alloc (Nat.le_refl _) _
                    obtain ⟨WA, wc, wd, hrun, hB9, hwo⟩ := wo_app (W := wb.alloc (.cells #[.slice (some ⟨hb, 0, none⟩) rn hc] 30)) (z := wb.heap.size) (rn := rn) (q := q) (c := wc0) (hb := hb) (hc := hc) (g0 := wb.heap.size) (A := WA0) (Lf := itL h KH oh ph TH) 53 HQ.out.2 hal.size (HWO.out.below hal) (RHW.out.below9 (below3 (below3 (below3 (below3 (below3 (below3 (below3 B4.out B5.out (Nat.le_refl _)) B6.out (Nat.le_refl _)) B7.out (Nat.le_refl _)) B8.out (Nat.le_refl _)) B9.out (Nat.le_refl _)) B10.out (Nat.le_refl _)) hal (Nat.le_refl _))) (own_new1 wb wb.heap.size _ (Nat.le_refl _))
                    have HWI := Lib.hid hwo
                    have hBn := hal.trans hB9
                    go_wp2_with (at_builtin; refine wpList_append_run rfl (.tmp 239) (.tmp 240) 53 rfl _ _ _ wd rfl rfl hrun ?_)
                    have B11 : Hid (Below wb.heap.size wb wd) := Lib.hid hBn
                    clear hwo hB9 hal hrun hBn
                    have HQN : Hid (∀ k : Nat, k ≤ q → ∀ (j : Nat) (lim xv : Int), j < rn → limG h j = lim → (itL h KH oh ph TH k).getD j 0 = xv → decide (lim < xv) = true → decide ((k : Int) < n) = false ∧ ((k : Nat) : Int) = n ∧ decide (((j : Nat) : Int) < r) = false) := Lib.hid (by
                      intro k hk j lim xv hj h1 h2 h3
                      have h4 := of_decide_eq_true h3
                      have h5 := HQ.out
                      subst h1
                      subst h2
                      have hno : ¬ NoHot h (itL h KH oh ph TH k) := fun h9 => by
                        have := h9 j (by rw [HRN.out]; exact hj)
                        omega
                      have hkn : ¬ ((k : Nat) : Int) < n := fun h9 => hno (ride_cool HRI.out h9)
                      rcases HRI.out with ⟨e, _, h9⟩ | ⟨kk, _, e, _, hh, _⟩
                      · exact absurd (h9 k (by omega)) hno
                      · obtain rfl : k = kk := by omega
                        refine ⟨decide_eq_false hkn, e.symm, decide_eq_false fun h8 => ?_⟩
                        rcases hh with ⟨_, h9⟩ | ⟨i, _, e2, _, h9⟩
                        · exact hno h9
                        · have := h9 j (by omega)
                          omega)
                    have hq0 : (0 : Int) ≤ (q : Int) := by omega
                    go_loopw [244] (fun i wr => ∃ k : Nat, k ≤ q + 1 ∧ i = .int .i64 ((k : Nat) : Int) ∧ Hid (Below wd.heap.size wd wr)) (fun i _ => (q + 1) - (intOf i).toNat)
                    case atStart => exact ⟨0, Nat.zero_le _, rfl, Lib.hid (Below.refl _ _)⟩
                    case round =>
                      obtain ⟨k, hk, rfl, HW9⟩ := hrel
                      by_cases hlt : k < q + 1
                      · have HLT : Hid (k < q + 1) := Lib.hid hlt
                        have hk0 : (0 : Int) ≤ (k : Int) := by omega
                        have hkn : (k : Int) < (q : Int) + 1 := by omega
                        have hk4 : (k : Int) ≤ 200 := by have := HQ.out.2; omega
                        have hkq : k < q + 1 := by omega
                        have hB8 := HW9.out
                        obtain ⟨wk, hwk⟩ : ∃ z, z = wr := ⟨wr, rfl⟩
                        subst hwk
                        have B12 : Hid (Below wd.heap.size wd wk) := Lib.hid hB8
                        clear hB8
                        obtain ⟨xs9, hxr, hxe⟩ := HWI.out.below B12.out
                        obtain ⟨g1, o1, x9, eW, hg1, hx9, hc9x⟩ := hxr.at_ hlt
                        obtain ⟨hxn, b1, hxA, hrw⟩ := hxe k x9 hx9
                        obtain ⟨xA, xn, xc⟩ := x9
                        dsimp only at hxn hxA hrw
                        subst hxn
                        subst hxA
                        have HXR := Lib.hid hrw
                        have cw := hc9x 0 _ rfl
                        rw [Nat.mul_one, Nat.add_zero] at cw
                        replace cw : wk.cell? ⟨g1, o1 + k, none⟩ = some (.slice (some ⟨b1, 0, none⟩) xn xc) := cw
                        obtain ⟨XR, hXR⟩ : ∃ z, z = itL h KH oh ph TH k := ⟨_, rfl⟩
                        rw [← hXR] at HXR
                        have HXQ := Lib.hid hXR
                        have HXL : Hid (XR.length = xn) := Lib.hid (by
                          rw [hXR]
                          cases k with
                          | zero => exact HTT.out.1.2
                          | succ k => show (nxL h _ KH oh ph).length = xn; rw [nxL_len, HRN.out])
                        have HRM := Lib.hid (I1.out.rm.next (below3 (below3 (below3 (below3 (below3 (below3 (below3 (below3 (below3 (below3 (below3 B1.out B2.out (Nat.le_refl _)) B3.out (Nat.le_refl _)) B4.out (Nat.le_refl _)) B5.out (Nat.le_refl _)) B6.out (Nat.le_refl _)) B7.out (Nat.le_refl _)) B8.out (Nat.le_refl _)) B9.out (Nat.le_refl _)) B10.out (Nat.le_refl _)) B11.out (Nat.le_refl _)) B12.out (Nat.le_refl _)))
                        obtain ⟨mb, mo, emA, hmb, _⟩ := HRM.out.2 (by have := HR4.out; dsimp only; omega)
                        dsimp only at emA
                        have HMB : Hid (mb < wk.heap.size) := Lib.hid hmb
                        clear hmb hrw hx9 hc9x hxr hxe hXR
                        have hbk := BX.out.below (below3 (below3 (below3 (below3 (below3 (below3 (below3 (below3 (below3 (below3 B2.out B3.out (Nat.le_refl _)) B4.out (Nat.le_refl _)) B5.out (Nat.le_refl _)) B6.out (Nat.le_refl _)) B7.out (Nat.le_refl _)) B8.out (Nat.le_refl _)) B9.out (Nat.le_refl _)) B10.out (Nat.le_refl _)) B11.out (Nat.le_refl _)) B12.out (Nat.le_refl _)) BX.out.lt
                        have ca0 := hbk.cell 0
                        have ca1 := hbk.cell 1
                        have ca2 := hbk.cell 2
                        have ca3 := hbk.cell 3
                        simp only [List.getElem?_toArray, List.getElem?_cons_zero, List.getElem?_cons_succ] at ca0 ca1 ca2 ca3
                        have zca := hbk.lt
                        clear hbk
                        subst emA
                        subst eW
                        go_wp2
                        clear ca0 ca1 ca2 ca3 zca cw hg1
                        go_loopw [252] (fun i wr => ∃ j : Nat, j ≤ xn ∧ i = .int .i64 ((j : Nat) : Int) ∧ Hid (Below wk.heap.size wk wr)) (fun i _ => xn - (intOf i).toNat)
                        case atStart => exact ⟨0, Nat.zero_le _, rfl, Lib.hid (Below.refl _ _)⟩
                        case round =>
                          obtain ⟨j, hj, rfl, HW8⟩ := hrel
                          by_cases hjt : j < xn
                          · have HJT : Hid (j < xn) := Lib.hid hjt
                            have hj4 : j ≤ 4 := by have := HR4.out; omega
                            have hj0 : (0 : Int) ≤ (j : Int) := by omega
                            have hjn : (j : Int) < (xn : Int) := by omega
                            have hj5 : (j : Int) ≤ 4 := by omega
                            have hB8 := HW8.out
                            have B13 : Hid (Below wk.heap.size wk wr) := Lib.hid hB8
                            obtain ⟨b9, o9, x0, e9, hb9, hx9, hcx⟩ := (HRM.out.below hB8).at_ hjt
                            simp only [Option.some.injEq, Addr.mk.injEq] at e9
                            obtain ⟨e9, e9', -⟩ := e9
                            rw [← e9] at hb9
                            rw [← e9, ← e9'] at hcx
                            clear e9 e9'
                            obtain ⟨st, lim⟩ := x0
                            have cx0 := hcx 0 (.int .i64 st) rfl
                            have cx1 := hcx 1 (.int .i64 lim) rfl
                            rw [Nat.add_zero] at cx0
                            have z0 : mb < wr.heap.size := Nat.lt_of_lt_of_le hb9 hB8.size
                            have hlim : limG h j = lim := by unfold limG; rw [List.getD_eq_getElem?_getD, hx9]; rfl
                            obtain ⟨xv, hxv⟩ : ∃ z, XR[j]? = some z := ⟨_, List.getElem?_eq_getElem (by rw [HXL.out]; exact hjt)⟩
                            have hxg : (itL h KH oh ph TH k).getD j 0 = xv := by rw [← HXQ.out, List.getD_eq_getElem?_getD, hxv]; rfl
                            obtain ⟨d, hd⟩ : ∃ z, z = decide (lim < xv) := ⟨_, rfl⟩
                            have HD : Hid (decide (lim < xv) = d) := Lib.hid hd.symm
                            have HLE9 : Hid (d = true → decide ((k : Int) < n) = false ∧ ((k : Nat) : Int) = n ∧ decide (((j : Nat) : Int) < r) = false) := Lib.hid (fun e => HQN.out k (by have := HLT.out; omega) j lim xv hjt hlim hxg (by rw [← hd]; exact e))
                            have HXV : Hid (RowW wr b1 3 encI (some ⟨b1, 0, none⟩) XR ∧ XR[j]? = some xv) := Lib.hid ⟨HXR.out.below9 hB8, hxv⟩
                            have g1x : wr.heap.size < wr.heap.size + 1 := by omega
                            clear hx9 hcx hb9 hB8 hlim hxv hxg hd hlt hjt
                            go_wp2_with fail
                            obtain ⟨xb, hxb⟩ : ∃ z, z = wr.heap.size := ⟨_, rfl⟩
                            obtain ⟨wx, hwx⟩ : ∃ z, z = wr.alloc (.cells #[.int .i64 st, .int .i64 lim] 61) := ⟨_, rfl⟩
                            have XB : Hid (Blk wx xb 61 #[.int .i64 st, .int .i64 lim]) := Lib.hid (by rw [hwx, hxb]; exact heap_alloc_new wr _)
                            have Swx : Hid (wx.heap.size = xb + 1) := Lib.hid (by rw [hwx, hxb, World.size_alloc])
                            have Zxb : Hid (wr.heap.size ≤ xb) := Lib.hid (by rw [hxb]; exact Nat.le_refl _)
                            have hBn : Below wr.heap.size wr wx := by rw [hwx]; exact (Below.refl _ _).alloc (Nat.le_refl _) _
                            rw [← hwx, ← hxb]
                            have B14 : Hid (Below wr.heap.size wr wx) := Lib.hid hBn
                            clear hwx hxb hBn
                            clear g1x cx0 cx1 z0
                            refine wp_region_free10 21 (by kernel_rfl) [some 257, some 258, some 259, some 260, some 261, some 262, some 263, some 264, some 265, some 266, some 267, some 268, some 269, some 270, some 271, some 272, some 273, some 274, some 275, some 276, some 277, some 278] [[], [], [0, 1], [2], [], [4], [3, 5], [6], [7], [7], [8, 9, 7], [10, 7, 7], [11], [11], [12, 13, 11], [14, 11, 11], [15], [15], [16, 17, 15], [15, 18, 11], [11, 19, 7], [7, 20]] [(41, .slice (some ⟨b1, 0, none⟩) xn xc), (42, .int .i64 (j : Int)), (43, .pointer (some ⟨xb, 0, none⟩)), (40, .int .i64 (k : Int)), (32, .int .i64 n), (33, .int .i64 r)] (fun W _ => Below wx.heap.size wx W) (woPhi b1 xb j k n r xv lim d xn xc) (fun _ _ _ => True) (by kernel_rfl) (by kernel_rfl) rfl (by kernel_rfl) ?_ ?_ ⟨fun _ => 0, (Below.refl _ _).drew, fun _ _ => trivial⟩ ?_ ?_
                            · intro z hz
                              simp only [List.mem_cons, List.mem_nil_iff, or_false] at hz
                              rcases hz with rfl | rfl | rfl | rfl | rfl | rfl
                              all_goals exact ⟨by kernel_rfl, rfl⟩
                            · intro i v W γ hi h
                              rcases i with _ | _ | _ | _ | _ | _ | _ | _ | _ | _ | _ | _ | _ | _ | _ | _ | _ | _ | _ | _ | _ | _ | i
                              all_goals first | exact h | (simp at hi)
                            · refine ⟨?_, ?_, ?_, ?_, ?_, ?_, ?_, ?_, ?_, ?_, ?_, ?_, ?_, ?_, ?_, ?_, ?_, ?_, ?_, ?_, ?_, ?_, trivial⟩
                              all_goals
                                intro a9 W γ ev hcc hff hfx hR hψ hpre
                                simp only [List.mem_cons, List.mem_nil_iff, or_false, forall_eq, forall_eq_or_imp] at hfx
                                obtain ⟨f0, f1, f2, f3, f4, f5⟩ := hfx
                                have HR := Lib.hid hR
                                clear hR
                              · refine ⟨fun hg K hK => ?_, trivial⟩
                                clear hg
                                clear hpre hψ
                                go_simp
                                exact hK _ _ γ HR.out (fun _ _ _ _ h => h) (fun _ _ _ h => h) rfl
                              · refine ⟨fun hg K hK => ?_, trivial⟩
                                clear hg
                                clear hpre hψ
                                go_simp
                                exact hK _ _ γ HR.out (fun _ _ _ _ h => h) (fun _ _ _ h => h) rfl
                              · refine ⟨fun hg K hK => ?_, trivial⟩
                                clear hg
                                have q0 : ev (.tmp 257) = _ := hpre 0 (by decide)
                                have q1 : ev (.tmp 258) = _ := hpre 1 (by decide)
                                clear hpre hψ
                                go_simp
                                exact hK _ _ γ HR.out (fun _ _ _ _ h => h) (fun _ _ _ h => h) rfl
                              · refine ⟨fun hg K hK => ?_, trivial⟩
                                clear hg
                                have q0 : ev (.tmp 259) = _ := hpre 2 (by decide)
                                have hrw := HXV.out.1.below9 (below3 B14.out HR.out (Nat.le_refl _))
                                obtain ⟨_, zy, _, hcy⟩ := hrw.at_ (size := 1) (fun _ => rfl) HXV.out.2
                                have cy := hcy 0 _ rfl
                                rw [Nat.mul_one, Nat.add_zero] at cy
                                clear hrw hcy
                                clear hpre hψ
                                go_simp
                                exact hK _ _ γ HR.out (fun _ _ _ _ h => h) (fun _ _ _ h => h) rfl
                              · refine ⟨fun hg K hK => ?_, trivial⟩
                                clear hg
                                clear hpre hψ
                                go_simp
                                exact hK _ _ γ HR.out (fun _ _ _ _ h => h) (fun _ _ _ h => h) rfl
                              · refine ⟨fun hg K hK => ?_, trivial⟩
                                clear hg
                                have q0 : ev (.tmp 261) = _ := hpre 4 (by decide)
                                have hbk := XB.out.below HR.out XB.out.lt
                                have cx := hbk.cell 1
                                have zx := hbk.lt
                                simp only [List.getElem?_toArray, List.getElem?_cons_zero, List.getElem?_cons_succ] at cx
                                clear hbk
                                clear hpre hψ
                                go_simp
                                exact hK _ _ γ HR.out (fun _ _ _ _ h => h) (fun _ _ _ h => h) rfl
                              · refine ⟨fun hg K hK => ?_, trivial⟩
                                clear hg
                                have q0 : ev (.tmp 260) = _ := hpre 3 (by decide)
                                have q1 : ev (.tmp 262) = _ := hpre 5 (by decide)
                                have wd := HD.out
                                clear hpre hψ
                                go_simp
                                exact hK _ _ γ HR.out (fun _ _ _ _ h => h) (fun _ _ _ h => h) rfl
                              · refine ⟨fun hg K hK => ?_, trivial⟩
                                clear hg
                                have q0 : ev (.tmp 263) = _ := hpre 6 (by decide)
                                clear hpre hψ
                                go_simp
                                exact hK _ _ γ HR.out (fun _ _ _ _ h => h) (fun _ _ _ h => h) rfl
                              · refine ⟨fun hg K hK => ?_, fun hg h => absurd ((show left _ ev 7 = .bool d from hpre 7 (by decide)).trans (by rw [h])) hg⟩
                                have hg1 : d = true := by have h := Eq.trans (Eq.symm (show left _ ev 7 = .bool d from hpre 7 (by decide))) hg; simpa using h
                                clear hg
                                clear hpre hψ
                                go_simp
                                exact hK _ _ γ HR.out (fun _ _ _ _ h => h) (fun _ _ _ h => h) (fun _ => rfl)
                              · refine ⟨fun hg K hK => ?_, fun hg h => absurd ((show left _ ev 7 = .bool d from hpre 7 (by decide)).trans (by rw [h])) hg⟩
                                have hg1 : d = true := by have h := Eq.trans (Eq.symm (show left _ ev 7 = .bool d from hpre 7 (by decide))) hg; simpa using h
                                clear hg
                                clear hpre hψ
                                go_simp
                                exact hK _ _ γ HR.out (fun _ _ _ _ h => h) (fun _ _ _ h => h) (fun _ => rfl)
                              · refine ⟨fun hg K hK => ?_, fun hg h => absurd ((show left _ ev 7 = .bool d from hpre 7 (by decide)).trans (by rw [h])) hg⟩
                                have hg1 : d = true := by have h := Eq.trans (Eq.symm (show left _ ev 7 = .bool d from hpre 7 (by decide))) hg; simpa using h
                                clear hg
                                have q0 : ev (.tmp 265) = _ := hpre 8 (by decide) hg1
                                have q1 : ev (.tmp 266) = _ := hpre 9 (by decide) hg1
                                have wd := (HLE9.out hg1).1
                                clear hpre hψ
                                go_simp
                                exact hK _ _ γ HR.out (fun _ _ _ _ h => h) (fun _ _ _ h => h) (fun _ => rfl)
                              · refine ⟨fun hg K hK => ?_, fun hg => ⟨fun h => absurd ((show left _ ev 7 = .bool d from hpre 7 (by decide)).trans (by rw [h])) hg, fun _ => rfl⟩⟩
                                have hg1 : d = true := by have h := Eq.trans (Eq.symm (show left _ ev 7 = .bool d from hpre 7 (by decide))) hg; simpa using h
                                clear hg
                                have q0 : ev (.tmp 267) = _ := hpre 10 (by decide) hg1
                                clear hpre hψ
                                go_simp
                                exact hK _ _ γ HR.out (fun _ _ _ _ h => h) (fun _ _ _ h => h) ⟨fun _ => rfl, fun h => by rw [hg1] at h; cases h⟩
                              · refine ⟨fun hg K hK => ?_, fun hg h => absurd ((hpre 11 (by decide)).1 h) hg⟩
                                have hg1 : d = true := by
                                  obtain ⟨h71, h72⟩ := hpre 11 (by decide)
                                  revert h71 h72
                                  cases d
                                  · intro h71 h72
                                    exact absurd ((h72 rfl).symm.trans hg) (by simp [undef])
                                  · intro h71 h72
                                    rfl
                                clear hg
                                clear hpre hψ
                                go_simp
                                exact hK _ _ γ HR.out (fun _ _ _ _ h => h) (fun _ _ _ h => h) (fun _ => rfl)
                              · refine ⟨fun hg K hK => ?_, fun hg h => absurd ((hpre 11 (by decide)).1 h) hg⟩
                                have hg1 : d = true := by
                                  obtain ⟨h71, h72⟩ := hpre 11 (by decide)
                                  revert h71 h72
                                  cases d
                                  · intro h71 h72
                                    exact absurd ((h72 rfl).symm.trans hg) (by simp [undef])
                                  · intro h71 h72
                                    rfl
                                clear hg
                                clear hpre hψ
                                go_simp
                                exact hK _ _ γ HR.out (fun _ _ _ _ h => h) (fun _ _ _ h => h) (fun _ => rfl)
                              · refine ⟨fun hg K hK => ?_, fun hg h => absurd ((hpre 11 (by decide)).1 h) hg⟩
                                have hg1 : d = true := by
                                  obtain ⟨h71, h72⟩ := hpre 11 (by decide)
                                  revert h71 h72
                                  cases d
                                  · intro h71 h72
                                    exact absurd ((h72 rfl).symm.trans hg) (by simp [undef])
                                  · intro h71 h72
                                    rfl
                                clear hg
                                have q0 : ev (.tmp 269) = .int .i64 (k : Int) := hpre 12 (by decide) hg1
                                have q1 : ev (.tmp 270) = .int .i64 n := hpre 13 (by decide) hg1
                                rw [← (HLE9.out hg1).2.1] at q1
                                clear hpre hψ
                                go_simp
                                exact hK _ _ γ HR.out (fun _ _ _ _ h => h) (fun _ _ _ h => h) (fun _ => rfl)
                              · refine ⟨fun hg K hK => ?_, fun hg => ⟨fun h => absurd ((hpre 11 (by decide)).1 h) hg, fun _ => rfl⟩⟩
                                have hg1 : d = true := by
                                  obtain ⟨h71, h72⟩ := hpre 11 (by decide)
                                  revert h71 h72
                                  cases d
                                  · intro h71 h72
                                    exact absurd ((h72 rfl).symm.trans hg) (by simp [undef])
                                  · intro h71 h72
                                    rfl
                                clear hg
                                have q0 : ev (.tmp 271) = _ := hpre 14 (by decide) hg1
                                clear hpre hψ
                                go_simp
                                exact hK _ _ γ HR.out (fun _ _ _ _ h => h) (fun _ _ _ h => h) ⟨fun _ => rfl, fun h => by rw [hg1] at h; cases h⟩
                              · refine ⟨fun hg K hK => ?_, fun hg h => absurd ((hpre 15 (by decide)).1 h) hg⟩
                                have hg1 : d = true := by
                                  obtain ⟨h71, h72⟩ := hpre 15 (by decide)
                                  revert h71 h72
                                  cases d
                                  · intro h71 h72
                                    exact absurd ((h72 rfl).symm.trans hg) (by simp [undef])
                                  · intro h71 h72
                                    rfl
                                clear hg
                                clear hpre hψ
                                go_simp
                                exact hK _ _ γ HR.out (fun _ _ _ _ h => h) (fun _ _ _ h => h) (fun _ => rfl)
                              · refine ⟨fun hg K hK => ?_, fun hg h => absurd ((hpre 15 (by decide)).1 h) hg⟩
                                have hg1 : d = true := by
                                  obtain ⟨h71, h72⟩ := hpre 15 (by decide)
                                  revert h71 h72
                                  cases d
                                  · intro h71 h72
                                    exact absurd ((h72 rfl).symm.trans hg) (by simp [undef])
                                  · intro h71 h72
                                    rfl
                                clear hg
                                clear hpre hψ
                                go_simp
                                exact hK _ _ γ HR.out (fun _ _ _ _ h => h) (fun _ _ _ h => h) (fun _ => rfl)
                              · refine ⟨fun hg K hK => ?_, fun hg h => absurd ((hpre 15 (by decide)).1 h) hg⟩
                                have hg1 : d = true := by
                                  obtain ⟨h71, h72⟩ := hpre 15 (by decide)
                                  revert h71 h72
                                  cases d
                                  · intro h71 h72
                                    exact absurd ((h72 rfl).symm.trans hg) (by simp [undef])
                                  · intro h71 h72
                                    rfl
                                clear hg
                                have q0 : ev (.tmp 273) = _ := hpre 16 (by decide) hg1
                                have q1 : ev (.tmp 274) = _ := hpre 17 (by decide) hg1
                                have wd := (HLE9.out hg1).2.2
                                clear hpre hψ
                                go_simp
                                exact hK _ _ γ HR.out (fun _ _ _ _ h => h) (fun _ _ _ h => h) (fun _ => rfl)
                              · refine ⟨fun hg K hK => ?_, fun hg h => absurd ((hpre 11 (by decide)).1 h) hg⟩
                                have hg1 : d = true := by
                                  obtain ⟨h71, h72⟩ := hpre 11 (by decide)
                                  revert h71 h72
                                  cases d
                                  · intro h71 h72
                                    exact absurd ((h72 rfl).symm.trans hg) (by simp [undef])
                                  · intro h71 h72
                                    rfl
                                clear hg
                                have q0 : ev (.tmp 272) = _ := (hpre 15 (by decide)).1 hg1
                                have q1 : ev (.tmp 275) = _ := hpre 18 (by decide) hg1
                                clear hpre hψ
                                go_simp
                                exact hK _ _ γ HR.out (fun _ _ _ _ h => h) (fun _ _ _ h => h) (fun _ => rfl)
                              · refine ⟨fun hg K hK => ?_, fun hg h => absurd ((show left _ ev 7 = .bool d from hpre 7 (by decide)).trans (by rw [h])) hg⟩
                                have hg1 : d = true := by have h := Eq.trans (Eq.symm (show left _ ev 7 = .bool d from hpre 7 (by decide))) hg; simpa using h
                                clear hg
                                have q0 : ev (.tmp 268) = _ := (hpre 11 (by decide)).1 hg1
                                have q1 : ev (.tmp 276) = _ := hpre 19 (by decide) hg1
                                clear hpre hψ
                                go_simp
                                exact hK _ _ γ HR.out (fun _ _ _ _ h => h) (fun _ _ _ h => h) (fun _ => rfl)
                              · refine ⟨fun hg K hK => ?_, trivial⟩
                                clear hg
                                have q0 : ev (.tmp 264) = .bool d := hpre 7 (by decide)
                                have q1 : d = true → ev (.tmp 277) = .bool false := hpre 20 (by decide)
                                have HRW := HR
                                clear hpre hψ
                                cases d
                                · clear q1
                                  go_simp
                                  exact hK _ _ γ HRW.out (fun _ _ _ _ h => h) (fun _ _ _ h => h) rfl
                                · have q1 := q1 rfl
                                  go_simp
                                  exact hK _ _ γ HRW.out (fun _ _ _ _ h => h) (fun _ _ _ h => h) rfl
                            · intro vs wy γ hvl hR hφ
                              have q21 := hφ 21 (by decide)
                              have HR := Lib.hid hR
                              clear hφ hR
                              match vs, hvl with
                              | [y0, y1, y2, y3, y4, y5, y6, y7, y8, y9, y10, y11, y12, y13, y14, y15, y16, y17, y18, y19, y20, y21], _ =>
                              simp only [List.getD_cons_zero, List.getD_cons_succ] at q21
                              obtain rfl : y21 = _ := q21
                              have HN2 : Hid (Below wk.heap.size wk wy) := Lib.hid (below3 (below3 B13.out B14.out (Nat.le_refl _)) HR.out (Nat.le_refl _))
                              clear HR
                              simp [putAll]
                              go_wp2
                              go_roundw
                              case rel => exact ⟨j + 1, by have := HJT.out; omega, by go_num, HN2⟩
                              case measure => have := HJT.out; simp [intOf]; omega
                          · obtain rfl : xn = j := by omega
                            have HN2 : Hid (Below wd.heap.size wd wr) := Lib.hid (below3 B12.out HW8.out (Nat.le_refl _))
                            go_wp2
                            go_roundw
                            case rel => exact ⟨k + 1, by have := HLT.out; omega, by go_num, HN2⟩
                            case measure => have := HLT.out; simp [intOf]; omega
                      · obtain ⟨we, hwe⟩ : ∃ z, z = wr := ⟨wr, rfl⟩
                        subst hwe
                        have HWE := Lib.hid HW9.out
                        obtain rfl : k = q + 1 := by omega
                        clear hlt hk HW9
                        have hq9 : ((q + 1 : Nat) : Int) = (q : Int) + 1 := by omega
                        have B12 : Hid (Below wd.heap.size wd we) := Lib.hid HWE.out
                        clear HWE
                        rcases HRI.out with ⟨en, er, _⟩ | ⟨k, hk2, en, er, hh, _⟩
                        · obtain rfl : n = 201 := by omega
                          subst er
                          clear en
                          go_wp2_with fail
                          refine (KA.out _).mono ?_
                          rintro e wz ⟨rfl, hB⟩
                          have HF : Hid (Below w.heap.size w wz) := Lib.hid (below3 (below3 (below3 (below3 (below3 (below3 (below3 (below3 (below3 (below3 (below3 (below3 (below3 B0.out B1.out (Nat.le_refl _)) B2.out (Nat.le_refl _)) B3.out (Nat.le_refl _)) B4.out (Nat.le_refl _)) B5.out (Nat.le_refl _)) B6.out (Nat.le_refl _)) B7.out (Nat.le_refl _)) B8.out (Nat.le_refl _)) B9.out (Nat.le_refl _)) B10.out (Nat.le_refl _)) B11.out (Nat.le_refl _)) B12.out (Nat.le_refl _)) hB (Nat.le_refl _))
                          clear hB
                          go_wp2
                          go_ret
                          exact ⟨rfl, HF.out⟩
                        · rcases hh with ⟨er2, _⟩ | ⟨i, hi, er2, hxl, _⟩
                          · exact absurd er2 er
                          subst en
                          subst er2
                          obtain rfl : q = k := by have := HQ.out; omega
                          obtain ⟨xs9, hxr, hxe⟩ := HWI.out.below B12.out
                          obtain ⟨g1, o1, x9, eW, hg1, hx9, hc9x⟩ := hxr.at_ (show q < q + 1 by omega)
                          obtain ⟨hxn, b1, hxA, hrw⟩ := hxe q x9 hx9
                          obtain ⟨xA, xn, xc⟩ := x9
                          dsimp only at hxn hxA hrw
                          subst hxn
                          subst hxA
                          have hir : i < xn := by rw [← HRN.out]; exact hi
                          have cw := hc9x 0 _ rfl
                          rw [Nat.mul_one, Nat.add_zero] at cw
                          replace cw : we.cell? ⟨g1, o1 + q, none⟩ = some (.slice (some ⟨b1, 0, none⟩) xn xc) := cw
                          have hXL : (itL h KH oh ph TH q).length = xn := by
                            cases q with
                            | zero => exact HTT.out.1.2
                            | succ k => show (nxL h _ KH oh ph).length = xn; rw [nxL_len, HRN.out]
                          obtain ⟨xv, hxv⟩ : ∃ z, (itL h KH oh ph TH q)[i]? = some z := ⟨_, List.getElem?_eq_getElem (by rw [hXL]; exact hir)⟩
                          have hxg : (itL h KH oh ph TH q).getD i 0 = xv := by rw [List.getD_eq_getElem?_getD, hxv]; rfl
                          obtain ⟨_, zy, _, hcy⟩ := hrw.at_ (size := 1) (fun _ => rfl) hxv
                          have cy := hcy 0 _ rfl
                          rw [Nat.mul_one, Nat.add_zero] at cy
                          obtain ⟨mb, mo, x0, emA, hmb, hx0, hcx⟩ := (I1.out.rm.next (below3 (below3 (below3 (below3 (below3 (below3 (below3 (below3 (below3 (below3 (below3 B1.out B2.out (Nat.le_refl _)) B3.out (Nat.le_refl _)) B4.out (Nat.le_refl _)) B5.out (Nat.le_refl _)) B6.out (Nat.le_refl _)) B7.out (Nat.le_refl _)) B8.out (Nat.le_refl _)) B9.out (Nat.le_refl _)) B10.out (Nat.le_refl _)) B11.out (Nat.le_refl _)) B12.out (Nat.le_refl _))).at_ hir
                          obtain ⟨st, lim⟩ := x0
                          have cx1 := hcx 1 (.int .i64 lim) rfl
                          have hlim : limG h i = lim := by unfold limG; rw [List.getD_eq_getElem?_getD, hx0]; rfl
                          have HCE : Hid ((we.cell? ⟨g1, o1 + q, none⟩ = some (.slice (some ⟨b1, 0, none⟩) xn xc) ∧ g1 < we.heap.size) ∧ (we.cell? ⟨b1, i, none⟩ = some (.int .i64 xv) ∧ b1 < we.heap.size) ∧ (we.cell? ⟨mb, mo + i * 2 + 1, none⟩ = some (.int .i64 lim) ∧ mb < we.heap.size)) := Lib.hid ⟨⟨cw, hg1⟩, ⟨cy, zy⟩, ⟨cx1, hmb⟩⟩
                          have HDT : Hid (decide (lim < xv) = true) := Lib.hid (decide_eq_true (by rw [← hlim, ← hxg]; exact hxl))
                          have hi0 : (0 : Int) ≤ (i : Int) := by omega
                          have hin : (i : Int) < (xn : Int) := by omega
                          have hi4 : (i : Int) ≤ 4 := by have := HR4.out; omega
                          have hiN : i < xn := hir
                          have hk0 : (0 : Int) ≤ (q : Int) := by omega
                          have hkn : (q : Int) < (q : Int) + 1 := by omega
                          have hkN : q < q + 1 := by omega
                          have hk4 : (q : Int) ≤ 200 := by have := HQ.out.2; omega
                          have hk201 : ¬ (q : Int) = 201 := by omega
                          dsimp only at emA
                          clear cw hg1 cy zy cx1 hmb hlim hxg hxl hxv hcx hcy hx0 hrw hx9 hc9x hxr hxe er hi hir hXL
                          subst emA
                          subst eW
                          go_wp2_with fail
                          refine wp_region_free10 21 (by kernel_rfl) [some 288, some 289, some 290, some 291, some 292, some 293, some 294, some 295, some 296, some 297, some 298, some 299, some 300, some 301, some 302, some 303, some 304, some 305, some 306, some 307, some 308, some 14] [[], [0], [1], [2], [2], [3, 4, 2], [5, 2], [2], [6, 7, 2], [8, 2], [2], [10, 2], [2], [11, 12, 2], [13, 2], [14, 2], [9, 15, 2], [2, 16], [17, 2], [18, 18], [18, 19], [20, 19, 0, 1, 2, 3, 4, 5, 6, 7, 8, 9, 10, 11, 12, 13, 14, 15, 16, 17, 18, 19, 20]] [(33, .int .i64 (i : Int)), (39, .slice (some ⟨g1, o1, none⟩) (q + 1) wc), (32, .int .i64 (q : Int)), (15, .pointer (some ⟨bx, 0, none⟩))] (fun W _ => Below we.heap.size we W) (enPhi bx g1 o1 b1 mb mo q i xv lim xn q wc xc rc) (fun _ _ _ => True) (by kernel_rfl) (by kernel_rfl) rfl (by kernel_rfl) ?_ ?_ ⟨fun _ => 0, (Below.refl _ _).drew, fun _ _ => trivial⟩ ?_ ?_
                          · intro z hz
                            simp only [List.mem_cons, List.mem_nil_iff, or_false] at hz
                            rcases hz with rfl | rfl | rfl | rfl
                            all_goals exact ⟨by kernel_rfl, rfl⟩
                          · intro i v W γ hi h
                            rcases i with _ | _ | _ | _ | _ | _ | _ | _ | _ | _ | _ | _ | _ | _ | _ | _ | _ | _ | _ | _ | _ | _ | i
                            all_goals first | exact h | (simp at hi)
                          · refine ⟨?_, ?_, ?_, ?_, ?_, ?_, ?_, ?_, ?_, ?_, ?_, ?_, ?_, ?_, ?_, ?_, ?_, ?_, ?_, ?_, ?_, ?_, trivial⟩
                            all_goals
                              intro a9 W γ ev hcc hff hfx hR hψ hpre
                              simp only [List.mem_cons, List.mem_nil_iff, or_false, forall_eq, forall_eq_or_imp] at hfx
                              obtain ⟨f0, f1, f2, f3⟩ := hfx
                              have HR := Lib.hid hR
                              clear hR
                            · refine ⟨fun hg K hK => ?_, trivial⟩
                              clear hg
                              clear hpre hψ
                              go_simp
                              exact hK _ _ γ HR.out (fun _ _ _ _ h => h) (fun _ _ _ h => h) rfl
                            · refine ⟨fun hg K hK => ?_, trivial⟩
                              clear hg
                              have q0 : ev (.tmp 288) = _ := hpre 0 (by decide)
                              have wd : decide ((0 : Int) ≤ (i : Int)) = true := decide_eq_true hi0
                              clear hpre hψ
                              go_simp
                              exact hK _ _ γ HR.out (fun _ _ _ _ h => h) (fun _ _ _ h => h) rfl
                            · refine ⟨fun hg K hK => ?_, trivial⟩
                              clear hg
                              have q0 : ev (.tmp 289) = _ := hpre 1 (by decide)
                              clear hpre hψ
                              go_simp
                              exact hK _ _ γ HR.out (fun _ _ _ _ h => h) (fun _ _ _ h => h) rfl
                            · refine ⟨fun hg K hK => ?_, fun hg => (hg (hpre 2 (by decide))).elim⟩
                              clear hg
                              clear hpre hψ
                              go_simp
                              exact hK _ _ γ HR.out (fun _ _ _ _ h => h) (fun _ _ _ h => h) rfl
                            · refine ⟨fun hg K hK => ?_, fun hg => (hg (hpre 2 (by decide))).elim⟩
                              clear hg
                              clear hpre hψ
                              go_simp
                              exact hK _ _ γ HR.out (fun _ _ _ _ h => h) (fun _ _ _ h => h) rfl
                            · refine ⟨fun hg K hK => ?_, fun hg => (hg (hpre 2 (by decide))).elim⟩
                              clear hg
                              have q0 : ev (.tmp 291) = _ := hpre 3 (by decide)
                              have q1 : ev (.tmp 292) = _ := hpre 4 (by decide)
                              clear hpre hψ
                              go_simp
                              exact hK _ _ γ HR.out (fun _ _ _ _ h => h) (fun _ _ _ h => h) rfl
                            · refine ⟨fun hg K hK => ?_, fun hg => (hg (hpre 2 (by decide))).elim⟩
                              clear hg
                              have q0 : ev (.tmp 293) = _ := hpre 5 (by decide)
                              have cw := (HR.out.cell (p := ⟨g1, o1 + q, none⟩) HCE.out.1.2).trans HCE.out.1.1
                              have zw : g1 < W.heap.size := Nat.lt_of_lt_of_le HCE.out.1.2 HR.out.size
                              clear hpre hψ
                              go_simp
                              exact hK _ _ γ HR.out (fun _ _ _ _ h => h) (fun _ _ _ h => h) rfl
                            · refine ⟨fun hg K hK => ?_, fun hg => (hg (hpre 2 (by decide))).elim⟩
                              clear hg
                              clear hpre hψ
                              go_simp
                              exact hK _ _ γ HR.out (fun _ _ _ _ h => h) (fun _ _ _ h => h) rfl
                            · refine ⟨fun hg K hK => ?_, fun hg => (hg (hpre 2 (by decide))).elim⟩
                              clear hg
                              have q0 : ev (.tmp 294) = _ := hpre 6 (by decide)
                              have q1 : ev (.tmp 295) = _ := hpre 7 (by decide)
                              clear hpre hψ
                              go_simp
                              exact hK _ _ γ HR.out (fun _ _ _ _ h => h) (fun _ _ _ h => h) rfl
                            · refine ⟨fun hg K hK => ?_, fun hg => (hg (hpre 2 (by decide))).elim⟩
                              clear hg
                              have q0 : ev (.tmp 296) = _ := hpre 8 (by decide)
                              have cw := (HR.out.cell (p := ⟨b1, i, none⟩) HCE.out.2.1.2).trans HCE.out.2.1.1
                              have zw : b1 < W.heap.size := Nat.lt_of_lt_of_le HCE.out.2.1.2 HR.out.size
                              clear hpre hψ
                              go_simp
                              exact hK _ _ γ HR.out (fun _ _ _ _ h => h) (fun _ _ _ h => h) rfl
                            · refine ⟨fun hg K hK => ?_, fun hg => (hg (hpre 2 (by decide))).elim⟩
                              clear hg
                              clear hpre hψ
                              go_simp
                              exact hK _ _ γ HR.out (fun _ _ _ _ h => h) (fun _ _ _ h => h) rfl
                            · refine ⟨fun hg K hK => ?_, fun hg => (hg (hpre 2 (by decide))).elim⟩
                              clear hg
                              have q0 : ev (.tmp 298) = _ := hpre 10 (by decide)
                              have hbk := BX.out.below (below3 (below3 (below3 (below3 (below3 (below3 (below3 (below3 (below3 (below3 (below3 B2.out B3.out (Nat.le_refl _)) B4.out (Nat.le_refl _)) B5.out (Nat.le_refl _)) B6.out (Nat.le_refl _)) B7.out (Nat.le_refl _)) B8.out (Nat.le_refl _)) B9.out (Nat.le_refl _)) B10.out (Nat.le_refl _)) B11.out (Nat.le_refl _)) B12.out (Nat.le_refl _)) HR.out (Nat.le_refl _)) BX.out.lt
                              have hzg := hbk.lt
                              have e0 := hbk.cell 0
                              simp only [List.getElem?_toArray, List.getElem?_cons_zero] at e0
                              clear hbk
                              clear hpre hψ
                              go_simp
                              exact hK _ _ γ HR.out (fun _ _ _ _ h => h) (fun _ _ _ h => h) rfl
                            · refine ⟨fun hg K hK => ?_, fun hg => (hg (hpre 2 (by decide))).elim⟩
                              clear hg
                              clear hpre hψ
                              go_simp
                              exact hK _ _ γ HR.out (fun _ _ _ _ h => h) (fun _ _ _ h => h) rfl
                            · refine ⟨fun hg K hK => ?_, fun hg => (hg (hpre 2 (by decide))).elim⟩
                              clear hg
                              have q0 : ev (.tmp 299) = _ := hpre 11 (by decide)
                              have q1 : ev (.tmp 300) = _ := hpre 12 (by decide)
                              clear hpre hψ
                              go_simp
                              exact hK _ _ γ HR.out (fun _ _ _ _ h => h) (fun _ _ _ h => h) rfl
                            · refine ⟨fun hg K hK => ?_, fun hg => (hg (hpre 2 (by decide))).elim⟩
                              clear hg
                              have q0 : ev (.tmp 301) = _ := hpre 13 (by decide)
                              clear hpre hψ
                              go_simp
                              exact hK _ _ γ HR.out (fun _ _ _ _ h => h) (fun _ _ _ h => h) rfl
                            · refine ⟨fun hg K hK => ?_, fun hg => (hg (hpre 2 (by decide))).elim⟩
                              clear hg
                              have q0 : ev (.tmp 302) = _ := hpre 14 (by decide)
                              have cw := (HR.out.cell (p := ⟨mb, mo + i * 2 + 1, none⟩) HCE.out.2.2.2).trans HCE.out.2.2.1
                              have zw : mb < W.heap.size := Nat.lt_of_lt_of_le HCE.out.2.2.2 HR.out.size
                              clear hpre hψ
                              go_simp
                              exact hK _ _ γ HR.out (fun _ _ _ _ h => h) (fun _ _ _ h => h) rfl
                            · refine ⟨fun hg K hK => ?_, fun hg => (hg (hpre 2 (by decide))).elim⟩
                              clear hg
                              have q0 : ev (.tmp 297) = _ := hpre 9 (by decide)
                              have q1 : ev (.tmp 303) = _ := hpre 15 (by decide)
                              have wd := HDT.out
                              clear hpre hψ
                              go_simp
                              exact hK _ _ γ HR.out (fun _ _ _ _ h => h) (fun _ _ _ h => h) rfl
                            · refine ⟨fun hg K hK => ?_, trivial⟩
                              clear hg
                              have q0 : ev (.tmp 290) = _ := hpre 2 (by decide)
                              have q1 : ev (.tmp 304) = _ := hpre 16 (by decide)
                              clear hpre hψ
                              go_simp
                              exact hK _ _ γ HR.out (fun _ _ _ _ h => h) (fun _ _ _ h => h) rfl
                            · refine ⟨fun hg K hK => ?_, trivial⟩
                              clear hg
                              have q0 : ev (.tmp 305) = _ := hpre 17 (by decide)
                              clear hpre hψ
                              go_simp
                              exact hK _ _ γ HR.out (fun _ _ _ _ h => h) (fun _ _ _ h => h) rfl
                            · refine ⟨fun hg K hK => ?_, fun hg => (hg (hpre 18 (by decide))).elim⟩
                              clear hg
                              have HX := HR
                              clear hpre hψ
                              go_simp
                              refine (KA.out W).mono ?_
                              rintro e w7 ⟨rfl, hB9⟩
                              exact hK _ w7 γ (below3 HX.out hB9 (Nat.le_refl _)) (fun j u hj hne h => enPhi_w h) (fun _ _ _ h => h) rfl
                            · refine ⟨fun hg K hK => ?_, trivial⟩
                              clear hg
                              have q0 : ev (.tmp 306) = _ := hpre 18 (by decide)
                              have q1 : ev (.tmp 307) = _ := hpre 19 (by decide)
                              clear hpre hψ
                              go_simp
                              exact hK _ _ γ HR.out (fun _ _ _ _ h => h) (fun _ _ _ h => h) rfl
                            · refine ⟨fun hg K hK => ?_, trivial⟩
                              clear hg
                              have q0 : ev (.tmp 308) = _ := hpre 20 (by decide)
                              clear hpre hψ
                              go_simp
                              exact hK _ _ γ HR.out (fun _ _ _ _ h => h) (fun _ _ _ h => h) rfl
                          · intro vs wz γ hvl hR hφ
                            have q21 := hφ 21 (by decide)
                            have HR := Lib.hid hR
                            clear hφ hR
                            match vs, hvl with
                            | [y0, y1, y2, y3, y4, y5, y6, y7, y8, y9, y10, y11, y12, y13, y14, y15, y16, y17, y18, y19, y20, y21], _ =>
                            simp only [List.getD_cons_zero, List.getD_cons_succ] at q21
                            obtain rfl : y21 = _ := q21
                            have HF : Hid (Below w.heap.size w wz) := Lib.hid (below3 (below3 (below3 (below3 (below3 (below3 (below3 (below3 (below3 (below3 (below3 (below3 (below3 B0.out B1.out (Nat.le_refl _)) B2.out (Nat.le_refl _)) B3.out (Nat.le_refl _)) B4.out (Nat.le_refl _)) B5.out (Nat.le_refl _)) B6.out (Nat.le_refl _)) B7.out (Nat.le_refl _)) B8.out (Nat.le_refl _)) B9.out (Nat.le_refl _)) B10.out (Nat.le_refl _)) B11.out (Nat.le_refl _)) B12.out (Nat.le_refl _)) HR.out (Nat.le_refl _))
                            clear HR
                            simp [putAll]
                            go_wp2
                            go_ret
                            exact ⟨rfl, HF.out⟩
end Go.Proofs.Ytldbciflpnhfpaa
