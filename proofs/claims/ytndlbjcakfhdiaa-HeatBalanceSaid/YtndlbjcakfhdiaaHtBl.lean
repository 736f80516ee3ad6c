/- law07: HeatBalance. -/
import Derived.Test.YtndlbjcakfhdiaaHtBa

set_option linter.unusedSimpArgs false
set_option linter.unusedVariables false
namespace Go.Proofs.Ytndlbjcakfhdiaa
open Go.RowKit

def b13Phi (xb yb tb n yc tc k : Nat) (tA : Option Addr) (S st y x d q : Int) : Nat → Value → World → (Nat → Nat) → Prop
  | 0, v, _, _ => v = .int .i64 S
  | 1, v, _, _ => v = .pointer (some ⟨xb, 0, none⟩)
  | 2, v, _, _ => v = .int .i64 st
  | 3, v, _, _ => v = .slice (some ⟨yb, 0, none⟩) n n
  | 4, v, _, _ => v = .int .i64 (k : Int)
  | 5, v, _, _ => v = .pointer (some ⟨yb, k, none⟩)
  | 6, v, _, _ => v = .int .i64 y
  | 7, v, _, _ => v = .slice tA n tc
  | 8, v, _, _ => v = .int .i64 (k : Int)
  | 9, v, _, _ => v = .pointer (some ⟨tb, k, none⟩)
  | 10, v, _, _ => v = .int .i64 x
  | 11, v, _, _ => v = .int .i64 d
  | 12, v, _, _ => v = .int .i64 q
  | 13, v, _, _ => v = .int .i64 (S + q)
  | 14, v, _, _ => v = .int .i64 (S + q)
  | _, _, _, _ => True
def b21Phi (xb kb tb n tc a : Nat) (tA : Option Addr) (S p out x d q : Int) : Nat → Value → World → (Nat → Nat) → Prop
  | 0, v, _, _ => v = .int .i64 S
  | 1, v, _, _ => v = .pointer (some ⟨xb, 2, none⟩)
  | 2, v, _, _ => v = .int .i64 p
  | 3, v, _, _ => v = .pointer (some ⟨kb, 1, none⟩)
  | 4, v, _, _ => v = .int .i64 out
  | 5, v, _, _ => v = .slice tA n tc
  | 6, v, _, _ => v = .pointer (some ⟨xb, 0, none⟩)
  | 7, v, _, _ => v = .int .i64 (a : Int)
  | 8, v, _, _ => v = .pointer (some ⟨tb, a, none⟩)
  | 9, v, _, _ => v = .int .i64 x
  | 10, v, _, _ => v = .int .i64 d
  | 11, v, _, _ => v = .int .i64 q
  | 12, v, _, _ => v = .int .i64 (S - q)
  | 13, v, _, _ => v = .int .i64 (S - q)
  | _, _, _, _ => True
def b26Phi (bx cb co tb n cn cc tc k rm : Nat) (tA : Option Addr) (N x sp : Int) (c z : Bool) : Nat → Value → World → (Nat → Nat) → Prop
  | 0, v, _, _ => v = .int .i64 N
  | 1, v, _, _ => v = .bool false
  | 2, v, _, _ => v = .bool false
  | 3, v, _, _ => v = .slice tA n tc
  | 4, v, _, _ => v = .pointer (some ⟨bx, 3, none⟩)
  | 5, v, _, _ => v = .slice (some ⟨cb, co, none⟩) cn cc
  | 6, v, _, _ => v = .int .i64 (k : Int)
  | 7, v, _, _ => v = .pointer (some ⟨cb, co + k * 5, none⟩)
  | 8, v, _, _ => v = .pointer (some ⟨cb, co + k * 5, none⟩)
  | 9, v, _, _ => v = .int .i64 (rm : Int)
  | 10, v, _, _ => v = .pointer (some ⟨tb, rm, none⟩)
  | 11, v, _, _ => v = .int .i64 x
  | 12, v, _, _ => v = .pointer (some ⟨bx, 3, none⟩)
  | 13, v, _, _ => v = .slice (some ⟨cb, co, none⟩) cn cc
  | 14, v, _, _ => v = .int .i64 (k : Int)
  | 15, v, _, _ => v = .pointer (some ⟨cb, co + k * 5, none⟩)
  | 16, v, _, _ => v = .pointer (some ⟨cb, co + k * 5 + 4, none⟩)
  | 17, v, _, _ => v = .int .i64 sp
  | 18, v, _, _ => v = .bool c
  | 19, v, _, _ => v = .bool c
  | 20, v, _, _ => c = true → v = .int .i64 N
  | 21, v, _, _ => c = true → v = .bool z
  | 22, v, _, _ => v = .bool false
  | 23, v, _, _ => v = .bool false
  | _, _, _, _ => True
set_option maxRecDepth 100000 in
set_option maxHeartbeats 4000000 in
theorem balanceLaw_any (A0 A1 A2 : Option Addr) (n0 c0 n1 c1 n2 c2 : Nat) (l0 l1 l2 : List Int) (w : World) (k0 : Rd w w.heap.size 1 encU A0 n0 l0) (k1 : Rd w w.heap.size 1 encU A1 n1 l1) (k2 : Rd w w.heap.size 1 encU A2 n2 l2) (b0 : U8s l0) (b1 : U8s l1) (b2 : U8s l2) (m0 : n0 ≤ 9223372036854775807) (m1 : n1 ≤ 9223372036854775807) (m2 : n2 ≤ 9223372036854775807) :
    Calls Try.prog 7 #[.slice A0 n0 c0, .slice A1 n1 c1, .slice A2 n2 c2] w fun e w' => e = .returned (.bool true) ∧ Below w.heap.size w w' := by
  have KM := Lib.hid (Made_any A0 n0 c0 l0 w k0 b0)
  have KA := Lib.hid awake_any
  have K1 := Lib.hid k1
  have K2 := Lib.hid k2
  have U1 := Lib.hid b1
  have U2 := Lib.hid b2
  clear k0 k1 k2 b0 b1 b2 m0 m1 m2
  go_enter Try.func7, Try.ntmps7
  go_wp2_with fail
  refine KM.out.mono ?_
  rintro e w1 ⟨rA, wA, bA, cA, rc, wc, bc, cc, h, rfl, m⟩
  have hB := m.low
  have M := Lib.hid m
  have B0 : Hid (Below w.heap.size w w1) := Lib.hid hB
  clear hB m
  obtain ⟨rn, hrn⟩ : ∃ z, z = h.rooms.length := ⟨_, rfl⟩
  obtain ⟨wn, hwn⟩ : ∃ z, z = h.walls.length := ⟨_, rfl⟩
  obtain ⟨bn, hbn⟩ : ∃ z, z = h.brs.length := ⟨_, rfl⟩
  obtain ⟨cn, hcn⟩ : ∃ z, z = h.crs.length := ⟨_, rfl⟩
  have I1 : Hid (HlIn w1 w1.heap.size ⟨rA, wA, bA, cA, rn, wn, bn, cn⟩ h) := Lib.hid (by rw [hrn, hwn, hbn, hcn]; exact M.out.inn)
  rw [← hrn, ← hwn, ← hbn, ← hcn]
  have HRN := Lib.hid hrn.symm
  have HWN := Lib.hid hwn.symm
  have HBN := Lib.hid hbn.symm
  have HCN := Lib.hid hcn.symm
  have HR4 : Hid (1 ≤ rn ∧ rn ≤ 4) := Lib.hid (by rw [hrn]; exact ⟨M.out.ok.n1, M.out.n4⟩)
  clear hrn hwn hbn hcn
  have g1 : w1.heap.size < w1.heap.size + 1 := by omega
  go_wp2_with fail
  obtain ⟨bx, hbx⟩ : ∃ z, z = w1.heap.size := ⟨_, rfl⟩
  obtain ⟨w2, hw2⟩ : ∃ z, z = w1.alloc (.cells #[.slice rA rn rc, .slice wA wn wc, .slice bA bn bc, .slice cA cn cc] 28) := ⟨_, rfl⟩
  have BX : Hid (Blk w2 bx 28 #[.slice rA rn rc, .slice wA wn wc, .slice bA bn bc, .slice cA cn cc]) := Lib.hid (by rw [hw2, hbx]; exact heap_alloc_new w1 _)
  have Sw2 : Hid (w2.heap.size = bx + 1) := Lib.hid (by rw [hw2, hbx, World.size_alloc])
  have Zbx : Hid (w1.heap.size ≤ bx) := Lib.hid (by rw [hbx]; exact Nat.le_refl _)
  have hBn : Below w1.heap.size w1 w2 := by rw [hw2]; exact (Below.refl _ _).alloc (Nat.le_refl _) _
  rw [← hw2, ← hbx]
  have B1 : Hid (Below w1.heap.size w1 w2) := Lib.hid hBn
  clear hw2 hbx hBn
  clear g1
  have KW := Lib.hid (fun (A2 : Option Addr) (n2 c2 : Nat) (l2 : List Int) (W : World) (hW : Below w2.heap.size w2 W) (k2 : Rd w w.heap.size 1 encU A2 n2 l2) (u2 : U8s l2) => Warm_any rA wA bA cA rn rc wn wc bn bc cn cc A2 n2 c2 l2 W (by have := HR4.out; omega) (k2.next (below3 (below3 B0.out B1.out (Nat.le_refl _)) hW (Nat.le_refl _))) u2)
  have KD := Lib.hid (fun (A2 : Option Addr) (n2 c2 : Nat) (l2 : List Int) (W : World) (hW : Below w2.heap.size w2 W) (k2 : Rd w w.heap.size 1 encU A2 n2 l2) (u2 : U8s l2) => Cased_any rA wA bA cA rn rc wn wc bn bc cn cc A2 n2 c2 l2 W (by have := HR4.out; omega) (k2.next (below3 (below3 B0.out B1.out (Nat.le_refl _)) hW (Nat.le_refl _))) u2)
  have KS := Lib.hid (fun (A2 B2 : Option Addr) (c2 d2 : Nat) (La Lb : List Int) (W : World) => sorted_any A2 B2 rn c2 d2 La Lb W (by have := HR4.out; omega))
  have KC := Lib.hid (fun (A2 B2 : Option Addr) (c2 d2 : Nat) (La Lb : List Int) (o1 p1 o2 p2 : Int) (W : World) => classed_any A2 B2 rn c2 d2 La Lb o1 p1 o2 p2 W (by have := HR4.out; omega))
  refine wp_region_free10 8 (by kernel_rfl) [some 24, some 25, some 26, some 27, some 28, some 29, some 9, some 8, none] [[], [], [0, 1], [], [], [3, 4, 2], [], [2, 5, 0, 1, 2, 6], [6, 5, 7, 0, 1, 2, 3, 4, 5, 6, 7]] [(7, .pointer (some ⟨bx, 0, none⟩)), (1, .slice A1 n1 c1), (2, .slice A2 n2 c2)] (fun W _ => Below w2.heap.size w2 W) (bl2Phi w2 rn ( .agg #[.slice rA rn rc, .slice wA wn wc, .slice bA bn bc, .slice cA cn cc]) (.slice A1 n1 c1) (.slice A2 n2 c2)) (mo3Psi) (by kernel_rfl) (by kernel_rfl) rfl (by kernel_rfl) ?_ ?_ ⟨fun _ => 0, ⟨(Below.refl _ _).drew, fun i _ => fun _ => rfl⟩⟩ ?_ ?_
  · intro z hz
    simp only [List.mem_cons, List.mem_nil_iff, or_false] at hz
    rcases hz with rfl | rfl | rfl
    all_goals exact ⟨by kernel_rfl, rfl⟩
  · intro i v W γ hi h
    rcases i with _ | _ | _ | _ | _ | _ | _ | _ | _ | i
    all_goals first | exact h | (simp at hi)
  · refine ⟨?_, ?_, ?_, ?_, ?_, ?_, ?_, ?_, ?_, trivial⟩
    all_goals
      intro a9 W γ ev hcc hff hfx hR hψ hpre
      simp only [List.mem_cons, List.mem_nil_iff, or_false, forall_eq, forall_eq_or_imp] at hfx
      obtain ⟨f0, f1, f2⟩ := hfx
      have HR := Lib.hid hR
      clear hR
    · refine ⟨fun hg K hK => ?_, trivial⟩
      clear hg
      have hbk := BX.out.below (HR.out) BX.out.lt
      have hzg := hbk.lt
      have e0 := hbk.cell 0
      have e1 := hbk.cell 1
      have e2 := hbk.cell 2
      have e3 := hbk.cell 3
      simp only [List.getElem?_toArray, List.getElem?_cons_zero, List.getElem?_cons_succ] at e0 e1 e2 e3
      clear hbk
      clear hpre hψ
      go_simp
      exact hK _ _ γ HR.out (fun _ _ _ _ h => h) (fun _ _ _ h => h) rfl
    · refine ⟨fun hg K hK => ?_, trivial⟩
      clear hg
      clear hpre hψ
      go_simp
      exact hK _ _ γ HR.out (fun _ _ _ _ h => h) (fun _ _ _ h => h) rfl
    · refine ⟨fun hg K hK => ?_, trivial⟩
      clear hg
      have q0 : ev (.tmp 24) = _ := hpre 0 (by decide)
      have q1 : ev (.tmp 25) = _ := hpre 1 (by decide)
      have C := Lib.hid (KW.out A1 n1 c1 l1 W HR.out K1.out U1.out)
      have HX := Lib.hid HR.out
      have HP := Lib.hid hψ
      clear hpre hψ
      go_simp
      refine C.out.mono ?_
      rintro e w7 ⟨A9, c9, L9, rfl, ho9, hl9, hb9, hB9⟩
      obtain ⟨b9, hrd⟩ := row_of hl9 ho9
      exact hK _ w7 γ (below3 HX.out hB9 (Nat.le_refl _)) (fun j u hj hne h => bl2Phi_next hB9 (fun _ => ⟨rfl, rfl⟩) h) (fun _ _ _ h => h) ⟨A9, b9, c9, L9, rfl, ⟨hl9, hb9⟩, hrd⟩
    · refine ⟨fun hg K hK => ?_, trivial⟩
      clear hg
      have hbk := BX.out.below (HR.out) BX.out.lt
      have hzg := hbk.lt
      have e0 := hbk.cell 0
      have e1 := hbk.cell 1
      have e2 := hbk.cell 2
      have e3 := hbk.cell 3
      simp only [List.getElem?_toArray, List.getElem?_cons_zero, List.getElem?_cons_succ] at e0 e1 e2 e3
      clear hbk
      clear hpre hψ
      go_simp
      exact hK _ _ γ HR.out (fun _ _ _ _ h => h) (fun _ _ _ h => h) rfl
    · refine ⟨fun hg K hK => ?_, trivial⟩
      clear hg
      clear hpre hψ
      go_simp
      exact hK _ _ γ HR.out (fun _ _ _ _ h => h) (fun _ _ _ h => h) rfl
    · refine ⟨fun hg K hK => ?_, trivial⟩
      clear hg
      have q0 : ev (.tmp 27) = _ := hpre 3 (by decide)
      have q1 : ev (.tmp 28) = _ := hpre 4 (by decide)
      have C := Lib.hid (KD.out A2 n2 c2 l2 W HR.out K2.out U2.out)
      have HX := Lib.hid HR.out
      have HP := Lib.hid hψ
      clear hpre hψ
      go_simp
      refine C.out.mono ?_
      rintro e w7 ⟨A9, c9, o9, p9, L9, rfl, ho9, hl9, hb9, hop9, hB9⟩
      obtain ⟨b9, hrd⟩ := row_of hl9 ho9
      exact hK _ w7 γ (below3 HX.out hB9 (Nat.le_refl _)) (fun j u hj hne h => bl2Phi_next hB9 (fun _ => ⟨rfl, rfl⟩) h) (fun _ _ _ h => h) ⟨A9, b9, c9, o9, p9, L9, rfl, ⟨hl9, hb9, hop9.1, hop9.2⟩, hrd⟩
    · refine ⟨fun hg K hK => ?_, trivial⟩
      clear hg
      have HRW9 := HR
      have HP := Lib.hid hψ
      clear hpre hψ
      go_simp
      have hB5 : Below W.heap.size W (W.alloc (.cells #[.slice none 0 0, .int .i64 0, .int .i64 0] 35)) := (Below.refl _ _).alloc (Nat.le_refl _) _
      refine hK _ _ (fun i => if i = 30 then W.heap.size else γ i) (below3 HRW9.out hB5 (Nat.le_refl _)) (fun j u hj hne h => bl2Phi_next hB5 (fun e => ?_) h) (fun _ _ _ h => by simpa [mo3Psi] using h) ⟨by simp, HRW9.out.size, fun _ => heap_alloc_new W _⟩
      rcases e with e | e
      · exact absurd e hne
      · subst e; exact absurd (by decide) hj
    · refine ⟨fun hg K hK => ?_, trivial⟩
      clear hg
      obtain ⟨A7, b7, c7, L7, q2, t7, r7⟩ := hpre 2 (by decide)
      replace q2 : ev (.tmp 26) = _ := q2
      have HT7 := Lib.hid (And.intro t7 r7)
      clear hpre hψ t7 r7
      go_simp
      exact hK _ _ γ HR.out (fun _ _ _ _ h => h) (fun _ _ _ h => h) ⟨A7, b7, c7, L7, rfl, HT7.out⟩
    · refine ⟨fun hg K hK => ?_, trivial⟩
      clear hg
      obtain ⟨q1, hw1, hb1⟩ := hpre 6 (by decide)
      obtain ⟨A8, b8, c8, o8, p8, L8, q0, t8, r8⟩ := hpre 5 (by decide)
      replace q0 : ev (.tmp 29) = _ := q0
      replace q1 : ev (.tmp 9) = _ := q1
      have hb1 := hb1 (hψ rfl)
      obtain ⟨bb, hbb⟩ : ∃ z, z = γ 30 := ⟨_, rfl⟩
      rw [← hbb] at q1 hw1 hb1
      have d0 := hb1.cell 0
      have d1 := hb1.cell 1
      have d2 := hb1.cell 2
      simp only [List.getElem?_toArray, List.getElem?_cons_zero, List.getElem?_cons_succ] at d0 d1 d2
      have zr := hb1.lt
      have fr := hb1.frozen
      obtain ⟨W', hW'⟩ : ∃ z, z = (((W.setCell ⟨bb, 0, none⟩ (.slice A8 rn c8)).setCell ⟨bb, 1, none⟩ (.int .i64 o8)).setCell ⟨bb, 2, none⟩ (.int .i64 p8)) := ⟨_, rfl⟩
      have hkk : Keep (fun b => b = bb) W W' := by rw [hW']; exact ((((Keep.refl (fun b => b = bb) W).setCell rfl _).setCell rfl _).setCell rfl _)
      have hrow : Blk W' bb 35 #[.slice A8 rn c8, .int .i64 o8, .int .i64 p8] := by
        have h := (((hb1.set_ 0 (.slice A8 rn c8)).set_ 1 (.int .i64 o8)).set_ 2 (.int .i64 p8))
        rw [hW']
        simpa using h
      have HX := Lib.hid (And.intro hrow (And.intro (And.intro t8 r8) (And.intro hbb (And.intro hkk (And.intro hb1 (And.intro hw1 hW'))))))
      clear hpre hψ hrow t8 r8 hbb hw1 hkk hb1 hW'
      go_simp
      obtain ⟨hrow, ⟨t8, r8⟩, hbb, hkk, hb1, hw1, hW'⟩ := HX.out
      rw [← hW']
      have h0 := HR.out
      exact hK undef _ (fun i => if i = 20 then 1 else γ i) (h0.trans (hkk.below h0.size (fun b e => by rw [e]; exact hw1))) (fun j u h1 h2 h3 => bl2Phi_store hkk hb1 ⟨by simp, by simp⟩ h2 h3) (fun h => absurd rfl h) ⟨A8, b8, c8, o8, p8, L8, by simpa [← hbb] using hrow, t8, r8.apart hkk hb1 (by decide)⟩
  · intro vs w3 γ hvl hR hφ
    have q6 := hφ 6 (by decide)
    have q7 := hφ 7 (by decide)
    have q8 := hφ 8 (by decide)
    have HR := Lib.hid hR
    clear hφ hR
    match vs, hvl with
    | [y0, y1, y2, y3, y4, y5, y6, y7, y8], _ =>
    simp only [List.getD_cons_zero, List.getD_cons_succ] at q6 q7 q8
    obtain ⟨q6, _, _⟩ := q6
    obtain ⟨tA, tb, tc, L, q7, ht, hrt⟩ := q7
    obtain ⟨lA, lb, lc, out, pump, Q, hkb, hc, hrl⟩ := q8
    obtain ⟨kb, hkb9⟩ : ∃ z, z = γ 30 := ⟨_, rfl⟩
    rw [← hkb9] at q6 hkb
    have B2 : Hid (Below w2.heap.size w2 w3) := Lib.hid HR.out
    have KB := Lib.hid hkb
    have RT := Lib.hid hrt
    have RL := Lib.hid hrl
    have HT := Lib.hid ht
    have HC := Lib.hid hc
    have HTB : Hid (∀ y ∈ L, 0 ≤ y ∧ y ≤ 1000000) := Lib.hid (fun y hy => by have := HT.out.2 y hy; omega)
    have HLB : Hid (∀ y ∈ Q, 0 ≤ y ∧ y ≤ 10000000) := Lib.hid (fun y hy => by have := HC.out.2.1 y hy; omega)
    have HO : Hid ((0 ≤ out ∧ out ≤ 1000000) ∧ 0 ≤ pump ∧ pump ≤ 100000) := Lib.hid (by have := HC.out.2.2; omega)
    obtain rfl : tA = some ⟨tb, 0, none⟩ := by
      obtain ⟨x0, hx0⟩ : ∃ x0, L[0]? = some x0 := ⟨_, List.getElem?_eq_getElem (by rw [HT.out.1]; exact HR4.out.1)⟩
      exact (hrt.at_ (size := 1) (fun _ => rfl) hx0).1
    obtain rfl : lA = some ⟨lb, 0, none⟩ := by
      obtain ⟨x0, hx0⟩ : ∃ x0, Q[0]? = some x0 := ⟨_, List.getElem?_eq_getElem (by rw [HC.out.1]; exact HR4.out.1)⟩
      exact (hrl.at_ (size := 1) (fun _ => rfl) hx0).1
    clear HR hkb hrt hrl ht hc hkb9
    simp [putAll, q6, q7]
    clear q6 q7
    have hbk := BX.out.below B2.out BX.out.lt
    have ca0 := hbk.cell 0
    have ca1 := hbk.cell 1
    have ca2 := hbk.cell 2
    have ca3 := hbk.cell 3
    simp only [List.getElem?_toArray, List.getElem?_cons_zero, List.getElem?_cons_succ] at ca0 ca1 ca2 ca3
    have zca := hbk.lt
    clear hbk
    have hbk := KB.out.below (Below.refl w3.heap.size w3) KB.out.lt
    have cb0 := hbk.cell 0
    have cb1 := hbk.cell 1
    have cb2 := hbk.cell 2
    simp only [List.getElem?_toArray, List.getElem?_cons_zero, List.getElem?_cons_succ] at cb0 cb1 cb2
    have zcb := hbk.lt
    clear hbk
    have N1 := Lib.hid (Next_any rA wA bA cA (some ⟨lb, 0, none⟩) (some ⟨tb, 0, none⟩) rn rc wn wc bn bc cn cc lc tc out pump h L Q w3 (I1.out.next (below3 B1.out B2.out (Nat.le_refl _))) M.out.ok HO.out.1 HO.out.2 (RT.out.rd (fun _ => rfl) HT.out.1 (size := 1)) HTB.out (RL.out.rd (fun _ => rfl) HC.out.1 (size := 1)) HLB.out)
    go_wp2_with fail
    refine (N1.out).mono ?_
    rintro e w4 ⟨yb, rfl, hx, _, hB⟩
    have B3 : Hid (Below w3.heap.size w3 w4) := Lib.hid hB
    clear hB
    have YB := Lib.hid hx
    clear hx N1 ca0 ca1 ca2 ca3 zca cb0 cb1 cb2 zcb
    have hbk := BX.out.below (below3 B2.out B3.out (Nat.le_refl _)) BX.out.lt
    have ca0 := hbk.cell 0
    have ca1 := hbk.cell 1
    have ca2 := hbk.cell 2
    have ca3 := hbk.cell 3
    simp only [List.getElem?_toArray, List.getElem?_cons_zero, List.getElem?_cons_succ] at ca0 ca1 ca2 ca3
    have zca := hbk.lt
    clear hbk
    have hbk := KB.out.below B3.out KB.out.lt
    have cb0 := hbk.cell 0
    have cb1 := hbk.cell 1
    have cb2 := hbk.cell 2
    simp only [List.getElem?_toArray, List.getElem?_cons_zero, List.getElem?_cons_succ] at cb0 cb1 cb2
    have zcb := hbk.lt
    clear hbk
    have N2 := Lib.hid (Taken_any rA wA bA cA (some ⟨tb, 0, none⟩) rn rc wn wc bn bc cn cc tc pump h L w4 (I1.out.next (below3 (below3 B1.out B2.out (Nat.le_refl _)) B3.out (Nat.le_refl _))) M.out.ok HO.out.2 ((RT.out.below9 B3.out).rd (fun _ => rfl) HT.out.1 (size := 1)) HTB.out)
    go_wp2_with fail
    refine (N2.out).mono ?_
    rintro e w5 ⟨kt, rfl, hx, _, hB⟩
    have B4 : Hid (Below w4.heap.size w4 w5) := Lib.hid hB
    clear hB
    have TB := Lib.hid hx
    clear hx N2 ca0 ca1 ca2 ca3 zca cb0 cb1 cb2 zcb
    have hbk := BX.out.below (below3 (below3 B2.out B3.out (Nat.le_refl _)) B4.out (Nat.le_refl _)) BX.out.lt
    have ca3 := hbk.cell 3
    simp only [List.getElem?_toArray, List.getElem?_cons_zero, List.getElem?_cons_succ] at ca3
    have zca := hbk.lt
    clear hbk
    have HYL : Hid ((nxL h L Q out pump).length = rn) := Lib.hid (by rw [nxL_len]; exact HRN.out)
    have C := Lib.hid (Max_any (some ⟨yb, 0, none⟩) rn rn _ w5 (Blk.rdI9 (YB.out.below B4.out YB.out.lt) HYL.out) HR4.out.1 (by have := HR4.out; omega))
    go_wp2_with fail
    refine C.out.mono ?_
    rintro e w6 ⟨mx, rfl, hmx, hB⟩
    have B5 : Hid (Below w5.heap.size w5 w6) := Lib.hid hB
    clear C hB ca3 zca
    by_cases hmm : mx = 1000000
    · obtain rfl := hmm
      go_wp2_with fail
      refine (KA.out _).mono ?_
      rintro e w7 ⟨rfl, hB⟩
      have HF : Hid (Below w.heap.size w w7) := Lib.hid (below3 (below3 (below3 (below3 (below3 (below3 B0.out B1.out (Nat.le_refl _)) B2.out (Nat.le_refl _)) B3.out (Nat.le_refl _)) B4.out (Nat.le_refl _)) B5.out (Nat.le_refl _)) hB (Nat.le_refl _))
      clear hB
      go_wp2
      go_ret
      exact ⟨rfl, HF.out⟩
    have HMX : Hid (∀ j < h.rooms.length, nxV h L Q out pump j ≠ 1000000) := Lib.hid (fun j hj e => by
      have h1 := hmx.2 j _ (by rw [← HRN.out]; exact hj) (nxL_get hj)
      obtain ⟨i, hi9, ei⟩ := hmx.1
      rw [nxL_get (by rw [HRN.out]; exact hi9)] at ei
      cases ei
      have h2 := (nxV_bd M.out.ok HO.out.2 HO.out.1.1 (getD_nonneg (Int.le_refl _) HTB.out) (getD_nonneg (Int.le_refl _) HLB.out) (show i < h.rooms.length by rw [HRN.out]; exact hi9)).2
      omega)
    have d1 : ((mx : Int) == 1000000) = false := beq_eq_false_iff_ne.2 hmm
    clear hmx
    have hbk := BX.out.below (below3 (below3 (below3 B2.out B3.out (Nat.le_refl _)) B4.out (Nat.le_refl _)) B5.out (Nat.le_refl _)) BX.out.lt
    have ca0 := hbk.cell 0
    simp only [List.getElem?_toArray, List.getElem?_cons_zero, List.getElem?_cons_succ] at ca0
    have zca := hbk.lt
    clear hbk
    go_wp2
    clear ca0 zca hmm d1
    have HHI := Lib.hid (I1.out.next (below3 (below3 (below3 (below3 B1.out B2.out (Nat.le_refl _)) B3.out (Nat.le_refl _)) B4.out (Nat.le_refl _)) B5.out (Nat.le_refl _)))
    have HYB := Lib.hid (YB.out.below (below3 B4.out B5.out (Nat.le_refl _)) YB.out.lt)
    have HTB6 := Lib.hid (TB.out.below B5.out TB.out.lt)
    have HKB := Lib.hid (KB.out.below (below3 (below3 B3.out B4.out (Nat.le_refl _)) B5.out (Nat.le_refl _)) KB.out.lt)
    have HBX := Lib.hid (BX.out.below (below3 (below3 (below3 B2.out B3.out (Nat.le_refl _)) B4.out (Nat.le_refl _)) B5.out (Nat.le_refl _)) BX.out.lt)
    have HRT := Lib.hid (RT.out.below9 (below3 (below3 B3.out B4.out (Nat.le_refl _)) B5.out (Nat.le_refl _)))
    have HRL := Lib.hid (RL.out.below9 (below3 (below3 B3.out B4.out (Nat.le_refl _)) B5.out (Nat.le_refl _)))
    have HLOW := Lib.hid (below3 (below3 (below3 (below3 (below3 B0.out B1.out (Nat.le_refl _)) B2.out (Nat.le_refl _)) B3.out (Nat.le_refl _)) B4.out (Nat.le_refl _)) B5.out (Nat.le_refl _))
    have HYD : Hid (∀ k < rn, (nxL h L Q out pump)[k]? = some (nxV h L Q out pump k)) := Lib.hid (fun k hk => nxL_get (by rw [HRN.out]; exact hk))
    have HNB : Hid (∀ k < rn, 0 ≤ nxV h L Q out pump k ∧ nxV h L Q out pump k ≤ 1000000) := Lib.hid (fun k hk => nxV_bd M.out.ok HO.out.2 HO.out.1.1 (getD_nonneg (Int.le_refl _) HTB.out) (getD_nonneg (Int.le_refl _) HLB.out) (by rw [HRN.out]; exact hk))
    have HSF : Hid (∀ k < rn, -200000000000 ≤ stF h L Q (nxL h L Q out pump) k ∧ stF h L Q (nxL h L Q out pump) k ≤ 200000000000) := Lib.hid (fun k hk => by
      have h1 := M.out.ro k (by rw [HRN.out]; exact hk)
      have h2 := M.out.md.slope M.out.w6 M.out.c6 (k : Int)
      have h3 := HNB.out k hk
      have h4 := t_bd HTB.out k
      have h5 : (nxL h L Q out pump).getD k 0 = nxV h L Q out pump k := by rw [List.getD_eq_getElem?_getD, HYD.out k hk]; rfl
      have h6 := mul_bd (p := (h.rooms.getD k ⟨0, 0⟩).st) (d := nxV h L Q out pump k - L.getD k 0) (by omega) (by omega)
      have h7 : 0 ≤ Q.getD k 0 ∧ Q.getD k 0 ≤ 10000000 := by
        rw [List.getD_eq_getElem?_getD]
        by_cases hi9 : k < Q.length
        · rw [List.getElem?_eq_getElem hi9]; exact HLB.out _ (List.getElem_mem hi9)
        · rw [List.getElem?_eq_none (by omega)]; simp
      unfold stF
      rw [h5]
      omega)
    have HS1 : Hid (∀ k ≤ rn, -(200000000000 * (k : Int)) ≤ sumN (stF h L Q (nxL h L Q out pump)) k ∧ sumN (stF h L Q (nxL h L Q out pump)) k ≤ 200000000000 * k) := Lib.hid (fun k hk => sumN_bd (fun i hi9 => HSF.out i hi9) k hk)
    have HST : Hid (∀ k < rn, 1 ≤ (h.rooms.getD k ⟨0, 0⟩).st ∧ (h.rooms.getD k ⟨0, 0⟩).st ≤ 1111) := Lib.hid (fun k hk => by
      have h1 := M.out.ro k (by rw [HRN.out]; exact hk)
      have h2 := M.out.md.slope M.out.w6 M.out.c6 (k : Int)
      omega)
    have HS2 : Hid (∀ k ≤ rn, -(1111 * (k : Int)) ≤ sumN (loF h) k ∧ sumN (loF h) k ≤ 1111 * k) := Lib.hid (fun k hk => sumN_bd (fun i hi9 => by have := HST.out i hi9; unfold loF; omega) k hk)
    go_loopw [14, 15, 66] (fun s o i wr => ∃ k : Nat, k ≤ rn ∧ i = .int .i64 ((k : Nat) : Int) ∧ s = .int .i64 (sumN (stF h L Q (nxL h L Q out pump)) k) ∧ o = .int .i64 (sumN (loF h) k) ∧ Hid (Below w6.heap.size w6 wr)) (fun _ _ i _ => rn - (intOf i).toNat)
    case atStart => exact ⟨0, by omega, rfl, rfl, rfl, Lib.hid (Below.refl _ _)⟩
    case round =>
      obtain ⟨k, hk, rfl, rfl, rfl, HW⟩ := hrel
      by_cases hlt : k < rn
      · obtain ⟨rb9, off, xr, e1, hb9, hx9, hc9⟩ := (HHI.out.rm.below HW.out).at_ hlt
        obtain ⟨cc0, cc1⟩ := Rom.cells hc9
        have zb : rb9 < wr.heap.size := block_of_cell cc0
        have hst : (h.rooms.getD k ⟨0, 0⟩).st = xr.st := by rw [List.getD_eq_getElem?_getD, hx9]; rfl
        have hk0 : (0 : Int) ≤ (k : Int) := by omega
        have hkn : (k : Int) < (rn : Int) := by omega
        have hk4 : k ≤ 400 := by have := HR4.out; omega
        have g1 : wr.heap.size < wr.heap.size + 1 := by omega
        obtain ⟨st, lim⟩ := xr
        dsimp only at cc0 cc1 hst
        have HSTE := Lib.hid hst
        have HSTB : Hid (1 ≤ st ∧ st ≤ 1111) := Lib.hid (by rw [← hst]; exact HST.out k hlt)
        have HLT : Hid (k < rn) := Lib.hid hlt
        subst e1
        clear hb9 hx9 hc9 hst
        go_wp2_with fail
        obtain ⟨xb, hxb⟩ : ∃ z, z = wr.heap.size := ⟨_, rfl⟩
        obtain ⟨wx, hwx⟩ : ∃ z, z = wr.alloc (.cells #[.int .i64 st, .int .i64 lim] 61) := ⟨_, rfl⟩
        have hBa : Below wr.heap.size wr wx := by rw [hwx]; exact (Below.refl _ _).alloc (Nat.le_refl _) _
        have hbx : Blk wx xb 61 #[.int .i64 st, .int .i64 lim] := by rw [hwx, hxb]; exact heap_alloc_new wr _
        rw [← hwx, ← hxb]
        clear hwx hxb cc0 cc1 zb g1
        have HWX : Hid (Below w6.heap.size w6 wx) := Lib.hid (below3 HW.out hBa (Nat.le_refl _))
        have HXB := Lib.hid hbx
        clear hBa hbx
        obtain ⟨S, hS⟩ : ∃ z, z = sumN (stF h L Q (nxL h L Q out pump)) k := ⟨_, rfl⟩
        obtain ⟨O, hO⟩ : ∃ z, z = sumN (loF h) k := ⟨_, rfl⟩
        obtain ⟨y, hy⟩ : ∃ z, z = nxV h L Q out pump k := ⟨_, rfl⟩
        obtain ⟨x, hx⟩ : ∃ z, z = L.getD k 0 := ⟨_, rfl⟩
        obtain ⟨ld, hld⟩ : ∃ z, z = Q.getD k 0 := ⟨_, rfl⟩
        obtain ⟨d, hd⟩ : ∃ z, z = y - x := ⟨_, rfl⟩
        obtain ⟨q, hq⟩ : ∃ z, z = st * d := ⟨_, rfl⟩
        rw [← hS, ← hO]
        have hgt : L[k]? = some x := by rw [hx, List.getD_eq_getElem?_getD, List.getElem?_eq_getElem (by rw [HT.out.1]; exact hlt)]; rfl
        have hgl : Q[k]? = some ld := by rw [hld, List.getD_eq_getElem?_getD, List.getElem?_eq_getElem (by rw [HC.out.1]; exact hlt)]; rfl
        have hgy : (nxL h L Q out pump)[k]? = some y := by rw [hy]; exact HYD.out k hlt
        have HCF : Hid (wx.drew.cell? ⟨xb, 0, none⟩ = some (.int .i64 st) ∧ xb < wx.drew.heap.size ∧ wx.drew.cell? ⟨yb, k, none⟩ = some (.int .i64 y) ∧ yb < wx.drew.heap.size ∧ wx.drew.cell? ⟨tb, k, none⟩ = some (.int .i64 x) ∧ tb < wx.drew.heap.size) := Lib.hid (by
          have hdr : Below w6.heap.size w6 wx.drew := HWX.out.drew
          have h1 := (HXB.out.below (Below.refl _ _).drew HXB.out.lt)
          have h2 := HYB.out.below hdr HYB.out.lt
          have h3 := HRT.out.below9 hdr
          exact ⟨h1.cell 0, h1.lt, h2.intAt hgy, h2.lt, rowI_at h3 hgt, (h3.at_ (size := 1) (fun _ => rfl) hgt).2.1⟩)
        have HLD : Hid (wx.cell? ⟨lb, k, none⟩ = some (.int .i64 ld) ∧ lb < wx.heap.size ∧ wx.cell? ⟨kb, 0, none⟩ = some (.slice (some ⟨lb, 0, none⟩) rn lc) ∧ kb < wx.heap.size ∧ wx.cell? ⟨xb, 0, none⟩ = some (.int .i64 st) ∧ xb < wx.heap.size) := Lib.hid (by
          have h3 := HRL.out.below9 HWX.out
          have h4 := HKB.out.below HWX.out HKB.out.lt
          exact ⟨rowI_at h3 hgl, (h3.at_ (size := 1) (fun _ => rfl) hgl).2.1, h4.cell 0, h4.lt, HXB.out.cell 0, HXB.out.lt⟩)
        have HBS : Hid (-1000000000000 ≤ S ∧ S ≤ 1000000000000) := Lib.hid (by rw [hS]; have h1 := HS1.out k hk; have h2 := HR4.out; omega)
        have HBO : Hid (-10000 ≤ O ∧ O ≤ 10000) := Lib.hid (by rw [hO]; have h1 := HS2.out k hk; have h2 := HR4.out; omega)
        have HBX9 : Hid ((0 ≤ y ∧ y ≤ 1000000) ∧ (0 ≤ x ∧ x ≤ 1000000) ∧ 0 ≤ ld ∧ ld ≤ 10000000) := Lib.hid ⟨by rw [hy]; exact HNB.out k hlt, HTB.out x (List.mem_of_getElem? hgt), HLB.out ld (List.mem_of_getElem? hgl)⟩
        have HQ9 : Hid (-100000000000 ≤ q ∧ q ≤ 100000000000) := Lib.hid (by rw [hq]; exact mul_bd (by have := HSTB.out; omega) (by rw [hd]; have := HBX9.out; omega))
        have HWR : Hid (IntKind.i64.wrap (y - x) = d ∧ IntKind.i64.wrap (st * d) = q ∧ IntKind.i64.wrap (S + q) = S + q) := Lib.hid ⟨by rw [hd]; exact IntWalk.i64_in _ (by have := HBX9.out; omega), by rw [hq] at HQ9 ⊢; exact IntWalk.i64_in _ (by have := HQ9.out; omega), IntWalk.i64_in _ (by have := HQ9.out; have := HBS.out; omega)⟩
        have HN1 : Hid (S + q - ld = sumN (stF h L Q (nxL h L Q out pump)) (k + 1)) := Lib.hid (by
          have h5 : (nxL h L Q out pump).getD k 0 = y := by rw [List.getD_eq_getElem?_getD, hgy]; rfl
          simp only [sumN, stF]
          rw [h5, ← hx, ← hld, HSTE.out, ← hS, ← hd, ← hq]
          omega)
        have HN2 : Hid (O + (st - 1) = sumN (loF h) (k + 1)) := Lib.hid (by simp only [sumN, loF]; rw [HSTE.out, ← hO])
        have ws1 : IntKind.i64.wrap (st - 1) = st - 1 := IntWalk.i64_in _ (by have := HSTB.out; omega)
        have ws2 : IntKind.i64.wrap (O + (st - 1)) = O + (st - 1) := IntWalk.i64_in _ (by have := HSTB.out; have := HBO.out; omega)
        have ws3 : IntKind.i64.wrap (S + q - ld) = S + q - ld := IntWalk.i64_in _ (by have := HBS.out; have := HQ9.out; have := HBX9.out; omega)
        clear hS hO hy hx hld hd hq hgt hgl hgy
        refine wp_region_free10 14 (by kernel_rfl) [some 71, some 72, some 73, some 74, some 75, some 76, some 77, some 78, some 79, some 80, some 81, some 82, some 83, some 84, some 14] [[], [], [1], [], [], [3, 4], [5], [], [], [7, 8], [9], [6, 10], [2, 11], [0, 12], [13, 0, 1, 2, 3, 4, 5, 6, 7, 8, 9, 10, 11, 12, 13]] [(14, .int .i64 S), (17, .pointer (some ⟨xb, 0, none⟩)), (10, .slice (some ⟨yb, 0, none⟩) rn rn), (16, .int .i64 (k : Int)), (8, .slice (some ⟨tb, 0, none⟩) rn tc)] (fun W _ => W = wx.drew) (b13Phi xb yb tb rn rn tc k (some ⟨tb, 0, none⟩) S st y x d q) (fun _ _ _ => True) (by kernel_rfl) (by kernel_rfl) rfl (by kernel_rfl) ?_ ?_ ⟨fun _ => 0, ⟨rfl, fun i _ => trivial⟩⟩ ?_ ?_
        · intro z hz
          simp only [List.mem_cons, List.mem_nil_iff, or_false] at hz
          rcases hz with rfl | rfl | rfl | rfl | rfl
          all_goals exact ⟨by kernel_rfl, rfl⟩
        · intro i v W γ hi h
          rcases i with _ | _ | _ | _ | _ | _ | _ | _ | _ | _ | _ | _ | _ | _ | _ | i
          all_goals first | exact h | (simp at hi)
        · refine ⟨?_, ?_, ?_, ?_, ?_, ?_, ?_, ?_, ?_, ?_, ?_, ?_, ?_, ?_, ?_, trivial⟩
          all_goals
            intro a9 W γ ev hcc hff hfx hR hψ hpre
            simp only [List.mem_cons, List.mem_nil_iff, or_false, forall_eq, forall_eq_or_imp] at hfx
            obtain ⟨f0, f1, f2, f3, f4⟩ := hfx
            have HR := Lib.hid hR
            clear hR
          · refine ⟨fun hg K hK => ?_, trivial⟩
            clear hg
            obtain rfl := HR.out
            clear hpre hψ
            go_simp
            exact hK _ _ γ HR.out (fun _ _ _ _ h => h) (fun _ _ _ h => h) rfl
          · refine ⟨fun hg K hK => ?_, trivial⟩
            clear hg
            obtain rfl := HR.out
            clear hpre hψ
            go_simp
            exact hK _ _ γ HR.out (fun _ _ _ _ h => h) (fun _ _ _ h => h) rfl
          · refine ⟨fun hg K hK => ?_, trivial⟩
            clear hg
            have q0 : ev (.tmp 72) = _ := hpre 1 (by decide)
            obtain rfl := HR.out
            have ca := HCF.out.1
            have za := HCF.out.2.1
            have cy := HCF.out.2.2.1
            have zy := HCF.out.2.2.2.1
            have ct := HCF.out.2.2.2.2.1
            have zt := HCF.out.2.2.2.2.2
            clear hpre hψ
            go_simp
            exact hK _ _ γ HR.out (fun _ _ _ _ h => h) (fun _ _ _ h => h) rfl
          · refine ⟨fun hg K hK => ?_, trivial⟩
            clear hg
            obtain rfl := HR.out
            clear hpre hψ
            go_simp
            exact hK _ _ γ HR.out (fun _ _ _ _ h => h) (fun _ _ _ h => h) rfl
          · refine ⟨fun hg K hK => ?_, trivial⟩
            clear hg
            obtain rfl := HR.out
            clear hpre hψ
            go_simp
            exact hK _ _ γ HR.out (fun _ _ _ _ h => h) (fun _ _ _ h => h) rfl
          · refine ⟨fun hg K hK => ?_, trivial⟩
            clear hg
            have q0 : ev (.tmp 74) = _ := hpre 3 (by decide)
            have q1 : ev (.tmp 75) = _ := hpre 4 (by decide)
            obtain rfl := HR.out
            clear hpre hψ
            go_simp
            exact hK _ _ γ HR.out (fun _ _ _ _ h => h) (fun _ _ _ h => h) rfl
          · refine ⟨fun hg K hK => ?_, trivial⟩
            clear hg
            have q0 : ev (.tmp 76) = _ := hpre 5 (by decide)
            obtain rfl := HR.out
            have ca := HCF.out.1
            have za := HCF.out.2.1
            have cy := HCF.out.2.2.1
            have zy := HCF.out.2.2.2.1
            have ct := HCF.out.2.2.2.2.1
            have zt := HCF.out.2.2.2.2.2
            clear hpre hψ
            go_simp
            exact hK _ _ γ HR.out (fun _ _ _ _ h => h) (fun _ _ _ h => h) rfl
          · refine ⟨fun hg K hK => ?_, trivial⟩
            clear hg
            obtain rfl := HR.out
            clear hpre hψ
            go_simp
            exact hK _ _ γ HR.out (fun _ _ _ _ h => h) (fun _ _ _ h => h) rfl
          · refine ⟨fun hg K hK => ?_, trivial⟩
            clear hg
            obtain rfl := HR.out
            clear hpre hψ
            go_simp
            exact hK _ _ γ HR.out (fun _ _ _ _ h => h) (fun _ _ _ h => h) rfl
          · refine ⟨fun hg K hK => ?_, trivial⟩
            clear hg
            have q0 : ev (.tmp 78) = _ := hpre 7 (by decide)
            have q1 : ev (.tmp 79) = _ := hpre 8 (by decide)
            obtain rfl := HR.out
            clear hpre hψ
            go_simp
            exact hK _ _ γ HR.out (fun _ _ _ _ h => h) (fun _ _ _ h => h) rfl
          · refine ⟨fun hg K hK => ?_, trivial⟩
            clear hg
            have q0 : ev (.tmp 80) = _ := hpre 9 (by decide)
            obtain rfl := HR.out
            have ca := HCF.out.1
            have za := HCF.out.2.1
            have cy := HCF.out.2.2.1
            have zy := HCF.out.2.2.2.1
            have ct := HCF.out.2.2.2.2.1
            have zt := HCF.out.2.2.2.2.2
            clear hpre hψ
            go_simp
            exact hK _ _ γ HR.out (fun _ _ _ _ h => h) (fun _ _ _ h => h) rfl
          · refine ⟨fun hg K hK => ?_, trivial⟩
            clear hg
            have q0 : ev (.tmp 77) = _ := hpre 6 (by decide)
            have q1 : ev (.tmp 81) = _ := hpre 10 (by decide)
            obtain rfl := HR.out
            have wd : IntKind.i64.wrap (y - x) = d := HWR.out.1
            clear hpre hψ
            go_simp
            exact hK _ _ γ HR.out (fun _ _ _ _ h => h) (fun _ _ _ h => h) rfl
          · refine ⟨fun hg K hK => ?_, trivial⟩
            clear hg
            have q0 : ev (.tmp 73) = _ := hpre 2 (by decide)
            have q1 : ev (.tmp 82) = _ := hpre 11 (by decide)
            obtain rfl := HR.out
            have wq : IntKind.i64.wrap (st * d) = q := HWR.out.2.1
            clear hpre hψ
            go_simp
            exact hK _ _ γ HR.out (fun _ _ _ _ h => h) (fun _ _ _ h => h) rfl
          · refine ⟨fun hg K hK => ?_, trivial⟩
            clear hg
            have q0 : ev (.tmp 71) = _ := hpre 0 (by decide)
            have q1 : ev (.tmp 83) = _ := hpre 12 (by decide)
            obtain rfl := HR.out
            have ws : IntKind.i64.wrap (S + q) = S + q := HWR.out.2.2
            clear hpre hψ
            go_simp
            exact hK _ _ γ HR.out (fun _ _ _ _ h => h) (fun _ _ _ h => h) rfl
          · refine ⟨fun hg K hK => ?_, trivial⟩
            clear hg
            have q0 : ev (.tmp 84) = _ := hpre 13 (by decide)
            obtain rfl := HR.out
            clear hpre hψ
            go_simp
            exact hK _ _ γ HR.out (fun _ _ _ _ h => h) (fun _ _ _ h => h) rfl
        · intro vs wy γ hvl hR hφ
          have q14 := hφ 14 (by decide)
          have HR := Lib.hid hR
          clear hφ hR
          match vs, hvl with
          | [y0, y1, y2, y3, y4, y5, y6, y7, y8, y9, y10, y11, y12, y13, y14], _ =>
          simp only [List.getD_cons_zero, List.getD_cons_succ] at q14
          replace q14 : y14 = .int .i64 (S + q) := q14
          obtain rfl := HR.out
          clear HR
          simp [putAll, q14]
          clear q14
          have f1 := HLD.out.1
          have f2 := HLD.out.2.1
          have f3 := HLD.out.2.2.1
          have f4 := HLD.out.2.2.2.1
          have f5 := HLD.out.2.2.2.2.1
          have f6 := HLD.out.2.2.2.2.2
          go_wp2
          go_roundw
          case rel => exact ⟨k + 1, by omega, by go_num, by rw [HN1.out], by rw [HN2.out], Lib.hid (by have := HWX.out.drew; exact this)⟩
          case measure => simp [intOf]; omega
      · obtain rfl : rn = k := by omega
        have HW1 := Lib.hid HW.out
        obtain ⟨S1, hS1⟩ : ∃ z, z = sumN (stF h L Q (nxL h L Q out pump)) rn := ⟨_, rfl⟩
        obtain ⟨O1, hO1⟩ : ∃ z, z = sumN (loF h) rn := ⟨_, rfl⟩
        have HSE := Lib.hid hS1
        have HOE := Lib.hid hO1
        have HSB : Hid (-1000000000000 ≤ S1 ∧ S1 ≤ 1000000000000) := Lib.hid (by rw [hS1]; have h1 := HS1.out rn (Nat.le_refl _); have h2 := HR4.out; omega)
        rw [← hS1, ← hO1]
        have HWS : Hid (∀ k ≤ wn, -1000000000000 ≤ sumN (fun i => owV L out (h.wl i)) k ∧ sumN (fun i => owV L out (h.wl i)) k ≤ 1000000000000) := Lib.hid (fun k hk => by
          have h1 := sumN_bd (f := fun i => owV L out (h.wl i)) (n := wn) (B := 100000000000) (fun i hi9 => owV_bd M.out.ok HTB.out HO.out.1 (by rw [HWN.out]; exact hi9)) k hk
          have h2 := M.out.w6
          rw [HWN.out] at h2
          omega)
        have hbk := HBX.out.below HW1.out HBX.out.lt
        have ca1 := hbk.cell 1
        have zca := hbk.lt
        simp only [List.getElem?_toArray, List.getElem?_cons_zero, List.getElem?_cons_succ] at ca1
        clear hS1 hO1 HW hlt hk hbk
        go_wp2
        clear ca1 zca
        go_loopw [14, 101] (fun s i wq => ∃ k : Nat, k ≤ wn ∧ i = .int .i64 ((k : Nat) : Int) ∧ s = .int .i64 (S1 - sumN (fun i => owV L out (h.wl i)) k) ∧ Hid (Below w6.heap.size w6 wq)) (fun _ i _ => wn - (intOf i).toNat)
        case atStart => exact ⟨0, by omega, rfl, by simp [sumN], HW1⟩
        case round =>
          obtain ⟨k, hk, rfl, rfl, HW⟩ := hrel
          by_cases hlt : k < wn
          · obtain ⟨rb9, off, xr, e1, hb9, hx9, hc9⟩ := (HHI.out.wl.below HW.out).at_ hlt
            obtain ⟨cc0, cc1, cc2⟩ := Wal.cells hc9
            have zb : rb9 < wr.heap.size := block_of_cell cc0
            have hwl : h.wl k = xr := by unfold Hl.wl; rw [List.getD_eq_getElem?_getD, hx9]; rfl
            have hlt2 : k < h.walls.length := by rw [HWN.out]; exact hlt
            obtain ⟨hv1, hv2, hv3⟩ := M.out.ok.wal _ (wl_mem hlt2)
            rw [hwl] at hv1 hv2 hv3
            have hk0 : (0 : Int) ≤ (k : Int) := by omega
            have hkn : (k : Int) < (wn : Int) := by omega
            have hk4 : k ≤ 400 := by have := M.out.w6; omega
            have g1 : wr.heap.size < wr.heap.size + 1 := by omega
            obtain ⟨S, hS⟩ : ∃ z, z = S1 - sumN (fun i => owV L out (h.wl i)) k := ⟨_, rfl⟩
            have HSS := Lib.hid hS
            have hz6 := HW.out.size
            rw [← hS]
            obtain ⟨wa, wb, wp⟩ := xr
            dsimp only at cc0 cc1 cc2 hv1 hv2 hv3
            have HWL := Lib.hid hwl
            subst e1
            clear hb9 hx9 hc9 hwl hS
            by_cases hneg : wb = -1
            · obtain rfl := hneg
              obtain ⟨a, rfl⟩ : ∃ z : Nat, wa = (z : Int) := ⟨wa.toNat, by omega⟩
              have HAN : Hid (a < rn) := Lib.hid (by rw [← HRN.out]; omega)
              have HPB : Hid (0 ≤ wp ∧ wp ≤ 100000) := Lib.hid hv3
              have ha0 : (0 : Int) ≤ (a : Int) := by omega
              have han : (a : Int) < (rn : Int) := by have := HAN.out; omega
              clear hv1 hv2 hv3
              go_wp2_with fail
              obtain ⟨xb, hxb⟩ : ∃ z, z = wr.heap.size := ⟨_, rfl⟩
              obtain ⟨wx, hwx⟩ : ∃ z, z = wr.alloc (.cells #[.int .i64 (a : Int), .int .i64 (-1), .int .i64 wp] 75) := ⟨_, rfl⟩
              have hBa : Below wr.heap.size wr wx := by rw [hwx]; exact (Below.refl _ _).alloc (Nat.le_refl _) _
              have hbx : Blk wx xb 75 #[.int .i64 (a : Int), .int .i64 (-1), .int .i64 wp] := by rw [hwx, hxb]; exact heap_alloc_new wr _
              rw [← hwx, ← hxb]
              clear hwx hxb cc0 cc1 cc2 zb g1
              have HWX : Hid (Below w6.heap.size w6 wx) := Lib.hid (below3 HW.out hBa (Nat.le_refl _))
              have HXB := Lib.hid hbx
              clear hBa hbx
              obtain ⟨x, hx⟩ : ∃ z, z = L.getD a 0 := ⟨_, rfl⟩
              obtain ⟨p, hp⟩ : ∃ z, z = wp := ⟨_, rfl⟩
              obtain ⟨d, hd⟩ : ∃ z, z = out - x := ⟨_, rfl⟩
              obtain ⟨q, hq⟩ : ∃ z, z = p * d := ⟨_, rfl⟩
              have hgt : L[a]? = some x := by rw [hx, List.getD_eq_getElem?_getD, List.getElem?_eq_getElem (by rw [HT.out.1]; exact HAN.out)]; rfl
              have HCF : Hid (wx.drew.cell? ⟨xb, 0, none⟩ = some (.int .i64 (a : Int)) ∧ wx.drew.cell? ⟨xb, 2, none⟩ = some (.int .i64 p) ∧ xb < wx.drew.heap.size ∧ wx.drew.cell? ⟨kb, 1, none⟩ = some (.int .i64 out) ∧ kb < wx.drew.heap.size ∧ wx.drew.cell? ⟨tb, a, none⟩ = some (.int .i64 x) ∧ tb < wx.drew.heap.size) := Lib.hid (by
                have hdr : Below w6.heap.size w6 wx.drew := HWX.out.drew
                have h1 := (HXB.out.below (Below.refl _ _).drew HXB.out.lt)
                have h2 := HKB.out.below hdr HKB.out.lt
                have h3 := HRT.out.below9 hdr
                rw [hp]
                exact ⟨h1.cell 0, h1.cell 2, h1.lt, h2.cell 1, h2.lt, rowI_at h3 hgt, (h3.at_ (size := 1) (fun _ => rfl) hgt).2.1⟩)
              have HX9 : Hid (0 ≤ x ∧ x ≤ 1000000) := Lib.hid (HTB.out x (List.mem_of_getElem? hgt))
              have HQ9 : Hid (-100000000000 ≤ q ∧ q ≤ 100000000000) := Lib.hid (by rw [hq, hp]; exact mul_bd HPB.out (by rw [hd]; have := HX9.out; have := HO.out.1; omega))
              have HBS : Hid (-10000000000000 ≤ S ∧ S ≤ 10000000000000) := Lib.hid (by have h1 := HWS.out k hk; have h2 := HSB.out; have := HSS.out; omega)
              have HWR : Hid (IntKind.i64.wrap (out - x) = d ∧ IntKind.i64.wrap (p * d) = q ∧ IntKind.i64.wrap (S - q) = S - q) := Lib.hid ⟨by rw [hd]; exact IntWalk.i64_in _ (by have := HX9.out; have := HO.out.1; omega), by rw [hq] at HQ9 ⊢; exact IntWalk.i64_in _ (by have := HQ9.out; omega), IntWalk.i64_in _ (by have := HQ9.out; have := HBS.out; omega)⟩
              have HN : Hid (S - q = S1 - sumN (fun i => owV L out (h.wl i)) (k + 1)) := Lib.hid (by
                simp only [sumN]
                rw [show owV L out (h.wl k) = q by rw [HWL.out]; unfold owV; rw [if_pos rfl, hq, hd, hp, hx]; rfl]
                have := HSS.out
                omega)
              clear hx hd hq hgt hp
              refine wp_region_free10 13 (by kernel_rfl) [some 108, some 109, some 110, some 111, some 112, some 113, some 114, some 115, some 116, some 117, some 118, some 119, some 120, some 14] [[], [], [1], [], [3], [], [], [6], [5, 7], [8], [4, 9], [2, 10], [0, 11], [12, 0, 1, 2, 3, 4, 5, 6, 7, 8, 9, 10, 11, 12]] [(14, .int .i64 S), (19, .pointer (some ⟨xb, 0, none⟩)), (9, .pointer (some ⟨kb, 0, none⟩)), (8, .slice (some ⟨tb, 0, none⟩) rn tc)] (fun W _ => W = wx.drew) (b21Phi xb kb tb rn tc a (some ⟨tb, 0, none⟩) S p out x d q) (fun _ _ _ => True) (by kernel_rfl) (by kernel_rfl) rfl (by kernel_rfl) ?_ ?_ ⟨fun _ => 0, ⟨rfl, fun i _ => trivial⟩⟩ ?_ ?_
              · intro z hz
                simp only [List.mem_cons, List.mem_nil_iff, or_false] at hz
                rcases hz with rfl | rfl | rfl | rfl
                all_goals exact ⟨by kernel_rfl, rfl⟩
              · intro i v W γ hi h
                rcases i with _ | _ | _ | _ | _ | _ | _ | _ | _ | _ | _ | _ | _ | _ | i
                all_goals first | exact h | (simp at hi)
              · refine ⟨?_, ?_, ?_, ?_, ?_, ?_, ?_, ?_, ?_, ?_, ?_, ?_, ?_, ?_, trivial⟩
                all_goals
                  intro a9 W γ ev hcc hff hfx hR hψ hpre
                  simp only [List.mem_cons, List.mem_nil_iff, or_false, forall_eq, forall_eq_or_imp] at hfx
                  obtain ⟨f0, f1, f2, f3⟩ := hfx
                  have HR := Lib.hid hR
                  clear hR
                · refine ⟨fun hg K hK => ?_, trivial⟩
                  clear hg
                  obtain rfl := HR.out
                  clear hpre hψ
                  go_simp
                  exact hK _ _ γ HR.out (fun _ _ _ _ h => h) (fun _ _ _ h => h) rfl
                · refine ⟨fun hg K hK => ?_, trivial⟩
                  clear hg
                  obtain rfl := HR.out
                  clear hpre hψ
                  go_simp
                  exact hK _ _ γ HR.out (fun _ _ _ _ h => h) (fun _ _ _ h => h) rfl
                · refine ⟨fun hg K hK => ?_, trivial⟩
                  clear hg
                  have q0 : ev (.tmp 109) = _ := hpre 1 (by decide)
                  obtain rfl := HR.out
                  have e0 := HCF.out.1
                  have e2 := HCF.out.2.1
                  have zx := HCF.out.2.2.1
                  have k1 := HCF.out.2.2.2.1
                  have zk := HCF.out.2.2.2.2.1
                  have ct := HCF.out.2.2.2.2.2.1
                  have zt := HCF.out.2.2.2.2.2.2
                  clear hpre hψ
                  go_simp
                  exact hK _ _ γ HR.out (fun _ _ _ _ h => h) (fun _ _ _ h => h) rfl
                · refine ⟨fun hg K hK => ?_, trivial⟩
                  clear hg
                  obtain rfl := HR.out
                  clear hpre hψ
                  go_simp
                  exact hK _ _ γ HR.out (fun _ _ _ _ h => h) (fun _ _ _ h => h) rfl
                · refine ⟨fun hg K hK => ?_, trivial⟩
                  clear hg
                  have q0 : ev (.tmp 111) = _ := hpre 3 (by decide)
                  obtain rfl := HR.out
                  have e0 := HCF.out.1
                  have e2 := HCF.out.2.1
                  have zx := HCF.out.2.2.1
                  have k1 := HCF.out.2.2.2.1
                  have zk := HCF.out.2.2.2.2.1
                  have ct := HCF.out.2.2.2.2.2.1
                  have zt := HCF.out.2.2.2.2.2.2
                  clear hpre hψ
                  go_simp
                  exact hK _ _ γ HR.out (fun _ _ _ _ h => h) (fun _ _ _ h => h) rfl
                · refine ⟨fun hg K hK => ?_, trivial⟩
                  clear hg
                  obtain rfl := HR.out
                  clear hpre hψ
                  go_simp
                  exact hK _ _ γ HR.out (fun _ _ _ _ h => h) (fun _ _ _ h => h) rfl
                · refine ⟨fun hg K hK => ?_, trivial⟩
                  clear hg
                  obtain rfl := HR.out
                  clear hpre hψ
                  go_simp
                  exact hK _ _ γ HR.out (fun _ _ _ _ h => h) (fun _ _ _ h => h) rfl
                · refine ⟨fun hg K hK => ?_, trivial⟩
                  clear hg
                  have q0 : ev (.tmp 114) = _ := hpre 6 (by decide)
                  obtain rfl := HR.out
                  have e0 := HCF.out.1
                  have e2 := HCF.out.2.1
                  have zx := HCF.out.2.2.1
                  have k1 := HCF.out.2.2.2.1
                  have zk := HCF.out.2.2.2.2.1
                  have ct := HCF.out.2.2.2.2.2.1
                  have zt := HCF.out.2.2.2.2.2.2
                  clear hpre hψ
                  go_simp
                  exact hK _ _ γ HR.out (fun _ _ _ _ h => h) (fun _ _ _ h => h) rfl
                · refine ⟨fun hg K hK => ?_, trivial⟩
                  clear hg
                  have q0 : ev (.tmp 113) = _ := hpre 5 (by decide)
                  have q1 : ev (.tmp 115) = _ := hpre 7 (by decide)
                  obtain rfl := HR.out
                  clear hpre hψ
                  go_simp
                  exact hK _ _ γ HR.out (fun _ _ _ _ h => h) (fun _ _ _ h => h) rfl
                · refine ⟨fun hg K hK => ?_, trivial⟩
                  clear hg
                  have q0 : ev (.tmp 116) = _ := hpre 8 (by decide)
                  obtain rfl := HR.out
                  have e0 := HCF.out.1
                  have e2 := HCF.out.2.1
                  have zx := HCF.out.2.2.1
                  have k1 := HCF.out.2.2.2.1
                  have zk := HCF.out.2.2.2.2.1
                  have ct := HCF.out.2.2.2.2.2.1
                  have zt := HCF.out.2.2.2.2.2.2
                  clear hpre hψ
                  go_simp
                  exact hK _ _ γ HR.out (fun _ _ _ _ h => h) (fun _ _ _ h => h) rfl
                · refine ⟨fun hg K hK => ?_, trivial⟩
                  clear hg
                  have q0 : ev (.tmp 112) = _ := hpre 4 (by decide)
                  have q1 : ev (.tmp 117) = _ := hpre 9 (by decide)
                  obtain rfl := HR.out
                  have wd : IntKind.i64.wrap (out - x) = d := HWR.out.1
                  clear hpre hψ
                  go_simp
                  exact hK _ _ γ HR.out (fun _ _ _ _ h => h) (fun _ _ _ h => h) rfl
                · refine ⟨fun hg K hK => ?_, trivial⟩
                  clear hg
                  have q0 : ev (.tmp 110) = _ := hpre 2 (by decide)
                  have q1 : ev (.tmp 118) = _ := hpre 10 (by decide)
                  obtain rfl := HR.out
                  have wq : IntKind.i64.wrap (p * d) = q := HWR.out.2.1
                  clear hpre hψ
                  go_simp
                  exact hK _ _ γ HR.out (fun _ _ _ _ h => h) (fun _ _ _ h => h) rfl
                · refine ⟨fun hg K hK => ?_, trivial⟩
                  clear hg
                  have q0 : ev (.tmp 108) = _ := hpre 0 (by decide)
                  have q1 : ev (.tmp 119) = _ := hpre 11 (by decide)
                  obtain rfl := HR.out
                  have ws : IntKind.i64.wrap (S - q) = S - q := HWR.out.2.2
                  clear hpre hψ
                  go_simp
                  exact hK _ _ γ HR.out (fun _ _ _ _ h => h) (fun _ _ _ h => h) rfl
                · refine ⟨fun hg K hK => ?_, trivial⟩
                  clear hg
                  have q0 : ev (.tmp 120) = _ := hpre 12 (by decide)
                  obtain rfl := HR.out
                  clear hpre hψ
                  go_simp
                  exact hK _ _ γ HR.out (fun _ _ _ _ h => h) (fun _ _ _ h => h) rfl
              · intro vs wy γ hvl hR hφ
                have q13 := hφ 13 (by decide)
                have HR := Lib.hid hR
                clear hφ hR
                match vs, hvl with
                | [y0, y1, y2, y3, y4, y5, y6, y7, y8, y9, y10, y11, y12, y13], _ =>
                simp only [List.getD_cons_zero, List.getD_cons_succ] at q13
                replace q13 : y13 = .int .i64 (S - q) := q13
                obtain rfl := HR.out
                clear HR
                simp [putAll, q13]
                clear q13
                go_wp2
                go_roundw
                case rel => exact ⟨k + 1, by omega, by go_num, by rw [HN.out], Lib.hid (by have := HWX.out.drew; exact this)⟩
                case measure => simp [intOf]; omega
            · have hb0 : 0 ≤ wb := by omega
              have d1 : ¬ (wb < 0) := by omega
              have d2 : decide (wb < 0) = false := decide_eq_false d1
              have HN : Hid (S = S1 - sumN (fun i => owV L out (h.wl i)) (k + 1)) := Lib.hid (by
                simp only [sumN]
                rw [show owV L out (h.wl k) = 0 by rw [HWL.out]; unfold owV; rw [if_neg hneg]]
                have := HSS.out
                omega)
              clear hv1 hv2 hv3 hneg hb0
              go_wp2
              go_roundw
              case rel => exact ⟨k + 1, by omega, by go_num, by rw [HN.out], Lib.hid (HW.out.trans (by (repeat' (first | (with_reducible exact Below.refl _ _) | (with_reducible assumption) | (with_reducible refine below_drewN ?_ _) | (with_reducible refine below_after (by assumption) ?_ ?_) | (with_reducible refine Below.drew ?_) | (with_reducible refine Below.alloc ?_ ?_ _) | (with_reducible refine Below.setCell ?_ ?_ _) | omega | (simp; omega) | (simp; done)))))⟩
              case measure => simp [intOf]; omega
          · obtain rfl : wn = k := by omega
            have HW2 := Lib.hid HW.out
            obtain ⟨S2, hS2⟩ : ∃ z, z = S1 - sumN (fun i => owV L out (h.wl i)) wn := ⟨_, rfl⟩
            have HSE2 := Lib.hid hS2
            have HSB2 : Hid (-10000000000000 ≤ S2 ∧ S2 ≤ 10000000000000) := Lib.hid (by rw [hS2]; have h1 := HWS.out wn (Nat.le_refl _); have h2 := HSB.out; omega)
            rw [← hS2]
            have HTS : Hid (∀ k ≤ cn, -1000000000 ≤ sumN (fun i => (tkL h pump L).getD i 0) k ∧ sumN (fun i => (tkL h pump L).getD i 0) k ≤ 1000000000) := Lib.hid (fun k hk => by
              have h1 := sumN_bd (f := fun i => (tkL h pump L).getD i 0) (n := cn) (B := 100000000) (fun i hi9 => by have := tk_bd M.out.ok HO.out.2 L i; omega) k hk
              have h2 := M.out.c6
              rw [HCN.out] at h2
              omega)
            clear hS2 HW hlt hk
            go_wp2
            go_loopw [14, 124] (fun s i wq => ∃ k : Nat, k ≤ cn ∧ i = .int .i64 ((k : Nat) : Int) ∧ s = .int .i64 (S2 + sumN (fun i => (tkL h pump L).getD i 0) k) ∧ Hid (Below w6.heap.size w6 wq)) (fun _ i _ => cn - (intOf i).toNat)
            case atStart => exact ⟨0, by omega, rfl, by simp [sumN], HW2⟩
            case round =>
              obtain ⟨k, hk, rfl, rfl, HW⟩ := hrel
              by_cases hlt : k < cn
              · have hlt2 : k < h.crs.length := by rw [HCN.out]; exact hlt
                obtain ⟨cb, co, xr, e1, hb9, hx9, hc9⟩ := (HHI.out.cl.below HW.out).at_ hlt
                obtain ⟨cc0, cc1, cc2, cc3, cc4⟩ := Clr.cells hc9
                have zb : cb < wr.heap.size := block_of_cell cc0
                have hcr : h.cr k = xr := by unfold Hl.cr; rw [List.getD_eq_getElem?_getD, hx9]; rfl
                obtain ⟨hv1, _⟩ := M.out.ok.clr _ (cr_mem hlt2)
                rw [hcr] at hv1
                obtain ⟨rm, hrm⟩ : ∃ z : Nat, xr.rm = (z : Int) := ⟨xr.rm.toNat, by omega⟩
                have HRM : Hid (rm < rn) := Lib.hid (by rw [← HRN.out]; omega)
                obtain ⟨N, hN⟩ : ∃ z, z = (tkL h pump L).getD k 0 := ⟨_, rfl⟩
                obtain ⟨x, hx⟩ : ∃ z, z = L.getD rm 0 := ⟨_, rfl⟩
                obtain ⟨sp, hsp⟩ : ∃ z, z = xr.sp := ⟨_, rfl⟩
                obtain ⟨c, hc⟩ : ∃ z, z = decide (x ≤ sp) := ⟨_, rfl⟩
                obtain ⟨z, hz⟩ : ∃ y, y = (N != 0) := ⟨_, rfl⟩
                have HN0 : Hid (0 ≤ N ∧ N ≤ 100000000) := Lib.hid (by rw [hN]; exact tk_bd M.out.ok HO.out.2 L k)
                have HZ : Hid (c = true → z = false) := Lib.hid (fun hct => by
                  rw [hc] at hct
                  have h1 := of_decide_eq_true hct
                  have h2 := tk_cold M.out.ok HO.out.2 hlt2 (t := L) (by rw [hcr, hrm, Int.toNat_natCast, ← hx, ← hsp]; exact h1)
                  rw [hz, hN, h2]
                  rfl)
                have hgt : L[rm]? = some x := by rw [hx, List.getD_eq_getElem?_getD, List.getElem?_eq_getElem (by rw [HT.out.1]; exact HRM.out)]; rfl
                have hgn : (tkL h pump L)[k]? = some N := by rw [hN, List.getD_eq_getElem?_getD, List.getElem?_eq_getElem (by rw [tkL_len]; exact hlt2)]; rfl
                have hbt := HTB6.out.below HW.out HTB6.out.lt
                have cn9 := hbt.intAt hgn
                have zn9 := hbt.lt
                obtain ⟨S, hS⟩ : ∃ z, z = S2 + sumN (fun i => (tkL h pump L).getD i 0) k := ⟨_, rfl⟩
                have HSS := Lib.hid hS
                have HNX : Hid (S + N = S2 + sumN (fun i => (tkL h pump L).getD i 0) (k + 1)) := Lib.hid (by simp only [sumN]; rw [← hN, hS]; omega)
                have wsn : IntKind.i64.wrap (S + N) = S + N := IntWalk.i64_in _ (by rw [hS]; have h1 := HTS.out k hk; have h2 := HSB2.out; have := HN0.out; omega)
                have HNN : Hid (decide (N < 0) = false ∧ decide (x ≤ sp) = c ∧ (c = true → (N != 0) = z)) := Lib.hid ⟨decide_eq_false (by have := HN0.out; omega), hc.symm, fun _ => hz.symm⟩
                have hk0 : (0 : Int) ≤ (k : Int) := by omega
                have hkn : (k : Int) < (cn : Int) := by omega
                have hk4 : k ≤ 400 := by have := M.out.c6; omega
                have hr0 : (0 : Int) ≤ (rm : Int) := by omega
                have hrn9 : (rm : Int) < (rn : Int) := by have := HRM.out; omega
                rw [← hS]
                rw [hrm] at cc0
                rw [← hsp] at cc4
                have HCC : Hid (wr.cell? ⟨cb, co + k * 5, none⟩ = some (.int .i64 (rm : Int)) ∧ wr.cell? ⟨cb, co + k * 5 + 4, none⟩ = some (.int .i64 sp) ∧ cb < wr.heap.size) := Lib.hid ⟨cc0, cc4, zb⟩
                have HGT := Lib.hid hgt
                subst e1
                clear hb9 hx9 hc9 hcr hv1 hrm hN hx hsp hc hz hgt hgn hbt hS cc0 cc1 cc2 cc3 cc4 zb
                go_wp2_with fail
                obtain ⟨wx, hwx⟩ : ∃ z, z = wr := ⟨_, rfl⟩
                rw [← hwx]
                have HCF : Hid (wx.drew.cell? ⟨bx, 3, none⟩ = some (.slice (some ⟨cb, co, none⟩) cn cc) ∧ bx < wx.drew.heap.size ∧ wx.drew.cell? ⟨cb, co + k * 5, none⟩ = some (.int .i64 (rm : Int)) ∧ wx.drew.cell? ⟨cb, co + k * 5 + 4, none⟩ = some (.int .i64 sp) ∧ cb < wx.drew.heap.size ∧ wx.drew.cell? ⟨tb, rm, none⟩ = some (.int .i64 x) ∧ tb < wx.drew.heap.size) := Lib.hid (by
                  rw [hwx]
                  have hdr : Below w6.heap.size w6 wr.drew := HW.out.drew
                  have h1 := HBX.out.below hdr HBX.out.lt
                  have h3 := HRT.out.below9 hdr
                  exact ⟨h1.cell 3, h1.lt, HCC.out.1, HCC.out.2.1, HCC.out.2.2, rowI_at h3 HGT.out, (h3.at_ (size := 1) (fun _ => rfl) HGT.out).2.1⟩)
                have HWE := Lib.hid hwx
                clear hwx
                refine wp_region_free10 23 (by kernel_rfl) [some 129, some 130, some 131, some 132, some 133, some 134, some 135, some 136, some 137, some 138, some 139, some 140, some 141, some 142, some 143, some 144, some 145, some 146, some 147, some 148, some 149, some 150, some 151, some 152] [[], [0], [1], [2], [2], [4, 2], [2], [5, 6, 2], [7, 2], [8, 2], [3, 9, 2], [10, 2], [2], [12, 2], [2], [13, 14, 2], [15, 2], [16, 2], [11, 17, 2], [18, 2, 2], [19], [20, 19], [19, 21, 2], [2, 22]] [(21, .int .i64 N), (8, .slice (some ⟨tb, 0, none⟩) rn tc), (7, .pointer (some ⟨bx, 0, none⟩)), (20, .int .i64 (k : Int))] (fun W _ => W = wx.drew) (b26Phi bx cb co tb rn cn cc tc k rm (some ⟨tb, 0, none⟩) N x sp c z) (fun _ _ _ => True) (by kernel_rfl) (by kernel_rfl) rfl (by kernel_rfl) ?_ ?_ ⟨fun _ => 0, ⟨rfl, fun i _ => trivial⟩⟩ ?_ ?_
                · intro z hz
                  simp only [List.mem_cons, List.mem_nil_iff, or_false] at hz
                  rcases hz with rfl | rfl | rfl | rfl
                  all_goals exact ⟨by kernel_rfl, rfl⟩
                · intro i v W γ hi h
                  rcases i with _ | _ | _ | _ | _ | _ | _ | _ | _ | _ | _ | _ | _ | _ | _ | _ | _ | _ | _ | _ | _ | _ | _ | _ | i
                  all_goals first | exact h | (simp at hi)
                · refine ⟨?_, ?_, ?_, ?_, ?_, ?_, ?_, ?_, ?_, ?_, ?_, ?_, ?_, ?_, ?_, ?_, ?_, ?_, ?_, ?_, ?_, ?_, ?_, ?_, trivial⟩
                  all_goals
                    intro a9 W γ ev hcc hff hfx hR hψ hpre
                    simp only [List.mem_cons, List.mem_nil_iff, or_false, forall_eq, forall_eq_or_imp] at hfx
                    obtain ⟨f0, f1, f2, f3⟩ := hfx
                    have HR := Lib.hid hR
                    clear hR
                  · refine ⟨fun hg K hK => ?_, trivial⟩
                    clear hg
                    obtain rfl := HR.out
                    clear hpre hψ
                    go_simp
                    exact hK _ _ γ HR.out (fun _ _ _ _ h => h) (fun _ _ _ h => h) rfl
                  · refine ⟨fun hg K hK => ?_, trivial⟩
                    clear hg
                    have q0 : ev (.tmp 129) = _ := hpre 0 (by decide)
                    obtain rfl := HR.out
                    have dn := HNN.out.1
                    clear hpre hψ
                    go_simp
                    exact hK _ _ γ HR.out (fun _ _ _ _ h => h) (fun _ _ _ h => h) rfl
                  · refine ⟨fun hg K hK => ?_, trivial⟩
                    clear hg
                    have q0 : ev (.tmp 130) = _ := hpre 1 (by decide)
                    obtain rfl := HR.out
                    clear hpre hψ
                    go_simp
                    exact hK _ _ γ HR.out (fun _ _ _ _ h => h) (fun _ _ _ h => h) rfl
                  · refine ⟨fun hg K hK => ?_, fun hg => (hg (hpre 2 (by decide))).elim⟩
                    clear hg
                    obtain rfl := HR.out
                    clear hpre hψ
                    go_simp
                    exact hK _ _ γ HR.out (fun _ _ _ _ h => h) (fun _ _ _ h => h) rfl
                  · refine ⟨fun hg K hK => ?_, fun hg => (hg (hpre 2 (by decide))).elim⟩
                    clear hg
                    obtain rfl := HR.out
                    clear hpre hψ
                    go_simp
                    exact hK _ _ γ HR.out (fun _ _ _ _ h => h) (fun _ _ _ h => h) rfl
                  · refine ⟨fun hg K hK => ?_, fun hg => (hg (hpre 2 (by decide))).elim⟩
                    clear hg
                    have q0 : ev (.tmp 133) = _ := hpre 4 (by decide)
                    obtain rfl := HR.out
                    have e3 := HCF.out.1
                    have zx := HCF.out.2.1
                    have c0 := HCF.out.2.2.1
                    have c4 := HCF.out.2.2.2.1
                    have zc := HCF.out.2.2.2.2.1
                    have ct := HCF.out.2.2.2.2.2.1
                    have zt := HCF.out.2.2.2.2.2.2
                    clear hpre hψ
                    go_simp
                    exact hK _ _ γ HR.out (fun _ _ _ _ h => h) (fun _ _ _ h => h) rfl
                  · refine ⟨fun hg K hK => ?_, fun hg => (hg (hpre 2 (by decide))).elim⟩
                    clear hg
                    obtain rfl := HR.out
                    clear hpre hψ
                    go_simp
                    exact hK _ _ γ HR.out (fun _ _ _ _ h => h) (fun _ _ _ h => h) rfl
                  · refine ⟨fun hg K hK => ?_, fun hg => (hg (hpre 2 (by decide))).elim⟩
                    clear hg
                    have q0 : ev (.tmp 134) = _ := hpre 5 (by decide)
                    have q1 : ev (.tmp 135) = _ := hpre 6 (by decide)
                    obtain rfl := HR.out
                    clear hpre hψ
                    go_simp
                    exact hK _ _ γ HR.out (fun _ _ _ _ h => h) (fun _ _ _ h => h) rfl
                  · refine ⟨fun hg K hK => ?_, fun hg => (hg (hpre 2 (by decide))).elim⟩
                    clear hg
                    have q0 : ev (.tmp 136) = _ := hpre 7 (by decide)
                    obtain rfl := HR.out
                    clear hpre hψ
                    go_simp
                    exact hK _ _ γ HR.out (fun _ _ _ _ h => h) (fun _ _ _ h => h) rfl
                  · refine ⟨fun hg K hK => ?_, fun hg => (hg (hpre 2 (by decide))).elim⟩
                    clear hg
                    have q0 : ev (.tmp 137) = _ := hpre 8 (by decide)
                    obtain rfl := HR.out
                    have e3 := HCF.out.1
                    have zx := HCF.out.2.1
                    have c0 := HCF.out.2.2.1
                    have c4 := HCF.out.2.2.2.1
                    have zc := HCF.out.2.2.2.2.1
                    have ct := HCF.out.2.2.2.2.2.1
                    have zt := HCF.out.2.2.2.2.2.2
                    clear hpre hψ
                    go_simp
                    exact hK _ _ γ HR.out (fun _ _ _ _ h => h) (fun _ _ _ h => h) rfl
                  · refine ⟨fun hg K hK => ?_, fun hg => (hg (hpre 2 (by decide))).elim⟩
                    clear hg
                    have q0 : ev (.tmp 132) = _ := hpre 3 (by decide)
                    have q1 : ev (.tmp 138) = _ := hpre 9 (by decide)
                    obtain rfl := HR.out
                    clear hpre hψ
                    go_simp
                    exact hK _ _ γ HR.out (fun _ _ _ _ h => h) (fun _ _ _ h => h) rfl
                  · refine ⟨fun hg K hK => ?_, fun hg => (hg (hpre 2 (by decide))).elim⟩
                    clear hg
                    have q0 : ev (.tmp 139) = _ := hpre 10 (by decide)
                    obtain rfl := HR.out
                    have e3 := HCF.out.1
                    have zx := HCF.out.2.1
                    have c0 := HCF.out.2.2.1
                    have c4 := HCF.out.2.2.2.1
                    have zc := HCF.out.2.2.2.2.1
                    have ct := HCF.out.2.2.2.2.2.1
                    have zt := HCF.out.2.2.2.2.2.2
                    clear hpre hψ
                    go_simp
                    exact hK _ _ γ HR.out (fun _ _ _ _ h => h) (fun _ _ _ h => h) rfl
                  · refine ⟨fun hg K hK => ?_, fun hg => (hg (hpre 2 (by decide))).elim⟩
                    clear hg
                    obtain rfl := HR.out
                    clear hpre hψ
                    go_simp
                    exact hK _ _ γ HR.out (fun _ _ _ _ h => h) (fun _ _ _ h => h) rfl
                  · refine ⟨fun hg K hK => ?_, fun hg => (hg (hpre 2 (by decide))).elim⟩
                    clear hg
                    have q0 : ev (.tmp 141) = _ := hpre 12 (by decide)
                    obtain rfl := HR.out
                    have e3 := HCF.out.1
                    have zx := HCF.out.2.1
                    have c0 := HCF.out.2.2.1
                    have c4 := HCF.out.2.2.2.1
                    have zc := HCF.out.2.2.2.2.1
                    have ct := HCF.out.2.2.2.2.2.1
                    have zt := HCF.out.2.2.2.2.2.2
                    clear hpre hψ
                    go_simp
                    exact hK _ _ γ HR.out (fun _ _ _ _ h => h) (fun _ _ _ h => h) rfl
                  · refine ⟨fun hg K hK => ?_, fun hg => (hg (hpre 2 (by decide))).elim⟩
                    clear hg
                    obtain rfl := HR.out
                    clear hpre hψ
                    go_simp
                    exact hK _ _ γ HR.out (fun _ _ _ _ h => h) (fun _ _ _ h => h) rfl
                  · refine ⟨fun hg K hK => ?_, fun hg => (hg (hpre 2 (by decide))).elim⟩
                    clear hg
                    have q0 : ev (.tmp 142) = _ := hpre 13 (by decide)
                    have q1 : ev (.tmp 143) = _ := hpre 14 (by decide)
                    obtain rfl := HR.out
                    clear hpre hψ
                    go_simp
                    exact hK _ _ γ HR.out (fun _ _ _ _ h => h) (fun _ _ _ h => h) rfl
                  · refine ⟨fun hg K hK => ?_, fun hg => (hg (hpre 2 (by decide))).elim⟩
                    clear hg
                    have q0 : ev (.tmp 144) = _ := hpre 15 (by decide)
                    obtain rfl := HR.out
                    clear hpre hψ
                    go_simp
                    exact hK _ _ γ HR.out (fun _ _ _ _ h => h) (fun _ _ _ h => h) rfl
                  · refine ⟨fun hg K hK => ?_, fun hg => (hg (hpre 2 (by decide))).elim⟩
                    clear hg
                    have q0 : ev (.tmp 145) = _ := hpre 16 (by decide)
                    obtain rfl := HR.out
                    have e3 := HCF.out.1
                    have zx := HCF.out.2.1
                    have c0 := HCF.out.2.2.1
                    have c4 := HCF.out.2.2.2.1
                    have zc := HCF.out.2.2.2.2.1
                    have ct := HCF.out.2.2.2.2.2.1
                    have zt := HCF.out.2.2.2.2.2.2
                    clear hpre hψ
                    go_simp
                    exact hK _ _ γ HR.out (fun _ _ _ _ h => h) (fun _ _ _ h => h) rfl
                  · refine ⟨fun hg K hK => ?_, fun hg => (hg (hpre 2 (by decide))).elim⟩
                    clear hg
                    have q0 : ev (.tmp 140) = _ := hpre 11 (by decide)
                    have q1 : ev (.tmp 146) = _ := hpre 17 (by decide)
                    obtain rfl := HR.out
                    have dc := HNN.out.2.1
                    clear hpre hψ
                    go_simp
                    exact hK _ _ γ HR.out (fun _ _ _ _ h => h) (fun _ _ _ h => h) rfl
                  · refine ⟨fun hg K hK => ?_, fun hg => (hg (hpre 2 (by decide))).elim⟩
                    clear hg
                    have q0 : ev (.tmp 147) = _ := hpre 18 (by decide)
                    obtain rfl := HR.out
                    clear hpre hψ
                    go_simp
                    exact hK _ _ γ HR.out (fun _ _ _ _ h => h) (fun _ _ _ h => h) rfl
                  · refine ⟨fun hg K hK => ?_, fun hg hc => by have h9 := hpre 19 (by decide); rw [hc] at h9; exact absurd h9 (show ¬ _ from hg)⟩
                    clear hg
                    obtain rfl := HR.out
                    clear hpre hψ
                    go_simp
                    exact hK _ _ γ HR.out (fun _ _ _ _ h => h) (fun _ _ _ h => h) (fun _ => rfl)
                  · refine ⟨fun hg K hK => ?_, fun hg hc => by have h9 := hpre 19 (by decide); rw [hc] at h9; exact absurd h9 (show ¬ _ from hg)⟩
                    have hg9 := hg
                    clear hg
                    obtain rfl := HR.out
                    by_cases hc : c = true
                    · have q0 : ev (.tmp 149) = _ := hpre 20 (by decide) hc
                      have dz := HNN.out.2.2 hc
                      clear hpre hψ
                      go_simp
                      exact hK _ _ γ HR.out (fun _ _ _ _ h => h) (fun _ _ _ h => h) (fun _ => by first | rfl | rw [dz])
                    · exact absurd (by have h9 := hpre 19 (by decide); have h8 := h9.symm.trans hg9; simpa using h8) hc
                  · refine ⟨fun hg K hK => ?_, fun hg => (hg (hpre 2 (by decide))).elim⟩
                    clear hg
                    have q0 : ev (.tmp 148) = _ := hpre 19 (by decide)
                    obtain rfl := HR.out
                    cases c with
                    | false =>
                      clear hpre hψ
                      go_simp
                      exact hK _ _ γ HR.out (fun _ _ _ _ h => h) (fun _ _ _ h => h) rfl
                    | true =>
                      have q1 : ev (.tmp 150) = _ := hpre 21 (by decide) rfl
                      have hz := HZ.out rfl
                      rw [hz] at q1
                      clear hpre hψ
                      go_simp
                      exact hK _ _ γ HR.out (fun _ _ _ _ h => h) (fun _ _ _ h => h) rfl
                  · refine ⟨fun hg K hK => ?_, trivial⟩
                    clear hg
                    have q0 : ev (.tmp 131) = _ := hpre 2 (by decide)
                    have q1 : ev (.tmp 151) = _ := hpre 22 (by decide)
                    obtain rfl := HR.out
                    clear hpre hψ
                    go_simp
                    exact hK _ _ γ HR.out (fun _ _ _ _ h => h) (fun _ _ _ h => h) rfl
                · intro vs wy γ hvl hR hφ
                  have q23 := hφ 23 (by decide)
                  have HR := Lib.hid hR
                  clear hφ hR
                  match vs, hvl with
                  | [y0, y1, y2, y3, y4, y5, y6, y7, y8, y9, y10, y11, y12, y13, y14, y15, y16, y17, y18, y19, y20, y21, y22, y23], _ =>
                  simp only [List.getD_cons_zero, List.getD_cons_succ] at q23
                  replace q23 : y23 = .bool false := q23
                  obtain rfl := HR.out
                  clear HR
                  simp [putAll, q23]
                  clear q23
                  go_wp2
                  go_roundw
                  case rel => exact ⟨k + 1, by omega, by go_num, by rw [HNX.out], Lib.hid (by rw [HWE.out]; have := HW.out.drew; exact this)⟩
                  case measure => simp [intOf]; omega
              · obtain rfl : cn = k := by omega
                have hbal := balance M.out.ok HO.out.2 HO.out.1.1 (getD_nonneg (Int.le_refl _) HTB.out) (getD_nonneg (Int.le_refl _) HLB.out) HMX.out
                rw [HRN.out, HWN.out, HCN.out, ← HSE.out, ← HSE2.out, ← HOE.out] at hbal
                obtain ⟨S, hS⟩ : ∃ z, z = S2 + sumN (fun i => (tkL h pump L).getD i 0) cn := ⟨_, rfl⟩
                rw [← hS] at hbal
                have HSB3 : Hid (-100000000000000 ≤ S ∧ S ≤ 100000000000000) := Lib.hid (by rw [hS]; have h1 := HTS.out cn (Nat.le_refl _); have h2 := HSB2.out; omega)
                rw [← hS]
                have t1 : decide (S ≤ 0) = true := decide_eq_true hbal.1
                have t2 : decide (-S ≤ O1) = true := decide_eq_true hbal.2
                have wn9 : IntKind.i64.wrap (-S) = -S := IntWalk.i64_in _ (by have := HSB3.out; omega)
                clear hbal hS hlt hk
                go_wp2_with fail
                refine (KA.out _).mono ?_
                rintro e v6 ⟨rfl, hB⟩
                have HF : Hid (Below w.heap.size w v6) := Lib.hid (below3 (HLOW.out.trans (HW.out.mono HLOW.out.size)) hB (Nat.le_refl _))
                clear hB
                go_wp2
                go_ret
                exact ⟨rfl, HF.out⟩
end Go.Proofs.Ytndlbjcakfhdiaa
