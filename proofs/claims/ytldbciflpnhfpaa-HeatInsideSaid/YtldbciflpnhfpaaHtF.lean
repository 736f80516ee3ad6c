/- heat: Check of a valid hall, Flows. -/
import Derived.Test.YtldbciflpnhfpaaHtE

set_option linter.unusedSimpArgs false
set_option linter.unusedVariables false
namespace Go.Proofs.Ytldbciflpnhfpaa
open Go.RowKit

def ckPhi (hv : Value) (xb k : Nat) (s st : Int) : Nat → Value → World → (Nat → Nat) → Prop
  | 0, v, _, _ => v = hv
  | 1, v, _, _ => v = .int .i64 (k : Int)
  | 2, v, _, _ => v = .int .i64 s
  | 3, v, _, _ => v = .pointer (some ⟨xb, 0, none⟩)
  | 4, v, _, _ => v = .int .i64 st
  | 5, v, _, _ => v = .bool false
  | _, _, _, _ => True
theorem ckPhi_w {hv : Value} {xb k : Nat} {s st : Int} {j : Nat} {v : Value} {W W' : World} {γ γ' : Nat → Nat} (h : ckPhi hv xb k s st j v W γ) : ckPhi hv xb k s st j v W' γ' := by
  unfold ckPhi at h ⊢
  split at h <;> first | exact h | trivial
set_option maxRecDepth 100000 in
set_option maxHeartbeats 4000000 in
theorem Check_ok (rA wA bA cA : Option Addr) (rn rc wn wc bn bc cn cc : Nat) (h : Hl) (w : World) (hin : HlIn w w.heap.size ⟨rA, wA, bA, cA, rn, wn, bn, cn⟩ h) (ok : HlOk h) :
    Calls Try.prog 37 #[.agg #[.slice rA rn rc, .slice wA wn wc, .slice bA bn bc, .slice cA cn cc]] w fun e w' => e = .returned (.int .i64 0) ∧ Below w.heap.size w w' := by
  have HI := Lib.hid hin
  have OK := Lib.hid ok
  have HRN : Hid (h.rooms.length = rn) := Lib.hid hin.rm.1
  have n1 : 1 ≤ rn := by rw [← HRN.out]; exact ok.n1
  have n8 : rn ≤ 8 := by rw [← HRN.out]; exact ok.n8
  have hw16 : wn ≤ 16 := by have h9 := hin.wl.1; dsimp only at h9; rw [← h9]; exact ok.w16
  have hb16 : bn ≤ 16 := by have h9 := hin.br.1; dsimp only at h9; rw [← h9]; exact ok.b16
  have hc16 : cn ≤ 16 := by have h9 := hin.cl.1; dsimp only at h9; rw [← h9]; exact ok.c16
  have HBN : Hid (h.brs.length = bn) := Lib.hid hin.br.1
  have K1 := Lib.hid (fun W => within_yes (n := (rn : Int)) (a := 1) (b := 8) (by omega) W)
  have KR := Lib.hid (fun W (hW : Below w.heap.size w W) => allR rA rn rc h.rooms 54 W (enters_of Try.func54 (by kernel_rfl) rfl) (hin.rm.next hW) (by omega) (fun x hx W' _ => isRoom_yes x (ok.rom x hx) W'))
  have KW := Lib.hid (fun W (hW : Below w.heap.size w W) => allW wA wn wc h.walls 56 (.agg #[.slice rA rn rc, .slice wA wn wc, .slice bA bn bc, .slice cA cn cc]) W (enters_of Try.func56 (by kernel_rfl) rfl) (hin.wl.next hW) (by omega) (fun x hx W' _ => isWall_yes rA wA bA cA rn rc wn wc bn bc cn cc x (by omega) (by have h9 := ok.wal x hx; rw [HRN.out] at h9; exact h9) W'))
  have KB := Lib.hid (fun W (hW : Below w.heap.size w W) => areBranches_yes bA bn bc h W (hin.br.next hW) ok)
  have KC := Lib.hid (fun W (hW : Below w.heap.size w W) => allC cA cn cc h.crs 59 (.agg #[.slice rA rn rc, .slice wA wn wc, .slice bA bn bc, .slice cA cn cc]) W (enters_of Try.func59 (by kernel_rfl) rfl) (hin.cl.next hW) (by omega) (fun x hx W' _ => isCooler_yes rA wA bA cA rn rc wn wc bn bc cn cc x (by omega) (by omega) (by have h9 := ok.clr x hx; rw [HRN.out, HBN.out] at h9; exact h9) W'))
  have KS := Lib.hid (fun (r : Int) W (hW : Below w.heap.size w W) => slope_any rA wA bA cA rn rc wn wc bn bc cn cc h W (hin.next hW) ok r)
  have d1 : decide ((16 : Int) < (wn : Int)) = false := decide_eq_false (by omega)
  have d2 : decide ((16 : Int) < (bn : Int)) = false := decide_eq_false (by omega)
  have d3 : decide ((16 : Int) < (cn : Int)) = false := decide_eq_false (by omega)
  have g1 : w.heap.size < w.heap.size + 1 := by omega
  clear hin ok
  go_enter Try.func37, Try.ntmps37
  go_wp2_with fail
  obtain ⟨bx, hbx⟩ : ∃ z, z = w.heap.size := ⟨_, rfl⟩
  obtain ⟨w1, hw1⟩ : ∃ z, z = w.alloc (.cells #[.slice rA rn rc, .slice wA wn wc, .slice bA bn bc, .slice cA cn cc] 28) := ⟨_, rfl⟩
  have BX : Hid (Blk w1 bx 28 #[.slice rA rn rc, .slice wA wn wc, .slice bA bn bc, .slice cA cn cc]) := Lib.hid (by rw [hw1, hbx]; exact heap_alloc_new w _)
  have Sw1 : Hid (w1.heap.size = bx + 1) := Lib.hid (by rw [hw1, hbx, World.size_alloc])
  have Zbx : Hid (w.heap.size ≤ bx) := Lib.hid (by rw [hbx]; exact Nat.le_refl _)
  have hBn : Below w.heap.size w w1 := by rw [hw1]; exact (Below.refl _ _).alloc (Nat.le_refl _) _
  rw [← hw1, ← hbx]
  have B0 : Hid (Below w.heap.size w w1) := Lib.hid hBn
  clear hw1 hbx hBn
  refine (K1.out _).mono ?_
  rintro e w9 ⟨rfl, e9⟩
  obtain rfl := e9.symm
  clear g1
  have hbk := BX.out.below (Below.refl w1.heap.size w1) BX.out.lt
  have d0 := hbk.cell 0
  have d1 := hbk.cell 1
  have d2 := hbk.cell 2
  have d3 := hbk.cell 3
  simp only [List.getElem?_toArray, List.getElem?_cons_zero, List.getElem?_cons_succ] at d0 d1 d2 d3
  have zd := hbk.lt
  clear hbk
  go_wp2_with fail
  refine (KR.out _ B0.out).mono ?_
  rintro e w2 ⟨rfl, hB⟩
  have B1 : Hid (Below w1.heap.size w1 w2) := Lib.hid hB
  clear hB
  clear d0 d1 d2 d3 zd
  have hbk := BX.out.below B1.out BX.out.lt
  have d0 := hbk.cell 0
  have d1 := hbk.cell 1
  have d2 := hbk.cell 2
  have d3 := hbk.cell 3
  simp only [List.getElem?_toArray, List.getElem?_cons_zero, List.getElem?_cons_succ] at d0 d1 d2 d3
  have zd := hbk.lt
  clear hbk
  go_wp2_with fail
  refine (KW.out _ (below3 B0.out B1.out (Nat.le_refl _))).mono ?_
  rintro e w3 ⟨rfl, hB⟩
  have B2 : Hid (Below w2.heap.size w2 w3) := Lib.hid hB
  clear hB
  clear d0 d1 d2 d3 zd
  have hbk := BX.out.below (below3 B1.out B2.out (Nat.le_refl _)) BX.out.lt
  have d0 := hbk.cell 0
  have d1 := hbk.cell 1
  have d2 := hbk.cell 2
  have d3 := hbk.cell 3
  simp only [List.getElem?_toArray, List.getElem?_cons_zero, List.getElem?_cons_succ] at d0 d1 d2 d3
  have zd := hbk.lt
  clear hbk
  go_wp2_with fail
  refine (KB.out _ (below3 (below3 B0.out B1.out (Nat.le_refl _)) B2.out (Nat.le_refl _))).mono ?_
  rintro e w4 ⟨rfl, hB⟩
  have B3 : Hid (Below w3.heap.size w3 w4) := Lib.hid hB
  clear hB
  clear d0 d1 d2 d3 zd
  have hbk := BX.out.below (below3 (below3 B1.out B2.out (Nat.le_refl _)) B3.out (Nat.le_refl _)) BX.out.lt
  have d0 := hbk.cell 0
  have d1 := hbk.cell 1
  have d2 := hbk.cell 2
  have d3 := hbk.cell 3
  simp only [List.getElem?_toArray, List.getElem?_cons_zero, List.getElem?_cons_succ] at d0 d1 d2 d3
  have zd := hbk.lt
  clear hbk
  go_wp2_with fail
  refine (KC.out _ (below3 (below3 (below3 B0.out B1.out (Nat.le_refl _)) B2.out (Nat.le_refl _)) B3.out (Nat.le_refl _))).mono ?_
  rintro e w5 ⟨rfl, hB⟩
  have B4 : Hid (Below w4.heap.size w4 w5) := Lib.hid hB
  clear hB
  clear d0 d1 d2 d3 zd
  have hbk := BX.out.below (below3 (below3 (below3 B1.out B2.out (Nat.le_refl _)) B3.out (Nat.le_refl _)) B4.out (Nat.le_refl _)) BX.out.lt
  have d0 := hbk.cell 0
  simp only [List.getElem?_toArray, List.getElem?_cons_zero, List.getElem?_cons_succ] at d0
  have zd := hbk.lt
  clear hbk
  go_wp2
  clear d0 zd
  have HRM := Lib.hid (HI.out.rm.next (below3 (below3 (below3 (below3 B0.out B1.out (Nat.le_refl _)) B2.out (Nat.le_refl _)) B3.out (Nat.le_refl _)) B4.out (Nat.le_refl _)))
  have HBX := Lib.hid (BX.out.below (below3 (below3 (below3 B1.out B2.out (Nat.le_refl _)) B3.out (Nat.le_refl _)) B4.out (Nat.le_refl _)) BX.out.lt)
  have HL05 : Hid (Below w.heap.size w w5) := Lib.hid (below3 (below3 (below3 (below3 B0.out B1.out (Nat.le_refl _)) B2.out (Nat.le_refl _)) B3.out (Nat.le_refl _)) B4.out (Nat.le_refl _))
  go_loopw [57] (fun i wr => ∃ k : Nat, k ≤ rn ∧ i = .int .i64 ((k : Nat) : Int) ∧ Hid (Below w5.heap.size w5 wr)) (fun i _ => rn - (intOf i).toNat)
  case atStart => exact ⟨0, by omega, rfl, Lib.hid (Below.refl _ _)⟩
  case round =>
    obtain ⟨k, hk, rfl, HW⟩ := hrel
    by_cases hlt : k < rn
    · obtain ⟨b, off, x, e1, hb, hx, hcx⟩ := (HRM.out.next HW.out).at_ hlt
      subst e1
      obtain ⟨c0, c1⟩ := Rom.cells hcx
      have zb : b < wr.heap.size := hb
      have hk0 : (0 : Int) ≤ (k : Int) := by omega
      have hkn : (k : Int) < (rn : Int) := by omega
      have g1 : wr.heap.size < wr.heap.size + 1 := by omega
      have HSL : Hid (slopeF h (k : Int) ≤ x.st) := Lib.hid (by
        have h1 := OK.out.slp k (by rw [HRN.out]; exact hlt)
        rw [List.getD_eq_getElem?_getD, hx] at h1
        exact h1)
      obtain ⟨st, lim⟩ := x
      dsimp only at HSL c0 c1
      clear hx hcx hb
      go_wp2_with fail
      obtain ⟨xb, hxb⟩ : ∃ z, z = wr.heap.size := ⟨_, rfl⟩
      obtain ⟨wx, hwx⟩ : ∃ z, z = wr.alloc (.cells #[.int .i64 st, .int .i64 lim] 61) := ⟨_, rfl⟩
      have hBa : Below wr.heap.size wr wx := by rw [hwx]; exact (Below.refl _ _).alloc (Nat.le_refl _) _
      have hbx : Blk wx xb 61 #[.int .i64 st, .int .i64 lim] := by rw [hwx, hxb]; exact heap_alloc_new wr _
      have HX := Lib.hid (And.intro (below3 HW.out hBa (Nat.le_refl _)) hbx)
      rw [← hwx, ← hxb]
      clear hBa hbx hwx hxb c0 c1 zb g1
      obtain ⟨s, hs⟩ : ∃ z, z = slopeF h (k : Int) := ⟨_, rfl⟩
      have KK := Lib.hid (fun W hW => KS.out (k : Int) W hW)
      rw [← hs] at HSL KK
      have ds : decide (st < s) = false := decide_eq_false (by have := HSL.out; omega)
      clear hs
      refine wp_region_free10 5 (by kernel_rfl) [some 62, some 63, some 64, some 65, some 66, some 67] [[], [], [0, 1], [], [3], [2, 4]] [(1, .pointer (some ⟨bx, 0, none⟩)), (3, .int .i64 (k : Int)), (4, .pointer (some ⟨xb, 0, none⟩))] (fun W _ => Below w5.heap.size w5 W ∧ Blk W xb 61 #[.int .i64 st, .int .i64 lim]) (ckPhi (.agg #[.slice (some ⟨b, off, none⟩) rn rc, .slice wA wn wc, .slice bA bn bc, .slice cA cn cc]) xb k s st) (fun _ _ _ => True) (by kernel_rfl) (by kernel_rfl) rfl (by kernel_rfl) ?_ ?_ ⟨fun _ => 0, ⟨HX.out.1.drew, HX.out.2.below (Below.refl _ _).drew HX.out.2.lt⟩, fun i _ => trivial⟩ ?_ ?_
      · intro z hz
        simp only [List.mem_cons, List.mem_nil_iff, or_false] at hz
        rcases hz with rfl | rfl | rfl
        all_goals exact ⟨by kernel_rfl, rfl⟩
      · intro i v W γ hi h
        rcases i with _ | _ | _ | _ | _ | _ | i
        all_goals first | exact h | (simp at hi)
      · refine ⟨?_, ?_, ?_, ?_, ?_, ?_, trivial⟩
        all_goals
          intro a9 W γ ev hcc hff hfx hR hψ hpre
          simp only [List.mem_cons, List.mem_nil_iff, or_false, forall_eq, forall_eq_or_imp] at hfx
          obtain ⟨f0, f1, f2⟩ := hfx
          have HR := Lib.hid hR
          clear hR
        · refine ⟨fun hg K hK => ?_, trivial⟩
          clear hg
          have hbk := HBX.out.below HR.out.1 HBX.out.lt
          have hzg := hbk.lt
          have e0 := hbk.cell 0
          have e1 := hbk.cell 1
          have e2 := hbk.cell 2
          have e3 := hbk.cell 3
          simp only [List.getElem?_toArray, List.getElem?_cons_zero, List.getElem?_cons_succ] at e0 e1 e2 e3
          clear hbk
          clear hpre hψ
          go_simp
          exact hK _ _ γ HR.out (fun _ _ _ _ h => h) (fun _ _ _ h => h) rfl
        · refine ⟨fun hg K hK => ?_, trivial⟩
          clear hg
          clear hpre hψ
          go_simp
          exact hK _ _ γ HR.out (fun _ _ _ _ h => h) (fun _ _ _ h => h) rfl
        · refine ⟨fun hg K hK => ?_, trivial⟩
          clear hg
          have q0 : ev (.tmp 62) = _ := hpre 0 (by decide)
          have q1 : ev (.tmp 63) = _ := hpre 1 (by decide)
          have C := Lib.hid (KK.out W (below3 HL05.out HR.out.1 (Nat.le_refl _)))
          have HR9 := HR
          clear hpre hψ
          go_simp
          refine C.out.mono ?_
          rintro e9 w5x ⟨rfl, hB5⟩
          exact hK _ w5x γ ⟨below3 HR9.out.1 hB5 (Nat.le_refl _), HR9.out.2.below hB5 HR9.out.2.lt⟩ (fun j u _ _ h => ckPhi_w h) (fun _ _ _ h => h) rfl
        · refine ⟨fun hg K hK => ?_, trivial⟩
          clear hg
          clear hpre hψ
          go_simp
          exact hK _ _ γ HR.out (fun _ _ _ _ h => h) (fun _ _ _ h => h) rfl
        · refine ⟨fun hg K hK => ?_, trivial⟩
          clear hg
          have q0 : ev (.tmp 65) = _ := hpre 3 (by decide)
          have hbk := HR.out.2
          have hzg := hbk.lt
          have e0 := hbk.cell 0
          simp only [List.getElem?_toArray, List.getElem?_cons_zero, List.getElem?_cons_succ] at e0
          clear hbk
          clear hpre hψ
          go_simp
          exact hK _ _ γ HR.out (fun _ _ _ _ h => h) (fun _ _ _ h => h) rfl
        · refine ⟨fun hg K hK => ?_, trivial⟩
          clear hg
          have q0 : ev (.tmp 64) = _ := hpre 2 (by decide)
          have q1 : ev (.tmp 66) = _ := hpre 4 (by decide)
          clear hpre hψ
          go_simp
          exact hK _ _ γ HR.out (fun _ _ _ _ h => h) (fun _ _ _ h => h) rfl
      · intro vs wy γ hvl hR hφ
        have q5 := hφ 5 (by decide)
        have HR := Lib.hid hR
        clear hφ hR
        match vs, hvl with
        | [y0, y1, y2, y3, y4, y5], _ =>
        simp only [List.getD_cons_zero, List.getD_cons_succ] at q5
        obtain rfl : y5 = _ := q5
        have HN : Hid (Below w5.heap.size w5 wy) := Lib.hid HR.out.1
        clear HR
        simp [putAll]
        go_wp2
        go_roundw
        case rel => exact ⟨k + 1, by omega, by go_num, HN⟩
        case measure => simp [intOf]; omega
    · obtain rfl : rn = k := by omega
      go_wp2
      go_ret
      exact ⟨rfl, below3 HL05.out HW.out (Nat.le_refl _)⟩
set_option maxRecDepth 100000 in
set_option maxHeartbeats 4000000 in
theorem Flows_any (rA wA bA cA : Option Addr) (rn rc wn wc bn bc cn cc : Nat) (h : Hl) (w : World) (hin : HlIn w w.heap.size ⟨rA, wA, bA, cA, rn, wn, bn, cn⟩ h) (ok : HlOk h) (pump : Int) (hp : 0 ≤ pump ∧ pump ≤ 100000) :
    Calls Try.prog 27 #[.agg #[.slice rA rn rc, .slice wA wn wc, .slice bA bn bc, .slice cA cn cc], .int .i64 pump] w fun e w' => ∃ lb, e = .returned (.tuple #[.slice (some ⟨lb, 0, none⟩) bn bn, .int .i64 0]) ∧ Blk w' lb 3 (intsA (flL h pump)) ∧ w.heap.size ≤ lb ∧ Below w.heap.size w w' := by
  have KC := Lib.hid (fun W (hW : Below w.heap.size w W) => Check_ok rA wA bA cA rn rc wn wc bn bc cn cc h W (hin.next hW) ok)
  have KP := Lib.hid (fun W => isFlow_yes hp W)
  have KF := Lib.hid (fun W (hW : Below w.heap.size w W) => flows_any rA wA bA cA rn rc wn wc bn bc cn cc h W (hin.next hW) ok pump hp)
  have g1 : w.heap.size < w.heap.size + 1 := by omega
  clear hin ok hp
  go_enter Try.func27, Try.ntmps27
  go_wp2_with fail
  obtain ⟨bx, hbx⟩ : ∃ z, z = w.heap.size := ⟨_, rfl⟩
  obtain ⟨w1, hw1⟩ : ∃ z, z = w.alloc (.cells #[.slice rA rn rc, .slice wA wn wc, .slice bA bn bc, .slice cA cn cc] 28) := ⟨_, rfl⟩
  have BX : Hid (Blk w1 bx 28 #[.slice rA rn rc, .slice wA wn wc, .slice bA bn bc, .slice cA cn cc]) := Lib.hid (by rw [hw1, hbx]; exact heap_alloc_new w _)
  have Sw1 : Hid (w1.heap.size = bx + 1) := Lib.hid (by rw [hw1, hbx, World.size_alloc])
  have Zbx : Hid (w.heap.size ≤ bx) := Lib.hid (by rw [hbx]; exact Nat.le_refl _)
  have hBn : Below w.heap.size w w1 := by rw [hw1]; exact (Below.refl _ _).alloc (Nat.le_refl _) _
  rw [← hw1, ← hbx]
  have B0 : Hid (Below w.heap.size w w1) := Lib.hid hBn
  clear hw1 hbx hBn
  refine (KC.out _ B0.out).mono ?_
  rintro e w2 ⟨rfl, hB⟩
  have B1 : Hid (Below w1.heap.size w1 w2) := Lib.hid hB
  clear hB
  clear g1
  have hbk := BX.out.below B1.out BX.out.lt
  have d0 := hbk.cell 0
  have d1 := hbk.cell 1
  have d2 := hbk.cell 2
  have d3 := hbk.cell 3
  simp only [List.getElem?_toArray, List.getElem?_cons_zero, List.getElem?_cons_succ] at d0 d1 d2 d3
  have zd := hbk.lt
  clear hbk
  go_wp2_with fail
  refine (KP.out _).mono ?_
  rintro e w9 ⟨rfl, e9⟩
  obtain rfl := e9.symm
  go_wp2_with fail
  refine (KF.out _ (below3 B0.out B1.out (Nat.le_refl _))).mono ?_
  rintro e w3 ⟨lb, rfl, hlb, hle, hB⟩
  have B2 : Hid (Below w2.heap.size w2 w3) := Lib.hid hB
  clear hB
  have HF := Lib.hid (And.intro hlb (And.intro hle trivial))
  clear d0 d1 d2 d3 zd hlb hle
  go_wp2
  refine bodyPost_ret (v := .tuple #[.slice (some ⟨lb, 0, none⟩) bn bn, .int .i64 0]) ?_ rfl ?_
  · simp [results, go_sem]
  · exact ⟨lb, rfl, HF.out.1, Nat.le_trans (below3 B0.out B1.out (Nat.le_refl _)).size HF.out.2.1, (below3 (below3 B0.out B1.out (Nat.le_refl _)) B2.out (Nat.le_refl _))⟩
end Go.Proofs.Ytldbciflpnhfpaa
