/- law07: HeatFlows. -/
import Derived.Test.YtndlbjcakfhdiaaHtFa
import Derived.Test.YtndlbjcakfhdiaaHtT

set_option linter.unusedSimpArgs false
set_option linter.unusedVariables false
namespace Go.Proofs.Ytndlbjcakfhdiaa
open Go.RowKit

def fsPhi (sb fb xb n k u : Nat) (a f : Int) : Nat → Value → World → (Nat → Nat) → Prop
  | 0, v, _, _ => v = .slice (some ⟨sb, 0, none⟩) n n
  | 1, v, _, _ => v = .pointer (some ⟨xb, 0, none⟩)
  | 2, v, _, _ => v = .int .i64 (u : Int)
  | 3, v, _, _ => v = .pointer (some ⟨sb, u, none⟩)
  | 4, v, _, _ => v = .int .i64 a
  | 5, v, _, _ => v = .slice (some ⟨fb, 0, none⟩) n n
  | 6, v, _, _ => v = .int .i64 (k : Int)
  | 7, v, _, _ => v = .pointer (some ⟨fb, k, none⟩)
  | 8, v, _, _ => v = .int .i64 f
  | 9, v, _, _ => v = .int .i64 (a + f)
  | 10, v, _, _ => v = .pointer (some ⟨sb, u, none⟩)
  | 11, _, _, γ => γ 0 ≠ 0
  | _, _, _, _ => True
theorem fsPhi_w {sb fb xb n k u : Nat} {a f : Int} {j : Nat} {v : Value} {W W' : World} {γ γ' : Nat → Nat} (h9 : j ≠ 11) (h : fsPhi sb fb xb n k u a f j v W γ) : fsPhi sb fb xb n k u a f j v W' γ' := by
  unfold fsPhi at h ⊢
  split at h <;> first | exact h | exact absurd rfl h9 | trivial
def lkPhi (bx bb n i bc : Nat) (b z lk : Int) : Nat → Value → World → (Nat → Nat) → Prop
  | 0, v, _, _ => v = .pointer (some ⟨bx, 2, none⟩)
  | 1, v, _, _ => v = .slice (some ⟨bb, 0, none⟩) n bc
  | 2, v, _, _ => v = .int .u8 b
  | 3, v, _, _ => v = .int .i64 b
  | 4, v, _, _ => v = .pointer (some ⟨bx, 2, none⟩)
  | 5, v, _, _ => v = .slice (some ⟨bb, 0, none⟩) n bc
  | 6, v, _, _ => v = .int .i64 (n : Int)
  | 7, v, _, _ => v = .int .i64 (i : Int)
  | 8, v, _, _ => v = .pointer (some ⟨bb, i * 3, none⟩)
  | 9, v, _, _ => v = .pointer (some ⟨bb, i * 3 + 2, none⟩)
  | 10, v, _, _ => v = .int .i64 lk
  | 11, v, _, _ => v = .int .u8 z
  | 12, v, _, _ => v = .int .i64 z
  | 13, v, _, _ => v = .int .i64 (lk + z)
  | 14, v, _, _ => v = .pointer (some ⟨bb, i * 3, none⟩)
  | 15, v, _, _ => v = .pointer (some ⟨bb, i * 3 + 2, none⟩)
  | 16, _, _, γ => γ 0 ≠ 0
  | _, _, _, _ => True
theorem lkPhi_w {bx bb n i bc : Nat} {b z lk : Int} {j : Nat} {v : Value} {W W' : World} {γ γ' : Nat → Nat} (h9 : j ≠ 16) (h : lkPhi bx bb n i bc b z lk j v W γ) : lkPhi bx bb n i bc b z lk j v W' γ' := by
  unfold lkPhi at h ⊢
  split at h <;> first | exact h | exact absurd rfl h9 | trivial
set_option maxRecDepth 100000 in
set_option maxHeartbeats 4000000 in
theorem flowsLaw_any (A : Option Addr) (n c : Nat) (l : List Int) (x y b z : Int) (w : World) (h1 : Rd w w.heap.size 1 encU A n l) (u1 : U8s l) (z1 : n ≤ 9223372036854775807) (hx : 0 ≤ x ∧ x ≤ 65535) (hy : 0 ≤ y ∧ y ≤ 65535) (hb : 0 ≤ b ∧ b ≤ 255) (hz : 0 ≤ z ∧ z ≤ 255) :
    Calls Try.prog 6 #[.slice A n c, .int .u16 x, .int .u16 y, .int .u8 b, .int .u8 z] w fun e w' => e = .returned (.bool true) ∧ Below w.heap.size w w' := by
  have KM := Lib.hid (Made_any A n c l w h1 u1)
  have KA := Lib.hid awake_any
  obtain ⟨lo, hlo⟩ : ∃ m, m = min x y := ⟨_, rfl⟩
  obtain ⟨hi, hhi⟩ : ∃ m, m = max x y := ⟨_, rfl⟩
  have HLO : Hid (0 ≤ lo ∧ lo ≤ 100000) := Lib.hid (by omega)
  have HHI : Hid (0 ≤ hi ∧ hi ≤ 65535) := Lib.hid (by omega)
  have HLH : Hid (lo ≤ hi) := Lib.hid (by omega)
  have wlo : IntKind.i64.wrap (min x y) = lo := by rw [← hlo]; exact IntWalk.i64_in _ (by omega)
  have whi : IntKind.i64.wrap (max x y) = hi := by rw [← hhi]; exact IntWalk.i64_in _ (by omega)
  have HB := Lib.hid hb
  have HZ := Lib.hid hz
  clear hx hy hb hz hlo hhi h1 u1 z1
  go_enter Try.func6, Try.ntmps6
  go_wp2_with fail
  refine KM.out.mono ?_
  rintro e w1 ⟨rA, wA, bA, cA, rc, wc, bc, cc, h, rfl, m⟩
  have hB := m.low
  have M := Lib.hid m
  have B0 : Hid (Below w.heap.size w w1) := Lib.hid hB
  clear hB m
  obtain ⟨rn, hrn⟩ : ∃ z, z = h.rooms.length := ⟨_, rfl⟩
  obtain ⟨wn, hwn⟩ : ∃ z, z = h.walls.length := ⟨_, rfl⟩
  obtain ⟨bn, hbn⟩ : ∃ z, z = h.brs.length := ⟨_, rfl⟩
  obtain ⟨cn, hcn⟩ : ∃ z, z = h.crs.length := ⟨_, rfl⟩
  have I1 : Hid (HlIn w1 w1.heap.size ⟨rA, wA, bA, cA, rn, wn, bn, cn⟩ h) := Lib.hid (by rw [hrn, hwn, hbn, hcn]; exact M.out.inn)
  rw [← hrn, ← hwn, ← hbn, ← hcn]
  have HRN := Lib.hid hrn.symm
  have HWN := Lib.hid hwn.symm
  have HBN := Lib.hid hbn.symm
  have HCN := Lib.hid hcn.symm
  have HB6 : Hid (bn ≤ 6) := Lib.hid (by rw [hbn]; exact M.out.b6)
  clear hrn hwn hbn hcn
  have KF := Lib.hid (fun (p : Int) (hp : 0 ≤ p ∧ p ≤ 100000) (W : World) (hin : HlIn W W.heap.size ⟨rA, wA, bA, cA, rn, wn, bn, cn⟩ h) => Flows_any rA wA bA cA rn rc wn wc bn bc cn cc h W hin M.out.ok p hp)
  have g1 : w1.heap.size < w1.heap.size + 1 := by omega
  go_wp2_with fail
  obtain ⟨bx, hbx⟩ : ∃ z, z = w1.heap.size := ⟨_, rfl⟩
  obtain ⟨w2, hw2⟩ : ∃ z, z = w1.alloc (.cells #[.slice rA rn rc, .slice wA wn wc, .slice bA bn bc, .slice cA cn cc] 28) := ⟨_, rfl⟩
  have BX : Hid (Blk w2 bx 28 #[.slice rA rn rc, .slice wA wn wc, .slice bA bn bc, .slice cA cn cc]) := Lib.hid (by rw [hw2, hbx]; exact heap_alloc_new w1 _)
  have Sw2 : Hid (w2.heap.size = bx + 1) := Lib.hid (by rw [hw2, hbx, World.size_alloc])
  have Zbx : Hid (w1.heap.size ≤ bx) := Lib.hid (by rw [hbx]; exact Nat.le_refl _)
  have hBn : Below w1.heap.size w1 w2 := by rw [hw2]; exact (Below.refl _ _).alloc (Nat.le_refl _) _
  rw [← hw2, ← hbx]
  have B1 : Hid (Below w1.heap.size w1 w2) := Lib.hid hBn
  clear hw2 hbx hBn
  clear g1 wlo whi
  refine (KF.out lo HLO.out w2 (I1.out.next B1.out)).mono ?_
  rintro e w3 ⟨f1, rfl, hf, _, hB⟩
  have B2 : Hid (Below w2.heap.size w2 w3) := Lib.hid hB
  clear hB
  have F1 := Lib.hid hf
  clear hf
  have hbk := BX.out.below B2.out BX.out.lt
  have p0 := hbk.cell 0
  have p1 := hbk.cell 1
  have p2 := hbk.cell 2
  have p3 := hbk.cell 3
  simp only [List.getElem?_toArray, List.getElem?_cons_zero, List.getElem?_cons_succ] at p0 p1 p2 p3
  have zp := hbk.lt
  clear hbk
  go_wp2_with fail
  refine (KF.out hi (by have := HHI.out; omega) w3 (I1.out.next (below3 B1.out B2.out (Nat.le_refl _)))).mono ?_
  rintro e w4 ⟨f2, rfl, hf, _, hB⟩
  have B3 : Hid (Below w3.heap.size w3 w4) := Lib.hid hB
  clear hB
  have F2 := Lib.hid hf
  clear hf p0 p1 p2 p3 zp
  have HL1 : Hid ((flL h lo).length = bn) := Lib.hid (by rw [flL_len]; exact HBN.out)
  have HL2 : Hid ((flL h hi).length = bn) := Lib.hid (by rw [flL_len]; exact HBN.out)
  have hB1 : leB (flL h lo) (flL h hi) = true := below_flows M.out.ok HLH.out
  have C := Lib.hid (below_any (some ⟨f1, 0, none⟩) (some ⟨f2, 0, none⟩) bn bn bn (flL h lo) (flL h hi) w4 (by have := HB6.out; omega) (Blk.rdI9 (F1.out.below B3.out F1.out.lt) HL1.out) (Blk.rdI9 F2.out HL2.out))
  rw [hB1] at C
  clear hB1
  have hbk := BX.out.below (below3 B2.out B3.out (Nat.le_refl _)) BX.out.lt
  have p2 := hbk.cell 2
  simp only [List.getElem?_toArray, List.getElem?_cons_zero, List.getElem?_cons_succ] at p2
  have zp := hbk.lt
  clear hbk
  go_wp2_with fail
  refine (C.out).mono ?_
  rintro e w5 ⟨rfl, hB⟩
  have B4 : Hid (Below w4.heap.size w4 w5) := Lib.hid hB
  clear hB
  clear C p2 zp
  have hbk := BX.out.below (below3 (below3 B2.out B3.out (Nat.le_refl _)) B4.out (Nat.le_refl _)) BX.out.lt
  have p2 := hbk.cell 2
  simp only [List.getElem?_toArray, List.getElem?_cons_zero, List.getElem?_cons_succ] at p2
  have zp := hbk.lt
  clear hbk
  by_cases hz0 : bn = 0
  · have d1 : ((bn : Int) = 0) := by omega
    have d2 : ((bn : Int) == 0) = true := by rw [d1]; rfl
    go_wp2_with fail
    refine (KA.out _).mono ?_
    rintro e w6 ⟨rfl, hB⟩
    have HF : Hid (Below w.heap.size w w6) := Lib.hid (below3 (below3 (below3 (below3 (below3 B0.out B1.out (Nat.le_refl _)) B2.out (Nat.le_refl _)) B3.out (Nat.le_refl _)) B4.out (Nat.le_refl _)) hB (Nat.le_refl _))
    clear hB
    go_wp2
    go_ret
    exact ⟨rfl, HF.out⟩
  have d1 : ¬ ((bn : Int) = 0) := by omega
  have d2 : ((bn : Int) == 0) = false := beq_eq_false_iff_ne.2 d1
  have hmk := run_makeInts bn (by have := HB6.out; omega)
  have g1 : w5.heap.size < w5.heap.size + 1 := by omega
  have hz5 : (0 : Int) ≤ (bn : Int) := by omega
  go_wp2_with fail
  clear p2 zp
  obtain ⟨sb, hsb⟩ : ∃ z, z = w5.heap.size := ⟨_, rfl⟩
  obtain ⟨w6, hw6⟩ : ∃ z, z = w5.alloc (.cells (intsA (List.replicate bn 0)) 3) := ⟨_, rfl⟩
  have SB : Hid (Blk w6 sb 3 (intsA (List.replicate bn 0))) := Lib.hid (by rw [hw6, hsb]; exact heap_alloc_new w5 _)
  have Sw6 : Hid (w6.heap.size = sb + 1) := Lib.hid (by rw [hw6, hsb, World.size_alloc])
  have Zsb : Hid (w5.heap.size ≤ sb) := Lib.hid (by rw [hsb]; exact Nat.le_refl _)
  have hBn : Below w5.heap.size w5 w6 := by rw [hw6]; exact (Below.refl _ _).alloc (Nat.le_refl _) _
  rw [← hw6, ← hsb]
  have B5 : Hid (Below w5.heap.size w5 w6) := Lib.hid hBn
  clear hw6 hsb hBn
  clear hmk g1
  have HBX6 := Lib.hid (BX.out.below (below3 (below3 (below3 B2.out B3.out (Nat.le_refl _)) B4.out (Nat.le_refl _)) B5.out (Nat.le_refl _)) BX.out.lt)
  have HNE : Hid (1 ≤ bn) := Lib.hid (by omega)
  have HSB : Hid (w5.heap.size ≤ sb) := Lib.hid Zsb.out
  have HF2B : Hid (f2 < w5.heap.size) := Lib.hid (Nat.lt_of_lt_of_le F2.out.lt B4.out.size)
  have HS0 : Hid (Blk w6 sb 3 (intsA (sfL bn h hi 0))) := Lib.hid (by rw [sfL_zero]; exact SB.out)
  have HBR := Lib.hid (I1.out.br.next (below3 (below3 (below3 (below3 B1.out B2.out (Nat.le_refl _)) B3.out (Nat.le_refl _)) B4.out (Nat.le_refl _)) B5.out (Nat.le_refl _)))
  have HLOW : Hid (Below w5.heap.size w5 w6) := B5
  have HF26 : Hid (Blk w5 f2 3 (intsA (flL h hi))) := Lib.hid (F2.out.below B4.out F2.out.lt)
  have HBR5 := Lib.hid (I1.out.br.next (below3 (below3 (below3 B1.out B2.out (Nat.le_refl _)) B3.out (Nat.le_refl _)) B4.out (Nat.le_refl _)))
  go_loopw [74] (fun i wr => ∃ k : Nat, k ≤ bn ∧ i = .int .i64 ((k : Nat) : Int) ∧ Hid (Below w5.heap.size w5 wr ∧ Blk wr sb 3 (intsA (sfL bn h hi k)))) (fun i _ => bn - (intOf i).toNat)
  case atStart => exact ⟨0, by omega, rfl, Lib.hid ⟨HLOW.out, HS0.out⟩⟩
  case round =>
    obtain ⟨k, hk, rfl, HW⟩ := hrel
    by_cases hlt : k < bn
    · obtain ⟨rb9, off, e1, hb9, hx9, c0, c1, c2⟩ := (HBR5.out.below HW.out.1).brAt hlt
      have hlt2 : k < h.brs.length := by rw [HBN.out]; exact hlt
      have hbk9 := M.out.ok.brn k hlt2
      have zb : rb9 < wr.heap.size := block_of_cell c0
      have hk0 : (0 : Int) ≤ (k : Int) := by omega
      have hkn : (k : Int) < (bn : Int) := by omega
      have hk4 : k ≤ 400 := by have := HB6.out; omega
      have g1 : wr.heap.size < wr.heap.size + 1 := by omega
      obtain ⟨xx, hxx⟩ : ∃ z, z = h.br k := ⟨_, rfl⟩
      rw [← hxx] at c0 c1 c2 hbk9
      have HXX := Lib.hid hxx.symm
      obtain ⟨up, op, lk⟩ := xx
      dsimp only at c0 c1 c2 hbk9
      subst e1
      clear hb9 hx9 hxx
      by_cases hk9 : k = 0
      · have q1 : ¬ ((0 : Int) < (k : Int)) := by omega
        have q2 : ¬ (0 < k) := by omega
        have q3 : decide (0 < k) = false := decide_eq_false q2
        have q4 : decide ((0 : Int) < (k : Int)) = false := decide_eq_false q1
        have HN : Hid (Blk wr sb 3 (intsA (sfL bn h hi (k + 1)))) := Lib.hid (by rw [hk9, sfL_first, ← hk9]; exact HW.out.2)
        have c0z : wr.cell? ⟨rb9, off, none⟩ = some (.int .i64 up) := by rw [hk9] at c0; simpa using c0
        have c1z : wr.cell? ⟨rb9, off + 1, none⟩ = some (.int .i64 op) := by rw [hk9] at c1; simpa using c1
        have c2z : wr.cell? ⟨rb9, off + 2, none⟩ = some (.int .i64 lk) := by rw [hk9] at c2; simpa using c2
        have hz5w := HW.out.1.size
        clear hbk9 c0 c1 c2
        go_wp2
        go_roundw
        case rel => exact ⟨k + 1, by omega, by go_num, Lib.hid ⟨HW.out.1.trans (by (repeat' (first | (with_reducible exact Below.refl _ _) | (with_reducible assumption) | (with_reducible refine below_drewN ?_ _) | (with_reducible refine below_after (by assumption) ?_ ?_) | (with_reducible refine Below.drew ?_) | (with_reducible refine Below.alloc ?_ ?_ _) | (with_reducible refine Below.setCell ?_ ?_ _) | omega | (simp; omega) | (simp; done)))), HN.out.below (by (repeat' (first | (with_reducible exact Below.refl _ _) | (with_reducible assumption) | (with_reducible refine below_drewN ?_ _) | (with_reducible refine below_after (by assumption) ?_ ?_) | (with_reducible refine Below.drew ?_) | (with_reducible refine Below.alloc ?_ ?_ _) | (with_reducible refine Below.setCell ?_ ?_ _) | omega | (simp; omega) | (simp; done)))) HN.out.lt⟩⟩
        case measure => simp [intOf]; omega
      · obtain ⟨u, rfl⟩ : ∃ u : Nat, up = (u : Int) := ⟨up.toNat, by omega⟩
        have q1 : ((0 : Int) < (k : Int)) := by omega
        have q2 : (0 < k) := by omega
        have q3 : decide (0 < k) = true := decide_eq_true q2
        have q4 : decide ((0 : Int) < (k : Int)) = true := decide_eq_true q1
        have hu : u < bn := by omega
        have hu0 : (0 : Int) ≤ (u : Int) := by omega
        have hun : (u : Int) < (bn : Int) := by omega
        have HU : Hid (u < bn) := Lib.hid hu
        clear hbk9
        go_wp2_with fail
        obtain ⟨xb, hxb⟩ : ∃ z, z = wr.heap.size := ⟨_, rfl⟩
        obtain ⟨wx, hwx⟩ : ∃ z, z = wr.alloc (.cells #[.int .i64 (u : Int), .int .i64 op, .int .i64 lk] 71) := ⟨_, rfl⟩
        have hBa : Below wr.heap.size wr wx := by rw [hwx]; exact (Below.refl _ _).alloc (Nat.le_refl _) _
        have hbx : Blk wx xb 71 #[.int .i64 (u : Int), .int .i64 op, .int .i64 lk] := by rw [hwx, hxb]; exact heap_alloc_new wr _
        have HX := Lib.hid (And.intro (below3 HW.out.1 hBa (Nat.le_refl _)) (And.intro hbx (HW.out.2.below hBa HW.out.2.lt)))
        rw [← hwx, ← hxb]
        clear hBa hbx hwx hxb c0 c1 c2 zb g1 q1 q2 q3 q4
        obtain ⟨a, ha⟩ : ∃ z, z = flS h hi (u : Int) k := ⟨_, rfl⟩
        obtain ⟨f, hf⟩ : ∃ z, z = fl h hi k := ⟨_, rfl⟩
        have HA9 : Hid ((sfL bn h hi k)[u]? = some a) := Lib.hid (by rw [ha]; exact sfL_get hu)
        have HA8 : Hid ((flL h hi)[k]? = some f) := Lib.hid (by rw [hf]; exact flL_get hlt2)
        have HNX : Hid ((sfL bn h hi k).set u (a + f) = sfL bn h hi (k + 1)) := Lib.hid (by rw [ha, hf]; exact sfL_set hu (by rw [HXX.out]) hk9)
        have HWR : Hid (IntKind.i64.wrap (a + f) = a + f) := Lib.hid (by
          have h1 := flS_bd M.out.ok HHI.out.1 (u : Int) k (by omega)
          have h2 := fl_nonneg M.out.ok hi hlt2
          have h3 := fl_le M.out.ok HHI.out.1 k hlt2
          have h4 := HHI.out.2
          have h5 := HB6.out
          have h6 : (k : Int) * hi ≤ 6 * 65535 := Int.mul_le_mul (by omega) h4 HHI.out.1 (by omega)
          rw [← ha] at h1
          rw [← hf] at h2 h3
          exact IntWalk.i64_in _ (by omega))
        clear ha hf hu
        refine wp_region_free10 11 (by kernel_rfl) [some 81, some 82, some 83, some 84, some 85, some 86, some 87, some 88, some 89, some 90, some 91, none] [[], [], [1], [0, 2], [3], [], [], [5, 6], [7], [4, 8], [0, 2, 0, 1, 2, 3, 4, 5, 6, 7, 8, 9], [10, 9, 0, 1, 2, 3, 4, 5, 6, 7, 8, 9]] [(18, .slice (some ⟨sb, 0, none⟩) bn bn), (20, .pointer (some ⟨xb, 0, none⟩)), (16, .slice (some ⟨f2, 0, none⟩) bn bn), (19, .int .i64 (k : Int))] (fun W γ => Below w5.heap.size w5 W ∧ Blk W xb 71 #[.int .i64 (u : Int), .int .i64 op, .int .i64 lk] ∧ (γ 0 = 0 → Blk W sb 3 (intsA (sfL bn h hi k))) ∧ (γ 0 ≠ 0 → Blk W sb 3 (intsA ((sfL bn h hi k).set u (a + f))))) (fsPhi sb f2 xb bn k u a f) (fun _ _ γ => γ 0 = 0) (by kernel_rfl) (by kernel_rfl) rfl (by kernel_rfl) ?_ ?_ ⟨fun _ => 0, ⟨HX.out.1.drew, HX.out.2.1.below (Below.refl _ _).drew HX.out.2.1.lt, fun _ => HX.out.2.2.below (Below.refl _ _).drew HX.out.2.2.lt, fun e => absurd rfl e⟩, fun i _ => rfl⟩ ?_ ?_
        · intro z hz
          simp only [List.mem_cons, List.mem_nil_iff, or_false] at hz
          rcases hz with rfl | rfl | rfl | rfl
          all_goals exact ⟨by kernel_rfl, rfl⟩
        · intro i v W γ hi h
          rcases i with _ | _ | _ | _ | _ | _ | _ | _ | _ | _ | _ | _ | i
          all_goals first | exact h | (simp at hi)
        · refine ⟨?_, ?_, ?_, ?_, ?_, ?_, ?_, ?_, ?_, ?_, ?_, ?_, trivial⟩
          all_goals
            intro a9 W γ ev hcc hff hfx hR hψ hpre
            simp only [List.mem_cons, List.mem_nil_iff, or_false, forall_eq, forall_eq_or_imp] at hfx
            obtain ⟨f0, f1, f2, f3⟩ := hfx
            have HR := Lib.hid hR
            clear hR
          · refine ⟨fun hg K hK => ?_, trivial⟩
            clear hg
            clear hpre hψ
            go_simp
            exact hK _ _ γ HR.out (fun _ _ _ _ h => h) (fun _ _ _ h => h) rfl
          · refine ⟨fun hg K hK => ?_, trivial⟩
            clear hg
            clear hpre hψ
            go_simp
            exact hK _ _ γ HR.out (fun _ _ _ _ h => h) (fun _ _ _ h => h) rfl
          · refine ⟨fun hg K hK => ?_, trivial⟩
            clear hg
            have q0 : ev (.tmp 82) = _ := hpre 1 (by decide)
            have hbk := HR.out.2.1
            have hzg := hbk.lt
            have e0 := hbk.cell 0
            simp only [List.getElem?_toArray, List.getElem?_cons_zero, List.getElem?_cons_succ] at e0
            clear hbk
            clear hpre hψ
            go_simp
            exact hK _ _ γ HR.out (fun _ _ _ _ h => h) (fun _ _ _ h => h) rfl
          · refine ⟨fun hg K hK => ?_, trivial⟩
            clear hg
            have q0 : ev (.tmp 81) = _ := hpre 0 (by decide)
            have q1 : ev (.tmp 83) = _ := hpre 2 (by decide)
            clear hpre hψ
            go_simp
            exact hK _ _ γ HR.out (fun _ _ _ _ h => h) (fun _ _ _ h => h) rfl
          · refine ⟨fun hg K hK => ?_, trivial⟩
            clear hg
            have q0 : ev (.tmp 84) = _ := hpre 3 (by decide)
            have hlb := HR.out.2.2.1 hψ
            have hzg := hlb.lt
            have ca := hlb.intAt HA9.out
            clear hlb
            clear hpre hψ
            go_simp
            exact hK _ _ γ HR.out (fun _ _ _ _ h => h) (fun _ _ _ h => h) rfl
          · refine ⟨fun hg K hK => ?_, trivial⟩
            clear hg
            clear hpre hψ
            go_simp
            exact hK _ _ γ HR.out (fun _ _ _ _ h => h) (fun _ _ _ h => h) rfl
          · refine ⟨fun hg K hK => ?_, trivial⟩
            clear hg
            clear hpre hψ
            go_simp
            exact hK _ _ γ HR.out (fun _ _ _ _ h => h) (fun _ _ _ h => h) rfl
          · refine ⟨fun hg K hK => ?_, trivial⟩
            clear hg
            have q0 : ev (.tmp 86) = _ := hpre 5 (by decide)
            have q1 : ev (.tmp 87) = _ := hpre 6 (by decide)
            clear hpre hψ
            go_simp
            exact hK _ _ γ HR.out (fun _ _ _ _ h => h) (fun _ _ _ h => h) rfl
          · refine ⟨fun hg K hK => ?_, trivial⟩
            clear hg
            have q0 : ev (.tmp 88) = _ := hpre 7 (by decide)
            have hlb := HF26.out.below HR.out.1 HF2B.out
            have hzg := hlb.lt
            have cf := hlb.intAt HA8.out
            clear hlb
            clear hpre hψ
            go_simp
            exact hK _ _ γ HR.out (fun _ _ _ _ h => h) (fun _ _ _ h => h) rfl
          · refine ⟨fun hg K hK => ?_, trivial⟩
            clear hg
            have q0 : ev (.tmp 85) = _ := hpre 4 (by decide)
            have q1 : ev (.tmp 89) = _ := hpre 8 (by decide)
            have wa : IntKind.i64.wrap (a + f) = a + f := HWR.out
            clear hpre hψ
            go_simp
            exact hK _ _ γ HR.out (fun _ _ _ _ h => h) (fun _ _ _ h => h) rfl
          · refine ⟨fun hg K hK => ?_, trivial⟩
            clear hg
            have q0 : ev (.tmp 81) = _ := hpre 0 (by decide)
            have q1 : ev (.tmp 83) = _ := hpre 2 (by decide)
            clear hpre hψ
            go_simp
            exact hK _ _ γ HR.out (fun _ _ _ _ h => h) (fun _ _ _ h => h) rfl
          · refine ⟨fun hg K hK => ?_, trivial⟩
            clear hg
            have q0 : ev (.tmp 90) = _ := hpre 9 (by decide)
            have q1 : ev (.tmp 91) = _ := hpre 10 (by decide)
            have hlb := HR.out.2.2.1 hψ
            have zl := hlb.lt
            have fl9 := hlb.frozen
            have ca := hlb.intAt HA9.out
            have HR9 := Lib.hid (And.intro HR.out.1 (And.intro HR.out.2.1 hlb))
            clear hpre hψ hlb
            go_simp
            refine hK undef _ (fun _ => 1) ⟨HR9.out.1.setCell HSB.out _, HR9.out.2.1.far (fun e => blk_ne HR9.out.2.1 HR9.out.2.2 (by decide) e) _, fun e => by simp at e, fun _ => ?_⟩ (fun j u _ hne h => fsPhi_w hne h) (fun h => absurd rfl h) (by simp [fsPhi])
            have h9 := HR9.out.2.2.set_ u (.int .i64 (a + f))
            rw [intsA_set] at h9
            exact h9
        · intro vs wy γ hvl hR hφ
          have q9 := hφ 11 (by decide)
          have HR := Lib.hid hR
          clear hφ hR
          match vs, hvl with
          | [y0, y1, y2, y3, y4, y5, y6, y7, y8, y9, y10, y11], _ =>
          simp only [List.getD_cons_zero, List.getD_cons_succ] at q9
          have HN : Hid (Below w5.heap.size w5 wy ∧ Blk wy sb 3 (intsA (sfL bn h hi (k + 1)))) := Lib.hid ⟨HR.out.1, by rw [← HNX.out]; exact HR.out.2.2.2 (by simpa [fsPhi] using q9)⟩
          clear HR q9
          simp [putAll]
          go_wp2
          go_roundw
          case rel => exact ⟨k + 1, by omega, by go_num, HN⟩
          case measure => simp [intOf]; omega
    · obtain rfl : bn = k := by omega
      have HEND := Lib.hid HW.out
      have HLS : Hid ((sfL bn h hi bn).length = bn) := Lib.hid (sfL_len _ _ _ _)
      have hB1 : leB (sfL bn h hi bn) (flL h hi) = true := by
        have h9 := below_sums M.out.ok (p := hi)
        rw [HBN.out] at h9
        exact h9
      have C := Lib.hid (below_any (some ⟨sb, 0, none⟩) (some ⟨f2, 0, none⟩) bn bn bn (sfL bn h hi bn) (flL h hi) wr (by have := HB6.out; omega) (Blk.rdI9 HEND.out.2 HLS.out) (Blk.rdI9 (HF26.out.below HEND.out.1 HF2B.out) HL2.out))
      rw [hB1] at C
      clear hB1 HW hlt hk
      go_wp2_with fail
      refine C.out.mono ?_
      rintro e v1 ⟨rfl, hB⟩
      have HV1 : Hid (Below w5.heap.size w5 v1) := Lib.hid (below3 HEND.out.1 hB (Nat.le_refl _))
      clear hB C HEND HLS
      obtain ⟨f0, hf0⟩ : ∃ z, z = fl h hi 0 := ⟨_, rfl⟩
      have hbk := HF26.out.below HV1.out HF2B.out
      have cf : v1.cell? ⟨f2, 0, none⟩ = some (.int .i64 f0) := hbk.intAt (by rw [hf0]; exact flL_get (by rw [HBN.out]; exact HNE.out))
      have zf := hbk.lt
      have hle : f0 ≤ hi := by rw [hf0]; exact fl_le M.out.ok HHI.out.1 0 (by rw [HBN.out]; exact HNE.out)
      have t1 : ¬ (hi < f0) := by omega
      have t2 : decide (hi < f0) = false := decide_eq_false t1
      have hn9 : (0 : Int) < (bn : Int) := by have := HNE.out; omega
      have HBF1 : Hid (Blk v1 f1 3 (intsA (flL h lo))) := Lib.hid ((F1.out.below (below3 B3.out B4.out (Nat.le_refl _)) F1.out.lt).below HV1.out (Nat.lt_of_lt_of_le F1.out.lt ((below3 B3.out B4.out (Nat.le_refl _))).size))
      have C := Lib.hid (Min_any (some ⟨f1, 0, none⟩) bn bn (flL h lo) v1 (Blk.rdI9 HBF1.out HL1.out) HNE.out (by have := HB6.out; omega))
      clear hf0 hle hbk
      go_wp2_with fail
      refine C.out.mono ?_
      rintro e v2 ⟨mn, rfl, hmn, hB⟩
      have HV2 : Hid (Below w5.heap.size w5 v2) := Lib.hid (below3 HV1.out hB (Nat.le_refl _))
      have hm0 : 0 ≤ mn := by
        obtain ⟨i, hi9, e⟩ := hmn.1
        rw [flL_get (by rw [HBN.out]; exact hi9)] at e
        cases e
        exact fl_nonneg M.out.ok lo (by rw [HBN.out]; exact hi9)
      have t3 : ¬ (mn < 0) := by omega
      have t4 : decide (mn < 0) = false := decide_eq_false t3
      clear hB C hmn t1 t2 cf zf HBF1
      go_wp2_with fail
      clear t3 t4 hm0
      -- the greater leak
      have HBC : Hid ((w1.heap.size ≤ bx) ∧ Blk v2 bx 28 #[.slice rA rn rc, .slice wA wn wc, .slice bA bn bc, .slice cA cn cc]) := Lib.hid ⟨Zbx.out, (BX.out.below (below3 (below3 B2.out B3.out (Nat.le_refl _)) B4.out (Nat.le_refl _)) BX.out.lt).below HV2.out (Nat.lt_of_lt_of_le BX.out.lt ((below3 (below3 B2.out B3.out (Nat.le_refl _)) B4.out (Nat.le_refl _))).size)⟩
      have HLW : Hid (Below w1.heap.size w1 v2) := Lib.hid (((below3 (below3 (below3 B1.out B2.out (Nat.le_refl _)) B3.out (Nat.le_refl _)) B4.out (Nat.le_refl _))).trans (HV2.out.mono ((below3 (below3 (below3 B1.out B2.out (Nat.le_refl _)) B3.out (Nat.le_refl _)) B4.out (Nat.le_refl _))).size))
      have hrow := row_next M.out.bR HLW.out
      obtain ⟨bb, cur, rfl, hbb0, hbb1⟩ : ∃ (bb : Nat) (cur : Nat), bA = some ⟨bb, 0, none⟩ ∧ w.heap.size ≤ bb ∧ bb < v2.heap.size := by
        rcases hrow.2 with ⟨e, h0⟩ | ⟨g, cap, cur, e, hg, _⟩
        · have := HNE.out; have := HBN.out; omega
        · simp only [Value.slice.injEq] at e
          exact ⟨g, 0, e.1, hg, (hrow.lt g (by rw [e.1]; rfl)).2⟩
      obtain ⟨i, hi9⟩ : ∃ i : Nat, (i : Int) = b.tmod (bn : Int) := ⟨(b.tmod (bn : Int)).toNat, by have := Int.tmod_nonneg (bn : Int) HB.out.1; omega⟩
      have HIB : Hid (i < bn) := Lib.hid (by
        have h1 := Int.tmod_lt_of_pos b (show (0 : Int) < (bn : Int) by have := HNE.out; omega)
        omega)
      have HIL : Hid (i < h.brs.length) := Lib.hid (by rw [HBN.out]; exact HIB.out)
      rw [HBN.out] at hrow
      obtain ⟨lk, hlk⟩ : ∃ z, z = (h.br i).lk := ⟨_, rfl⟩
      have hcl : v2.cell? ⟨bb, i * 3 + 2, none⟩ = some (.int .i64 lk) := by
        rw [hrow.cellAt (i * 3 + 2) (by have := HIB.out; omega), flat_get3 (br_get HIL.out), hlk]
      have hfr := hrow.frozenAt (i * 3 + 2)
      have HLK : Hid (0 ≤ lk ∧ lk ≤ 29) := Lib.hid (by rw [hlk]; exact (M.out.md.brn i HIL.out).2.2)
      have HLE := Lib.hid hlk.symm
      have HST := Lib.hid (hrow.stored (i * 3 + 2) (.int .i64 (lk + z)))
      have HROW := Lib.hid hrow
      have HBB : Hid (w.heap.size ≤ bb ∧ bb < v2.heap.size) := Lib.hid ⟨hbb0, hbb1⟩
      have hbk := HBC.out.2
      have p0 := hbk.cell 0
      have p1 := hbk.cell 1
      have p2 := hbk.cell 2
      have p3 := hbk.cell 3
      simp only [List.getElem?_toArray, List.getElem?_cons_zero, List.getElem?_cons_succ] at p0 p1 p2 p3
      have zp := hbk.lt
      clear hlk hbk hrow
      have wb9 : IntKind.i64.wrap b = b := IntWalk.i64_in _ (by have := HB.out; omega)
      have wz9 : IntKind.i64.wrap z = z := IntWalk.i64_in _ (by have := HZ.out; omega)
      have wr9 : IntKind.i64.wrap (b.tmod (bn : Int)) = (i : Int) := by rw [← hi9]; exact IntWalk.i64_in _ (by have := HIB.out; have := HB6.out; omega)
      have wl9 : IntKind.i64.wrap (lk + z) = lk + z := IntWalk.i64_in _ (by have := HLK.out; have := HZ.out; omega)
      have wt9 : b.tmod (bn : Int) = (i : Int) := hi9.symm
      have hi0 : (0 : Int) ≤ (i : Int) := by omega
      have hin9 : (i : Int) < (bn : Int) := by have := HIB.out; omega
      have HHW := Lib.hid (And.intro hcl (And.intro hfr (And.intro p2 zp)))
      clear hi9 hbb0 hbb1
      clear hcl hfr p0 p1 p2 p3 zp
      refine wp_region_free10 16 (by kernel_rfl) [some 109, some 110, some 111, some 112, some 113, some 114, some 115, some 116, some 117, some 118, some 119, some 120, some 121, some 122, some 123, some 124, none] [[], [0], [], [2], [], [4], [5], [3, 6], [1, 7], [8], [9], [], [11], [10, 12], [1, 7, 0, 1, 2, 3, 4, 5, 6, 7, 8, 9, 10, 11, 12, 13], [14, 0, 1, 2, 3, 4, 5, 6, 7, 8, 9, 10, 11, 12, 13], [15, 13, 0, 1, 2, 3, 4, 5, 6, 7, 8, 9, 10, 11, 12, 13]] [(11, .pointer (some ⟨bx, 0, none⟩)), (3, .int .u8 b), (4, .int .u8 z)] (fun W γ => (γ 0 = 0 → W = v2.drew) ∧ (γ 0 ≠ 0 → W = v2.drew.setCell ⟨bb, i * 3 + 2, none⟩ (.int .i64 (lk + z)))) (lkPhi bx bb bn i bc b z lk) (fun _ _ γ => γ 0 = 0) (by kernel_rfl) (by kernel_rfl) rfl (by kernel_rfl) ?_ ?_ ⟨fun _ => 0, ⟨fun _ => rfl, fun e => absurd rfl e⟩, fun i _ => rfl⟩ ?_ ?_
      · intro z hz
        simp only [List.mem_cons, List.mem_nil_iff, or_false] at hz
        rcases hz with rfl | rfl | rfl
        all_goals exact ⟨by kernel_rfl, rfl⟩
      · intro i v W γ hi h
        rcases i with _ | _ | _ | _ | _ | _ | _ | _ | _ | _ | _ | _ | _ | _ | _ | _ | _ | i
        all_goals first | exact h | (simp at hi)
      · refine ⟨?_, ?_, ?_, ?_, ?_, ?_, ?_, ?_, ?_, ?_, ?_, ?_, ?_, ?_, ?_, ?_, ?_, trivial⟩
        all_goals
          intro a9 W γ ev hcc hff hfx hR hψ hpre
          simp only [List.mem_cons, List.mem_nil_iff, or_false, forall_eq, forall_eq_or_imp] at hfx
          obtain ⟨f0, f1, f2⟩ := hfx
          have HR := Lib.hid hR
          clear hR
        · refine ⟨fun hg K hK => ?_, trivial⟩
          clear hg
          clear hpre hψ
          go_simp
          exact hK _ _ γ HR.out (fun _ _ _ _ h => h) (fun _ _ _ h => h) rfl
        · refine ⟨fun hg K hK => ?_, trivial⟩
          clear hg
          have q0 : ev (.tmp 109) = _ := hpre 0 (by decide)
          obtain rfl := HR.out.1 hψ
          have p2 := HHW.out.2.2.1
          have zp := HHW.out.2.2.2
          have hcl := HHW.out.1
          have hbb1 := HBB.out.2
          clear hpre hψ
          go_simp
          exact hK _ _ γ HR.out (fun _ _ _ _ h => h) (fun _ _ _ h => h) rfl
        · refine ⟨fun hg K hK => ?_, trivial⟩
          clear hg
          clear hpre hψ
          go_simp
          exact hK _ _ γ HR.out (fun _ _ _ _ h => h) (fun _ _ _ h => h) rfl
        · refine ⟨fun hg K hK => ?_, trivial⟩
          clear hg
          have q0 : ev (.tmp 111) = _ := hpre 2 (by decide)
          clear hpre hψ
          go_simp
          exact hK _ _ γ HR.out (fun _ _ _ _ h => h) (fun _ _ _ h => h) rfl
        · refine ⟨fun hg K hK => ?_, trivial⟩
          clear hg
          clear hpre hψ
          go_simp
          exact hK _ _ γ HR.out (fun _ _ _ _ h => h) (fun _ _ _ h => h) rfl
        · refine ⟨fun hg K hK => ?_, trivial⟩
          clear hg
          have q0 : ev (.tmp 113) = _ := hpre 4 (by decide)
          obtain rfl := HR.out.1 hψ
          have p2 := HHW.out.2.2.1
          have zp := HHW.out.2.2.2
          have hcl := HHW.out.1
          have hbb1 := HBB.out.2
          clear hpre hψ
          go_simp
          exact hK _ _ γ HR.out (fun _ _ _ _ h => h) (fun _ _ _ h => h) rfl
        · refine ⟨fun hg K hK => ?_, trivial⟩
          clear hg
          have q0 : ev (.tmp 114) = _ := hpre 5 (by decide)
          clear hpre hψ
          go_simp
          exact hK _ _ γ HR.out (fun _ _ _ _ h => h) (fun _ _ _ h => h) rfl
        · refine ⟨fun hg K hK => ?_, trivial⟩
          clear hg
          have q0 : ev (.tmp 112) = _ := hpre 3 (by decide)
          have q1 : ev (.tmp 115) = _ := hpre 6 (by decide)
          clear hpre hψ
          go_simp
          exact hK _ _ γ HR.out (fun _ _ _ _ h => h) (fun _ _ _ h => h) rfl
        · refine ⟨fun hg K hK => ?_, trivial⟩
          clear hg
          have q0 : ev (.tmp 110) = _ := hpre 1 (by decide)
          have q1 : ev (.tmp 116) = _ := hpre 7 (by decide)
          clear hpre hψ
          go_simp
          exact hK _ _ γ HR.out (fun _ _ _ _ h => h) (fun _ _ _ h => h) rfl
        · refine ⟨fun hg K hK => ?_, trivial⟩
          clear hg
          have q0 : ev (.tmp 117) = _ := hpre 8 (by decide)
          clear hpre hψ
          go_simp
          exact hK _ _ γ HR.out (fun _ _ _ _ h => h) (fun _ _ _ h => h) rfl
        · refine ⟨fun hg K hK => ?_, trivial⟩
          clear hg
          have q0 : ev (.tmp 118) = _ := hpre 9 (by decide)
          obtain rfl := HR.out.1 hψ
          have p2 := HHW.out.2.2.1
          have zp := HHW.out.2.2.2
          have hcl := HHW.out.1
          have hbb1 := HBB.out.2
          clear hpre hψ
          go_simp
          exact hK _ _ γ HR.out (fun _ _ _ _ h => h) (fun _ _ _ h => h) rfl
        · refine ⟨fun hg K hK => ?_, trivial⟩
          clear hg
          clear hpre hψ
          go_simp
          exact hK _ _ γ HR.out (fun _ _ _ _ h => h) (fun _ _ _ h => h) rfl
        · refine ⟨fun hg K hK => ?_, trivial⟩
          clear hg
          have q0 : ev (.tmp 120) = _ := hpre 11 (by decide)
          clear hpre hψ
          go_simp
          exact hK _ _ γ HR.out (fun _ _ _ _ h => h) (fun _ _ _ h => h) rfl
        · refine ⟨fun hg K hK => ?_, trivial⟩
          clear hg
          have q0 : ev (.tmp 119) = _ := hpre 10 (by decide)
          have q1 : ev (.tmp 121) = _ := hpre 12 (by decide)
          clear hpre hψ
          go_simp
          exact hK _ _ γ HR.out (fun _ _ _ _ h => h) (fun _ _ _ h => h) rfl
        · refine ⟨fun hg K hK => ?_, trivial⟩
          clear hg
          have q0 : ev (.tmp 110) = _ := hpre 1 (by decide)
          have q1 : ev (.tmp 116) = _ := hpre 7 (by decide)
          clear hpre hψ
          go_simp
          exact hK _ _ γ HR.out (fun _ _ _ _ h => h) (fun _ _ _ h => h) rfl
        · refine ⟨fun hg K hK => ?_, trivial⟩
          clear hg
          have q0 : ev (.tmp 123) = _ := hpre 14 (by decide)
          clear hpre hψ
          go_simp
          exact hK _ _ γ HR.out (fun _ _ _ _ h => h) (fun _ _ _ h => h) rfl
        · refine ⟨fun hg K hK => ?_, trivial⟩
          clear hg
          have q0 : ev (.tmp 122) = _ := hpre 13 (by decide)
          have q1 : ev (.tmp 124) = _ := hpre 15 (by decide)
          obtain rfl := HR.out.1 hψ
          have p2 := HHW.out.2.2.1
          have zp := HHW.out.2.2.2
          have hcl := HHW.out.1
          have hbb1 := HBB.out.2
          have hfr := HHW.out.2.1
          clear hpre hψ
          go_simp
          exact hK undef _ (fun _ => 1) ⟨fun e => by simp at e, fun _ => rfl⟩ (fun j u _ hne h => lkPhi_w hne h) (fun h => absurd rfl h) (by simp [lkPhi])
      · intro vs v3 γ hvl hR hφ
        have q9 := hφ 16 (by decide)
        have HR := Lib.hid hR
        clear hφ hR
        match vs, hvl with
        | [y0, y1, y2, y3, y4, y5, y6, y7, y8, y9, y10, y11, y12, y13, y14, y15, y16], _ =>
        simp only [List.getD_cons_zero, List.getD_cons_succ] at q9
        have hv3 : v3 = v2.drew.setCell ⟨bb, i * 3 + 2, none⟩ (.int .i64 (lk + z)) := HR.out.2 (by simpa [lkPhi] using q9)
        clear HR q9
        simp [putAll]
        have hd9 : Below v2.heap.size v2 v2.drew := (Below.refl _ _).drew
        have hrow9 := (row_next HROW.out hd9).stored (i * 3 + 2) (.int .i64 (lk + z))
        have hgr : v2.drew.grownBy v3 (some bb) := by rw [hv3]; exact hrow9.2
        have hrow3 : v3.ownsRow w.heap.size 71 3 (.slice (some ⟨bb, 0, none⟩) bn bc) bn ((h.leak i z).brs.flatMap Brn.enc) := by
          have h9 := hrow9.1
          rw [← HLE.out, flat_set3 (br_get HIL.out)] at h9
          rw [hv3, ← HLE.out]
          exact h9
        have hLen : (h.leak i z).brs.length = bn := by rw [← HBN.out]; simp [Hl.leak]
        have KR (T : TypeId) (hT : 71 ≠ T) (size k : Nat) (v : Value) (xs : List Value) (g : v2.ownsRow w.heap.size T size v k xs) : v3.ownsRow w.heap.size T size v k xs :=
          (row_next g hd9).kept hgr (by
            have h8 := own_far (row_next g hd9) (row_next HROW.out hd9) hT.symm
            exact h8)
        have hin3 : HlIn v3 v3.heap.size ⟨rA, wA, some ⟨bb, 0, none⟩, cA, rn, wn, bn, cn⟩ (h.leak i z) := by
          refine ⟨?_, ?_, row_rd (fun _ => rfl) hLen hrow3, ?_⟩
          · have h9 := KR _ (by decide) _ _ _ _ (row_next M.out.rR HLW.out)
            rw [HRN.out] at h9
            exact row_rd (fun _ => rfl) HRN.out h9
          · have h9 := KR _ (by decide) _ _ _ _ (row_next M.out.wR HLW.out)
            rw [HWN.out] at h9
            exact row_rd (fun _ => rfl) HWN.out h9
          · have h9 := KR _ (by decide) _ _ _ _ (row_next M.out.cR HLW.out)
            rw [HCN.out] at h9
            exact row_rd (fun _ => rfl) HCN.out h9
        have hbx3 : Blk v3 bx 28 #[.slice rA rn rc, .slice wA wn wc, .slice (some ⟨bb, 0, none⟩) bn bc, .slice cA cn cc] := (HBC.out.2.below hd9 HBC.out.2.lt).kept hgr (by
          have h8 := own_ne HROW.out HBC.out.2 (by decide)
          exact h8)
        have hf23 : Blk v3 f2 3 (intsA (flL h hi)) := ((HF26.out.below HV2.out HF2B.out).below hd9 (HF26.out.below HV2.out HF2B.out).lt).kept hgr (own_ne HROW.out (HF26.out.below HV2.out HF2B.out) (by decide))
        have hlow3 : Below w.heap.size w v3 := by
          rw [hv3]
          exact (((B0.out.trans (HLW.out.mono B0.out.size)).drew).setCell HBB.out.1 _)
        have hok3 : HlOk (h.leak i z) := leak_ok M.out.ok HIL.out HZ.out.1 (by rw [HLE.out]; have := HLK.out; have := HZ.out; omega)
        have hle3 : leB (flL (h.leak i z) hi) (flL h hi) = true := leak_below M.out.ok HIL.out HZ.out.1 (by rw [HLE.out]; have := HLK.out; have := HZ.out; omega)
        have C := Lib.hid (Flows_any rA wA (some ⟨bb, 0, none⟩) cA rn rc wn wc bn bc cn cc (h.leak i z) v3 hin3 hok3 hi (by have := HHI.out; omega))
        have p0 := hbx3.cell 0
        have p1 := hbx3.cell 1
        have p2 := hbx3.cell 2
        have p3 := hbx3.cell 3
        simp only [List.getElem?_toArray, List.getElem?_cons_zero, List.getElem?_cons_succ] at p0 p1 p2 p3
        have zp := hbx3.lt
        have H3 := Lib.hid (And.intro hlow3 (And.intro hf23 (And.intro hle3 hLen)))
        clear hd9 hrow9 hgr hrow3 hLen KR hin3 hbx3 hf23 hlow3 hok3 hle3 hv3
        go_wp2_with fail
        refine C.out.mono ?_
        rintro e v4 ⟨f3, rfl, hf3, _, hB⟩
        have H4 : Hid (Below v3.heap.size v3 v4) := Lib.hid hB
        have HF3 := Lib.hid hf3
        clear hf3 hB C p0 p1 p2 p3 zp
        have hl3 : (flL (h.leak i z) hi).length = bn := by rw [flL_len]; exact H3.out.2.2.2
        have C := Lib.hid (below_any (some ⟨f3, 0, none⟩) (some ⟨f2, 0, none⟩) bn bn bn (flL (h.leak i z) hi) (flL h hi) v4 (by have := HB6.out; omega) (Blk.rdI9 HF3.out hl3) (Blk.rdI9 (H3.out.2.1.below H4.out H3.out.2.1.lt) HL2.out))
        rw [H3.out.2.2.1] at C
        clear hl3
        go_wp2_with fail
        refine C.out.mono ?_
        rintro e v5 ⟨rfl, hB⟩
        have H5 : Hid (Below v4.heap.size v4 v5) := Lib.hid hB
        clear hB C
        go_wp2_with fail
        refine (KA.out _).mono ?_
        rintro e v6 ⟨rfl, hB⟩
        have HF : Hid (Below w.heap.size w v6) := Lib.hid (below3 (below3 (below3 H3.out.1 H4.out (Nat.le_refl _)) H5.out (Nat.le_refl _)) hB (Nat.le_refl _))
        clear hB
        go_wp2
        go_ret
        exact ⟨rfl, HF.out⟩

end Go.Proofs.Ytndlbjcakfhdiaa
