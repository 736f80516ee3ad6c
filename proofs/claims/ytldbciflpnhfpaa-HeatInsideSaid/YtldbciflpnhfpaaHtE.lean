/- heat: Check of a valid hall, Flows. -/
import Derived.Test.YtldbciflpnhfpaaHtD
import Derived.Test.YtldbciflpnhfpaaHtC

set_option linter.unusedSimpArgs false
set_option linter.unusedVariables false
namespace Go.Proofs.Ytldbciflpnhfpaa
open Go.RowKit

theorem within_no {n a b : Int} (h : n < a) (w : World) : Calls Try.prog 52 #[.int .i64 n, .int .i64 a, .int .i64 b] w fun e w' => e = .returned (.bool false) ∧ w' = w := by
  have d1 : decide (a ≤ n) = false := decide_eq_false (by omega)
  have d2 : ¬ (a ≤ n) := by omega
  clear h
  go_enter Try.func52, Try.ntmps52
  go_wp2
  go_ret
  exact ⟨rfl, rfl⟩
set_option maxRecDepth 100000 in
theorem isBranch_yes (i : Nat) (x : Brn) (hi : i ≤ 100) (h : ((i = 0 ∧ x.up = -1) ∨ (0 ≤ x.up ∧ x.up < (i : Int))) ∧ (0 ≤ x.op ∧ x.op ≤ 100) ∧ 0 ≤ x.lk ∧ x.lk ≤ 100000) (w : World) : Calls Try.prog 85 #[.int .i64 (i : Int), .agg #[.int .i64 x.up, .int .i64 x.op, .int .i64 x.lk]] w fun e w' => e = .returned (.bool true) ∧ Below w.heap.size w w' := by
  have K2 := Lib.hid (fun W => within_yes h.2.1 W)
  have K3 := Lib.hid (fun W => isFlow_yes h.2.2 W)
  obtain ⟨x0, x1, x2⟩ := x
  have h1 := h.1
  dsimp only at *
  have hw : IntKind.i64.wrap ((i : Int) - 1) = (i : Int) - 1 := IntWalk.i64_in _ (by omega)
  rcases h1 with ⟨h2, rfl⟩ | ⟨h3, h4⟩
  · subst h2
    have K1 := Lib.hid (fun W => within_no (n := -1) (a := 0) (b := ((0 : Nat) : Int) - 1) (by omega) W)
    have hw2 : IntKind.i64.wrap (0 - 1) = ((0 : Nat) : Int) - 1 := hw
    clear hi h
    go_enter Try.func85, Try.ntmps85
    go_wp2_with fail
    refine (K1.out _).mono ?_
    rintro e w2 ⟨rfl, rfl⟩
    go_wp2_with fail
    refine (K2.out _).mono ?_
    rintro e w2 ⟨rfl, rfl⟩
    go_wp2_with fail
    refine (K3.out _).mono ?_
    rintro e w2 ⟨rfl, rfl⟩
    go_wp2
    go_ret
    exact ⟨rfl, by (repeat' (first | (with_reducible exact Below.refl _ _) | (with_reducible assumption) | (with_reducible refine below_drewN ?_ _) | (with_reducible refine below_after (by assumption) ?_ ?_) | (with_reducible refine Below.drew ?_) | (with_reducible refine Below.alloc ?_ ?_ _) | (with_reducible refine Below.setCell ?_ ?_ _) | omega | (simp; omega) | (simp; done)))⟩
  · have K1 := Lib.hid (fun W => within_yes (n := x0) (a := 0) (b := (i : Int) - 1) (by omega) W)
    have d1 : ((i : Int) == 0) = false := beq_eq_false_iff_ne.2 (by omega)
    have d2 : ¬ ((i : Int) = 0) := by omega
    have d3 : ¬ (i = 0) := by omega
    clear hi h h3 h4
    go_enter Try.func85, Try.ntmps85
    go_wp2_with fail
    refine (K1.out _).mono ?_
    rintro e w2 ⟨rfl, rfl⟩
    go_wp2_with fail
    refine (K2.out _).mono ?_
    rintro e w2 ⟨rfl, rfl⟩
    go_wp2_with fail
    refine (K3.out _).mono ?_
    rintro e w2 ⟨rfl, rfl⟩
    go_wp2
    go_ret
    exact ⟨rfl, by (repeat' (first | (with_reducible exact Below.refl _ _) | (with_reducible assumption) | (with_reducible refine below_drewN ?_ _) | (with_reducible refine below_after (by assumption) ?_ ?_) | (with_reducible refine Below.drew ?_) | (with_reducible refine Below.alloc ?_ ?_ _) | (with_reducible refine Below.setCell ?_ ?_ _) | omega | (simp; omega) | (simp; done)))⟩
set_option maxRecDepth 100000 in
theorem areBranches_yes (bA : Option Addr) (bn bc : Nat) (h : Hl) (w : World) (hr : Rd w w.heap.size 3 Brn.enc bA bn h.brs) (ok : HlOk h) : Calls Try.prog 57 #[.slice bA bn bc] w fun e w' => e = .returned (.bool true) ∧ Below w.heap.size w w' := by
  have HR := Lib.hid hr
  have OK := Lib.hid ok
  have HBN : Hid (h.brs.length = bn) := Lib.hid hr.1
  have hb16 : bn ≤ 16 := by rw [← HBN.out]; exact ok.b16
  have KB := Lib.hid (fun (k : Nat) (hk : k < bn) W => isBranch_yes k (h.br k) (by omega) (ok.brn k (by rw [HBN.out]; exact hk)) W)
  clear hr ok
  go_enter Try.func57, Try.ntmps57
  go_wp2
  go_loopw [7] (fun i wr => ∃ k : Nat, k ≤ bn ∧ i = .int .i64 ((k : Nat) : Int) ∧ Hid (Below w.heap.size w wr)) (fun i _ => bn - (intOf i).toNat)
  case atStart => exact ⟨0, by omega, rfl, Lib.hid (Below.refl _ _)⟩
  case round =>
    obtain ⟨k, hk, rfl, HW⟩ := hrel
    by_cases hlt : k < bn
    · obtain ⟨b, off, e1, hb, hx, c0, c1, c2⟩ := (HR.out.next HW.out).brAt hlt
      subst e1
      have K := Lib.hid (fun W => KB.out k hlt W)
      have zb : b < wr.heap.size := hb
      have hk0 : (0 : Int) ≤ (k : Int) := by omega
      have hkn : (k : Int) < (bn : Int) := by omega
      have g1 : wr.heap.size < wr.heap.size + 1 := by omega
      obtain ⟨x, hx9⟩ : ∃ z, z = h.br k := ⟨_, rfl⟩
      rw [← hx9] at K c0 c1 c2
      obtain ⟨up, op, lk⟩ := x
      dsimp only at K c0 c1 c2
      clear hx hb hx9
      go_wp2_with fail
      refine (K.out _).mono ?_
      rintro e w2 ⟨rfl, hB2⟩
      have HB2 := Lib.hid (below3 HW.out (((Below.refl wr.heap.size wr).alloc (Nat.le_refl _) _).trans (hB2.mono (by simp))) (Nat.le_refl _))
      clear hB2
      go_wp2
      go_roundw
      case rel => exact ⟨k + 1, by omega, by go_num, HB2⟩
      case measure => simp [intOf]; omega
    · obtain rfl : bn = k := by omega
      go_wp2
      go_ret
      exact ⟨rfl, HW.out⟩
theorem slW_bd {i : Int} {l : List Wal} (h : ∀ x ∈ l, 0 ≤ x.p ∧ x.p ≤ 100000) : 0 ≤ slW i l ∧ slW i l ≤ 100000 * l.length := by
  induction l with
  | nil => simp [slW]
  | cons a l ih =>
    have h1 := ih (fun x hx => h x (List.mem_cons_of_mem _ hx))
    have h2 := h a List.mem_cons_self
    simp only [slW, List.length_cons]
    split <;> omega
theorem slC_bd {i : Int} {l : List Clr} (h : ∀ x ∈ l, 0 ≤ x.gn ∧ x.gn ≤ 100000) : 0 ≤ slC i l ∧ slC i l ≤ 100000 * l.length := by
  induction l with
  | nil => simp [slC]
  | cons a l ih =>
    have h1 := ih (fun x hx => h x (List.mem_cons_of_mem _ hx))
    have h2 := h a List.mem_cons_self
    simp only [slC, List.length_cons]
    split <;> omega
theorem slW_take {i : Int} {l : List Wal} {k : Nat} {x : Wal} (h : l[k]? = some x) : slW i (l.take (k + 1)) = slW i (l.take k) + if x.a = i ∨ x.b = i then x.p else 0 := by
  rw [List.take_add_one, h, show (some x).toList = [x] from rfl, slW_snoc]
theorem slC_take {i : Int} {l : List Clr} {k : Nat} {x : Clr} (h : l[k]? = some x) : slC i (l.take (k + 1)) = slC i (l.take k) + if x.rm = i then x.gn else 0 := by
  rw [List.take_add_one, h, show (some x).toList = [x] from rfl, slC_snoc]
set_option maxRecDepth 100000 in
set_option maxHeartbeats 4000000 in
theorem slope_any (rA wA bA cA : Option Addr) (rn rc wn wc bn bc cn cc : Nat) (h : Hl) (w : World) (hin : HlIn w w.heap.size ⟨rA, wA, bA, cA, rn, wn, bn, cn⟩ h) (ok : HlOk h) (r : Int) :
    Calls Try.prog 60 #[.agg #[.slice rA rn rc, .slice wA wn wc, .slice bA bn bc, .slice cA cn cc], .int .i64 r] w fun e w' => e = .returned (.int .i64 (slopeF h r)) ∧ Below w.heap.size w w' := by
  have HI := Lib.hid hin
  have OK := Lib.hid ok
  have HWN : Hid (h.walls.length = wn) := Lib.hid hin.wl.1
  have HCN : Hid (h.crs.length = cn) := Lib.hid hin.cl.1
  have hw16 : wn ≤ 16 := by rw [← HWN.out]; exact ok.w16
  have hc16 : cn ≤ 16 := by rw [← HCN.out]; exact ok.c16
  have HBW : Hid (∀ k, 0 ≤ slW r (h.walls.take k) ∧ slW r (h.walls.take k) ≤ 1600000) := Lib.hid (fun k => by
    have h1 := slW_bd (i := r) (l := h.walls.take k) (fun x hx => (ok.wal x (List.mem_of_mem_take hx)).2.2)
    have h2 : (h.walls.take k).length ≤ 16 := by rw [List.length_take]; have := ok.w16; omega
    omega)
  have HBC : Hid (∀ k, 0 ≤ slC r (h.crs.take k) ∧ slC r (h.crs.take k) ≤ 1600000) := Lib.hid (fun k => by
    have h1 := slC_bd (i := r) (l := h.crs.take k) (fun x hx => (ok.clr x (List.mem_of_mem_take hx)).2.2.1)
    have h2 : (h.crs.take k).length ≤ 16 := by rw [List.length_take]; have := ok.c16; omega
    omega)
  have g1 : w.heap.size < w.heap.size + 1 := by omega
  clear hin ok
  go_enter Try.func60, Try.ntmps60
  go_wp2_with fail
  obtain ⟨bx, hbx⟩ : ∃ z, z = w.heap.size := ⟨_, rfl⟩
  obtain ⟨w1, hw1⟩ : ∃ z, z = w.alloc (.cells #[.slice rA rn rc, .slice wA wn wc, .slice bA bn bc, .slice cA cn cc] 28) := ⟨_, rfl⟩
  have BX : Hid (Blk w1 bx 28 #[.slice rA rn rc, .slice wA wn wc, .slice bA bn bc, .slice cA cn cc]) := Lib.hid (by rw [hw1, hbx]; exact heap_alloc_new w _)
  have Sw1 : Hid (w1.heap.size = bx + 1) := Lib.hid (by rw [hw1, hbx, World.size_alloc])
  have Zbx : Hid (w.heap.size ≤ bx) := Lib.hid (by rw [hbx]; exact Nat.le_refl _)
  have hBn : Below w.heap.size w w1 := by rw [hw1]; exact (Below.refl _ _).alloc (Nat.le_refl _) _
  rw [← hw1, ← hbx]
  have B0 : Hid (Below w.heap.size w w1) := Lib.hid hBn
  clear hw1 hbx hBn
  have HWL := Lib.hid (HI.out.wl.next B0.out)
  have HCL := Lib.hid (HI.out.cl.next B0.out)
  clear g1
  go_loopw [5, 13] (fun v i wr => ∃ k : Nat, k ≤ wn ∧ v = .int .i64 (slW r (h.walls.take k)) ∧ i = .int .i64 ((k : Nat) : Int) ∧ Hid (Below w1.heap.size w1 wr)) (fun _ i _ => wn - (intOf i).toNat)
  case atStart => exact ⟨0, by omega, rfl, rfl, Lib.hid (Below.refl _ _)⟩
  case round =>
    obtain ⟨k, hk, rfl, rfl, HW⟩ := hrel
    by_cases hlt : k < wn
    · obtain ⟨b, off, x, e1, hb, hx, hcx⟩ := (HWL.out.next HW.out).at_ hlt
      subst e1
      obtain ⟨c0, c1, c2⟩ := Wal.cells hcx
      have zb : b < wr.heap.size := hb
      have hk0 : (0 : Int) ≤ (k : Int) := by omega
      have hkn : (k : Int) < (wn : Int) := by omega
      have g1 : wr.heap.size < wr.heap.size + 1 := by omega
      have hz := HW.out.size
      have HTK := Lib.hid (slW_take (i := r) hx)
      have hbd := HBW.out (k + 1)
      rw [slW_take (i := r) hx] at hbd
      obtain ⟨s, hs⟩ : ∃ z, z = slW r (h.walls.take k) := ⟨_, rfl⟩
      rw [← hs] at HTK hbd ⊢
      obtain ⟨xa, xb, xp⟩ := x
      dsimp only at HTK hbd c0 c1 c2
      clear hx hcx hb hs
      by_cases h1 : xa = r
      · rw [if_pos (Or.inl h1)] at HTK hbd
        have d1 : (xa == r) = true := beq_iff_eq.2 h1
        have wa : IntKind.i64.wrap (s + xp) = s + xp := IntWalk.i64_in _ (by omega)
        clear hbd
        go_wp2
        go_roundw
        case rel => exact ⟨k + 1, by omega, by rw [HTK.out], by go_num, Lib.hid (HW.out.trans (by (repeat' (first | (with_reducible exact Below.refl _ _) | (with_reducible assumption) | (with_reducible refine below_drewN ?_ _) | (with_reducible refine below_after (by assumption) ?_ ?_) | (with_reducible refine Below.drew ?_) | (with_reducible refine Below.alloc ?_ ?_ _) | (with_reducible refine Below.setCell ?_ ?_ _) | omega | (simp; omega) | (simp; done)))))⟩
        case measure => simp [intOf]; omega
      · have d1 : (xa == r) = false := beq_eq_false_iff_ne.2 h1
        by_cases h2 : xb = r
        · rw [if_pos (Or.inr h2)] at HTK hbd
          have d2 : (xb == r) = true := beq_iff_eq.2 h2
          have wa : IntKind.i64.wrap (s + xp) = s + xp := IntWalk.i64_in _ (by omega)
          clear hbd
          go_wp2
          go_roundw
          case rel => exact ⟨k + 1, by omega, by rw [HTK.out], by go_num, Lib.hid (HW.out.trans (by (repeat' (first | (with_reducible exact Below.refl _ _) | (with_reducible assumption) | (with_reducible refine below_drewN ?_ _) | (with_reducible refine below_after (by assumption) ?_ ?_) | (with_reducible refine Below.drew ?_) | (with_reducible refine Below.alloc ?_ ?_ _) | (with_reducible refine Below.setCell ?_ ?_ _) | omega | (simp; omega) | (simp; done)))))⟩
          case measure => simp [intOf]; omega
        · rw [if_neg (fun e => e.elim h1 h2), Int.add_zero] at HTK hbd
          have d2 : (xb == r) = false := beq_eq_false_iff_ne.2 h2
          clear hbd
          go_wp2
          go_roundw
          case rel => exact ⟨k + 1, by omega, by rw [HTK.out], by go_num, Lib.hid (HW.out.trans (by (repeat' (first | (with_reducible exact Below.refl _ _) | (with_reducible assumption) | (with_reducible refine below_drewN ?_ _) | (with_reducible refine below_after (by assumption) ?_ ?_) | (with_reducible refine Below.drew ?_) | (with_reducible refine Below.alloc ?_ ?_ _) | (with_reducible refine Below.setCell ?_ ?_ _) | omega | (simp; omega) | (simp; done)))))⟩
          case measure => simp [intOf]; omega
    · obtain rfl : wn = k := by omega
      rw [List.take_of_length_le (by rw [HWN.out]; exact Nat.le_refl _)]
      have hbw := HBW.out h.walls.length
      rw [List.take_length] at hbw
      obtain ⟨sw, hsw⟩ : ∃ z, z = slW r h.walls := ⟨_, rfl⟩
      rw [← hsw] at hbw ⊢
      have HSW := Lib.hid hsw
      clear hsw
      obtain ⟨wA1, hwA⟩ : ∃ z, z = wr := ⟨wr, rfl⟩
      subst hwA
      have hbk := BX.out.below HW.out BX.out.lt
      have d3 := hbk.cell 3
      have zd := hbk.lt
      simp only [List.getElem?_toArray, List.getElem?_cons_zero, List.getElem?_cons_succ] at d3
      clear hbk
      have HWA := Lib.hid HW.out
      go_wp2
      go_loopw [5, 35] (fun v i wr => ∃ k : Nat, k ≤ cn ∧ v = .int .i64 (sw + slC r (h.crs.take k)) ∧ i = .int .i64 ((k : Nat) : Int) ∧ Hid (Below w1.heap.size w1 wr)) (fun _ i _ => cn - (intOf i).toNat)
      case atStart => exact ⟨0, by omega, by rw [List.take_zero]; exact congrArg _ (by simp [slC]), rfl, HWA⟩
      case round =>
        obtain ⟨k, hk, rfl, rfl, HW⟩ := hrel
        by_cases hlt : k < cn
        · obtain ⟨b, off, x, e1, hb, hx, hcx⟩ := (HCL.out.next HW.out).at_ hlt
          subst e1
          obtain ⟨c0, c1, c2, c3, c4⟩ := Clr.cells hcx
          have zb : b < wr.heap.size := hb
          have hk0 : (0 : Int) ≤ (k : Int) := by omega
          have hkn : (k : Int) < (cn : Int) := by omega
          have g1 : wr.heap.size < wr.heap.size + 1 := by omega
          have hz := HW.out.size
          have HTK := Lib.hid (slC_take (i := r) hx)
          have hbd := HBC.out (k + 1)
          rw [slC_take (i := r) hx] at hbd
          obtain ⟨s, hs⟩ : ∃ z, z = slC r (h.crs.take k) := ⟨_, rfl⟩
          rw [← hs] at HTK hbd ⊢
          obtain ⟨xr, xb, xg, xc, xs⟩ := x
          dsimp only at HTK hbd c0 c1 c2 c3 c4
          clear hx hcx hb hs
          by_cases h1 : xr = r
          · rw [if_pos h1] at HTK hbd
            have d1 : (xr == r) = true := beq_iff_eq.2 h1
            have wa : IntKind.i64.wrap (sw + s + xg) = sw + s + xg := IntWalk.i64_in _ (by omega)
            clear hbd
            go_wp2
            go_roundw
            case rel => exact ⟨k + 1, by omega, by rw [HTK.out, Int.add_assoc], by go_num, Lib.hid (HW.out.trans (by (repeat' (first | (with_reducible exact Below.refl _ _) | (with_reducible assumption) | (with_reducible refine below_drewN ?_ _) | (with_reducible refine below_after (by assumption) ?_ ?_) | (with_reducible refine Below.drew ?_) | (with_reducible refine Below.alloc ?_ ?_ _) | (with_reducible refine Below.setCell ?_ ?_ _) | omega | (simp; omega) | (simp; done)))))⟩
            case measure => simp [intOf]; omega
          · rw [if_neg h1, Int.add_zero] at HTK hbd
            have d1 : (xr == r) = false := beq_eq_false_iff_ne.2 h1
            clear hbd
            go_wp2
            go_roundw
            case rel => exact ⟨k + 1, by omega, by rw [HTK.out], by go_num, Lib.hid (HW.out.trans (by (repeat' (first | (with_reducible exact Below.refl _ _) | (with_reducible assumption) | (with_reducible refine below_drewN ?_ _) | (with_reducible refine below_after (by assumption) ?_ ?_) | (with_reducible refine Below.drew ?_) | (with_reducible refine Below.alloc ?_ ?_ _) | (with_reducible refine Below.setCell ?_ ?_ _) | omega | (simp; omega) | (simp; done)))))⟩
            case measure => simp [intOf]; omega
        · obtain rfl : cn = k := by omega
          rw [List.take_of_length_le (by rw [HCN.out]; exact Nat.le_refl _)]
          go_wp2
          go_ret
          exact ⟨by rw [HSW.out]; rfl, below3 B0.out HW.out (Nat.le_refl _)⟩
end Go.Proofs.Ytldbciflpnhfpaa
