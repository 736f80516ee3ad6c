/- slices.Equal of numbers and of flags. -/
import Derived.Test.YtalngalikblgkaaKpL

set_option linter.unusedSimpArgs false
set_option linter.unusedVariables false
namespace Go.Proofs.Ytalngalikblgkaa
open Go.RowKit

def sameL (l m : List Int) : Bool := decide (l = m)
def sameB (l m : List Bool) : Bool := decide (l = m)
set_option maxRecDepth 100000 in
theorem Equal_any (A A' : Option Addr) (n n' c c' : Nat) (l m : List Int) (w : World) (hl : Rd w w.heap.size 1 encI A n l) (hm : Rd w w.heap.size 1 encI A' n' m) (hn : n ≤ 9223372036854775807) (hn' : n' ≤ 9223372036854775807) :
    Calls Try.prog 39 #[.slice A n c, .slice A' n' c'] w fun e w' => e = .returned (.bool (sameL l m)) ∧ Below w.heap.size w w' := by
  have HL := Lib.hid hl
  have HM := Lib.hid hm
  have e1 := Lib.hid hl.1
  have e2 := Lib.hid hm.1
  clear hl hm
  go_enter Try.func39, Try.ntmps39
  by_cases hq : n = n'
  · subst hq
    go_wp2
    go_loopw [13] (fun i wr => ∃ k : Nat, k ≤ n ∧ i = .int .i64 k ∧ Below w.heap.size w wr ∧ Hid (∀ j, j < k → l[j]? = m[j]?)) (fun i _ => n - (intOf i).toNat)
    case atStart => exact ⟨0, by omega, rfl, Below.refl _ _, fun j hj => absurd hj (by omega)⟩
    case round =>
      obtain ⟨k, hk, rfl, hB, hE⟩ := hrel
      have hz' := hB.size
      by_cases hlt : k < n
      · obtain ⟨b, off, x, rfl, hb, hx, hcx⟩ := (HL.out.below hB).at_ hlt
        obtain ⟨b', off', y, rfl, hb', hy, hcy⟩ := (HM.out.below hB).at_ hlt
        have c0 := cellI hcx
        have c1 := cellI hcy
        have HX := Lib.hid hx
        have HY := Lib.hid hy
        have hk0 : (0 : Int) ≤ (k : Int) := by omega
        have hkn : (k : Int) < (n : Int) := by omega
        have hkw : IntKind.i64.wrap (k : Int) = (k : Int) := IntWalk.i64_in _ (by omega)
        clear hx hy hcx hcy
        by_cases hxy : x = y
        · subst hxy
          have hE' : Hid (∀ j, j < k + 1 → l[j]? = m[j]?) := fun j hj => by
            rcases Nat.lt_or_ge j k with h | h
            · exact hE.out j h
            · obtain rfl : j = k := by omega
              rw [HX.out, HY.out]
          go_wp2
          go_quiet (fail)
          go_wp2
          go_roundw
          case rel => exact ⟨k + 1, by omega, by go_num, by (repeat' (first | (with_reducible exact Below.refl _ _) | (with_reducible assumption) | (with_reducible refine below_drewN ?_ _) | (with_reducible refine below_after (by assumption) ?_ ?_) | (with_reducible refine Below.drew ?_) | (with_reducible refine Below.alloc ?_ ?_ _) | (with_reducible refine Below.setCell ?_ ?_ _) | omega | (simp; omega) | (simp; done))), hE'⟩
          case measure => simp [intOf]; omega
        · have hd : sameL l m = false := by
            unfold sameL
            rw [decide_eq_false_iff_not]
            intro h
            have h1 := HX.out
            rw [h, HY.out] at h1
            simp only [Option.some.injEq] at h1
            exact hxy h1.symm
          go_wp2
          go_quiet (fail)
          go_wp2
          go_ret
          exact ⟨ret_bool hd.symm, by (repeat' (first | (with_reducible exact Below.refl _ _) | (with_reducible assumption) | (with_reducible refine below_drewN ?_ _) | (with_reducible refine below_after (by assumption) ?_ ?_) | (with_reducible refine Below.drew ?_) | (with_reducible refine Below.alloc ?_ ?_ _) | (with_reducible refine Below.setCell ?_ ?_ _) | omega | (simp; omega) | (simp; done)))⟩
      · have hd : sameL l m = true := by
          unfold sameL
          rw [decide_eq_true_iff]
          apply List.ext_getElem?
          intro j
          rcases Nat.lt_or_ge j k with h | h
          · exact hE.out j h
          · rw [List.getElem?_eq_none (by rw [e1.out]; omega), List.getElem?_eq_none (by rw [e2.out]; omega)]
        go_wp2
        go_ret
        exact ⟨ret_bool hd.symm, hB⟩
  · have hd : sameL l m = false := by
      unfold sameL
      rw [decide_eq_false_iff_not]
      intro h
      apply hq
      rw [← e1.out, ← e2.out, h]
    go_wp2
    go_ret
    exact ⟨ret_bool hd.symm, Below.refl _ _⟩
set_option maxRecDepth 100000 in
theorem EqualB_any (A A' : Option Addr) (n n' c c' : Nat) (l m : List Bool) (w : World) (hl : Rd w w.heap.size 1 encB A n l) (hm : Rd w w.heap.size 1 encB A' n' m) (hn : n ≤ 9223372036854775807) (hn' : n' ≤ 9223372036854775807) :
    Calls Try.prog 29 #[.slice A n c, .slice A' n' c'] w fun e w' => e = .returned (.bool (sameB l m)) ∧ Below w.heap.size w w' := by
  have HL := Lib.hid hl
  have HM := Lib.hid hm
  have e1 := Lib.hid hl.1
  have e2 := Lib.hid hm.1
  clear hl hm
  go_enter Try.func29, Try.ntmps29
  by_cases hq : n = n'
  · subst hq
    go_wp2
    go_loopw [13] (fun i wr => ∃ k : Nat, k ≤ n ∧ i = .int .i64 k ∧ Below w.heap.size w wr ∧ Hid (∀ j, j < k → l[j]? = m[j]?)) (fun i _ => n - (intOf i).toNat)
    case atStart => exact ⟨0, by omega, rfl, Below.refl _ _, fun j hj => absurd hj (by omega)⟩
    case round =>
      obtain ⟨k, hk, rfl, hB, hE⟩ := hrel
      have hz' := hB.size
      by_cases hlt : k < n
      · obtain ⟨b, off, x, rfl, hb, hx, hcx⟩ := (HL.out.below hB).at_ hlt
        obtain ⟨b', off', y, rfl, hb', hy, hcy⟩ := (HM.out.below hB).at_ hlt
        have c0 := cellB hcx
        have c1 := cellB hcy
        have HX := Lib.hid hx
        have HY := Lib.hid hy
        have hk0 : (0 : Int) ≤ (k : Int) := by omega
        have hkn : (k : Int) < (n : Int) := by omega
        have hkw : IntKind.i64.wrap (k : Int) = (k : Int) := IntWalk.i64_in _ (by omega)
        clear hx hy hcx hcy
        by_cases hxy : x = y
        · subst hxy
          have hE' : Hid (∀ j, j < k + 1 → l[j]? = m[j]?) := fun j hj => by
            rcases Nat.lt_or_ge j k with h | h
            · exact hE.out j h
            · obtain rfl : j = k := by omega
              rw [HX.out, HY.out]
          cases x
          · go_wp2
            go_quiet (fail)
            go_wp2
            go_roundw
            case rel => exact ⟨k + 1, by omega, by go_num, by (repeat' (first | (with_reducible exact Below.refl _ _) | (with_reducible assumption) | (with_reducible refine below_drewN ?_ _) | (with_reducible refine below_after (by assumption) ?_ ?_) | (with_reducible refine Below.drew ?_) | (with_reducible refine Below.alloc ?_ ?_ _) | (with_reducible refine Below.setCell ?_ ?_ _) | omega | (simp; omega) | (simp; done))), hE'⟩
            case measure => simp [intOf]; omega
          · go_wp2
            go_quiet (fail)
            go_wp2
            go_roundw
            case rel => exact ⟨k + 1, by omega, by go_num, by (repeat' (first | (with_reducible exact Below.refl _ _) | (with_reducible assumption) | (with_reducible refine below_drewN ?_ _) | (with_reducible refine below_after (by assumption) ?_ ?_) | (with_reducible refine Below.drew ?_) | (with_reducible refine Below.alloc ?_ ?_ _) | (with_reducible refine Below.setCell ?_ ?_ _) | omega | (simp; omega) | (simp; done))), hE'⟩
            case measure => simp [intOf]; omega
        · have hd : sameB l m = false := by
            unfold sameB
            rw [decide_eq_false_iff_not]
            intro h
            have h1 := HX.out
            rw [h, HY.out] at h1
            simp only [Option.some.injEq] at h1
            exact hxy h1.symm
          cases x <;> cases y
          · exact absurd rfl hxy
          · go_wp2
            go_quiet (fail)
            go_wp2
            go_ret
            exact ⟨ret_bool hd.symm, by (repeat' (first | (with_reducible exact Below.refl _ _) | (with_reducible assumption) | (with_reducible refine below_drewN ?_ _) | (with_reducible refine below_after (by assumption) ?_ ?_) | (with_reducible refine Below.drew ?_) | (with_reducible refine Below.alloc ?_ ?_ _) | (with_reducible refine Below.setCell ?_ ?_ _) | omega | (simp; omega) | (simp; done)))⟩
          · go_wp2
            go_quiet (fail)
            go_wp2
            go_ret
            exact ⟨ret_bool hd.symm, by (repeat' (first | (with_reducible exact Below.refl _ _) | (with_reducible assumption) | (with_reducible refine below_drewN ?_ _) | (with_reducible refine below_after (by assumption) ?_ ?_) | (with_reducible refine Below.drew ?_) | (with_reducible refine Below.alloc ?_ ?_ _) | (with_reducible refine Below.setCell ?_ ?_ _) | omega | (simp; omega) | (simp; done)))⟩
          · exact absurd rfl hxy
      · have hd : sameB l m = true := by
          unfold sameB
          rw [decide_eq_true_iff]
          apply List.ext_getElem?
          intro j
          rcases Nat.lt_or_ge j k with h | h
          · exact hE.out j h
          · rw [List.getElem?_eq_none (by rw [e1.out]; omega), List.getElem?_eq_none (by rw [e2.out]; omega)]
        go_wp2
        go_ret
        exact ⟨ret_bool hd.symm, hB⟩
  · have hd : sameB l m = false := by
      unfold sameB
      rw [decide_eq_false_iff_not]
      intro h
      apply hq
      rw [← e1.out, ← e2.out, h]
    go_wp2
    go_ret
    exact ⟨ret_bool hd.symm, Below.refl _ _⟩
end Go.Proofs.Ytalngalikblgkaa
