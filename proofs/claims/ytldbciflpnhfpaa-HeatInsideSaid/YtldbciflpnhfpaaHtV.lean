/- slices.Equal of numbers; what awake's calls return. -/
import Derived.Test.YtldbciflpnhfpaaHtX
import Derived.Test.YtldbciflpnhfpaaHtM

set_option linter.unusedSimpArgs false
set_option linter.unusedVariables false
namespace Go.Proofs.Ytldbciflpnhfpaa
open Go.RowKit

def sameL (l m : List Int) : Bool := decide (l = m)
set_option maxRecDepth 100000 in
theorem Equal_any (A A' : Option Addr) (n n' c c' : Nat) (l m : List Int) (w : World) (hl : Rd w w.heap.size 1 encI A n l) (hm : Rd w w.heap.size 1 encI A' n' m) (hn : n ≤ 9223372036854775807) (hn' : n' ≤ 9223372036854775807) :
    Calls Try.prog 33 #[.slice A n c, .slice A' n' c'] w fun e w' => e = .returned (.bool (sameL l m)) ∧ Below w.heap.size w w' := by
  have HL := Lib.hid hl
  have HM := Lib.hid hm
  have e1 := Lib.hid hl.1
  have e2 := Lib.hid hm.1
  clear hl hm
  go_enter Try.func33, Try.ntmps33
  by_cases hq : n = n'
  · subst hq
    go_wp2
    go_loopw [13] (fun i wr => ∃ k : Nat, k ≤ n ∧ i = .int .i64 k ∧ Below w.heap.size w wr ∧ Hid (∀ j, j < k → l[j]? = m[j]?)) (fun i _ => n - (intOf i).toNat)
    case atStart => exact ⟨0, by omega, rfl, Below.refl _ _, fun j hj => absurd hj (by omega)⟩
    case round =>
      obtain ⟨k, hk, rfl, hB, hE⟩ := hrel
      have hz' := hB.size
      by_cases hlt : k < n
      · obtain ⟨b, off, x, rfl, hb, hx, hcx⟩ := (HL.out.below hB).at_ hlt
        obtain ⟨b', off', y, rfl, hb', hy, hcy⟩ := (HM.out.below hB).at_ hlt
        have c0 := cellI hcx
        have c1 := cellI hcy
        have HX := Lib.hid hx
        have HY := Lib.hid hy
        have hk0 : (0 : Int) ≤ (k : Int) := by omega
        have hkn : (k : Int) < (n : Int) := by omega
        have hkw : IntKind.i64.wrap (k : Int) = (k : Int) := IntWalk.i64_in _ (by omega)
        clear hx hy hcx hcy
        by_cases hxy : x = y
        · subst hxy
          have hE' : Hid (∀ j, j < k + 1 → l[j]? = m[j]?) := fun j hj => by
            rcases Nat.lt_or_ge j k with h | h
            · exact hE.out j h
            · obtain rfl : j = k := by omega
              rw [HX.out, HY.out]
          go_wp2
          go_quiet (fail)
          go_wp2
          go_roundw
          case rel => exact ⟨k + 1, by omega, by go_num, by (repeat' (first | (with_reducible exact Below.refl _ _) | (with_reducible assumption) | (with_reducible refine below_drewN ?_ _) | (with_reducible refine below_after (by assumption) ?_ ?_) | (with_reducible refine Below.drew ?_) | (with_reducible refine Below.alloc ?_ ?_ _) | (with_reducible refine Below.setCell ?_ ?_ _) | omega | (simp; omega) | (simp; done))), hE'⟩
          case measure => simp [intOf]; omega
        · have hd : sameL l m = false := by
            unfold sameL
            rw [decide_eq_false_iff_not]
            intro h
            have h1 := HX.out
            rw [h, HY.out] at h1
            simp only [Option.some.injEq] at h1
            exact hxy h1.symm
          go_wp2
          go_quiet (fail)
          go_wp2
          go_ret
          exact ⟨ret_bool hd.symm, by (repeat' (first | (with_reducible exact Below.refl _ _) | (with_reducible assumption) | (with_reducible refine below_drewN ?_ _) | (with_reducible refine below_after (by assumption) ?_ ?_) | (with_reducible refine Below.drew ?_) | (with_reducible refine Below.alloc ?_ ?_ _) | (with_reducible refine Below.setCell ?_ ?_ _) | omega | (simp; omega) | (simp; done)))⟩
      · have hd : sameL l m = true := by
          unfold sameL
          rw [decide_eq_true_iff]
          apply List.ext_getElem?
          intro j
          rcases Nat.lt_or_ge j k with h | h
          · exact hE.out j h
          · rw [List.getElem?_eq_none (by rw [e1.out]; omega), List.getElem?_eq_none (by rw [e2.out]; omega)]
        go_wp2
        go_ret
        exact ⟨ret_bool hd.symm, hB⟩
  · have hd : sameL l m = false := by
      unfold sameL
      rw [decide_eq_false_iff_not]
      intro h
      apply hq
      rw [← e1.out, ← e2.out, h]
    go_wp2
    go_ret
    exact ⟨ret_bool hd.symm, Below.refl _ _⟩
theorem Equal_yes (A A' : Option Addr) (n c c' : Nat) (l : List Int) (w : World) (hl : Rd w w.heap.size 1 encI A n l) (hm : Rd w w.heap.size 1 encI A' n l) (hn : n ≤ 1000000) :
    Calls Try.prog 33 #[.slice A n c, .slice A' n c'] w fun e w' => e = .returned (.bool true) ∧ Below w.heap.size w w' := by
  have h := Equal_any A A' n n c c' l l w hl hm (by omega) (by omega)
  rw [show sameL l l = true from decide_eq_true rfl] at h
  exact h
theorem exH_ok : HlOk exH := by
  refine ⟨by decide, by decide, by decide, by decide, by decide, fun x hx => ?_, fun x hx => ?_, fun i hi => ?_, fun x hx => ?_, fun i hi => ?_⟩
  · simp only [exH, List.mem_singleton] at hx; subst hx; decide
  · simp only [exH, List.mem_singleton] at hx; subst hx; decide
  · have : i = 0 := by have : i < 1 := hi; omega
    subst this; decide
  · simp only [exH, List.mem_singleton] at hx; subst hx; decide
  · have : i = 0 := by have : i < 1 := hi; omega
    subst this; decide +kernel
def exB : Hl := ⟨[⟨1000, 30000⟩], [⟨0, -1, 10⟩], [⟨-1, 0, 0⟩, ⟨0, 1, 0⟩, ⟨0, 1, 40⟩, ⟨0, 1, 0⟩], [⟨0, 0, 50, 4, 18000⟩]⟩
theorem exB_ok : HlOk exB := by
  refine ⟨by decide, by decide, by decide, by decide, by decide, fun x hx => ?_, fun x hx => ?_, fun i hi => ?_, fun x hx => ?_, fun i hi => ?_⟩
  · simp only [exB, List.mem_singleton] at hx; subst hx; decide
  · simp only [exB, List.mem_singleton] at hx; subst hx; decide
  · have h4 : i < 4 := hi
    rcases (show i = 0 ∨ i = 1 ∨ i = 2 ∨ i = 3 by omega) with rfl | rfl | rfl | rfl <;> decide
  · simp only [exB, List.mem_singleton] at hx; subst hx; decide
  · have : i = 0 := by have : i < 1 := hi; omega
    subst this; decide +kernel
theorem ex_next1 : nxL exH [22000] [100000] 20000 100 = [22079] := by decide +kernel
theorem ex_next2 : nxL exH [22000] [100000] 20000 50000 = [21880] := by decide +kernel
theorem ex_flows : flL exB 100 = [100, 33, 0, 33] := by decide +kernel
end Go.Proofs.Ytldbciflpnhfpaa
