/- slices.Min and slices.Max of numbers. -/
import Derived.Test.YtldbciflpnhfpaaHtQ
import Derived.Lib.MinMax

set_option linter.unusedSimpArgs false
set_option linter.unusedVariables false
namespace Go.Proofs.Ytldbciflpnhfpaa
open Go.RowKit

def lowL (l : List Int) (k : Nat) (m : Int) : Prop := (∃ i, i < k ∧ l[i]? = some m) ∧ ∀ i x, i < k → l[i]? = some x → m ≤ x
def topL (l : List Int) (k : Nat) (m : Int) : Prop := (∃ i, i < k ∧ l[i]? = some m) ∧ ∀ i x, i < k → l[i]? = some x → x ≤ m
theorem lowL.succ {l : List Int} {k : Nat} {m x : Int} (h : lowL l k m) (hx : l[k]? = some x) : lowL l (k + 1) (min m x) := by
  obtain ⟨⟨i, hi, e⟩, h2⟩ := h
  refine ⟨?_, fun j y hj ey => ?_⟩
  · by_cases hc : m ≤ x
    · exact ⟨i, by omega, by rw [e, Int.min_eq_left hc]⟩
    · exact ⟨k, by omega, by rw [hx, Int.min_eq_right (by omega)]⟩
  · by_cases hj2 : j < k
    · have := h2 j y hj2 ey; omega
    · obtain rfl : j = k := by omega
      rw [hx] at ey
      cases ey
      omega
theorem topL.succ {l : List Int} {k : Nat} {m x : Int} (h : topL l k m) (hx : l[k]? = some x) : topL l (k + 1) (max m x) := by
  obtain ⟨⟨i, hi, e⟩, h2⟩ := h
  refine ⟨?_, fun j y hj ey => ?_⟩
  · by_cases hc : x ≤ m
    · exact ⟨i, by omega, by rw [e, Int.max_eq_left hc]⟩
    · exact ⟨k, by omega, by rw [hx, Int.max_eq_right (by omega)]⟩
  · by_cases hj2 : j < k
    · have := h2 j y hj2 ey; omega
    · obtain rfl : j = k := by omega
      rw [hx] at ey
      cases ey
      omega
set_option maxRecDepth 100000 in
set_option maxHeartbeats 1000000 in
theorem Min_any (A : Option Addr) (n c : Nat) (l : List Int) (w : World) (hl : Rd w w.heap.size 1 encI A n l) (hn : 1 ≤ n) (hn2 : n ≤ 100000) :
    Calls Try.prog 15 #[.slice A n c] w fun e w' => ∃ m : Int, e = .returned (.int .i64 m) ∧ lowL l n m ∧ Below w.heap.size w w' := by
  have HL := Lib.hid hl
  obtain ⟨b, off, x0, e1, hb, hx0, hc0⟩ := hl.at_ (show 0 < n by omega)
  have c0 := cellI hc0
  rw [Nat.add_zero] at c0
  have z0 := block_of_cell c0
  dsimp only at z0
  subst e1
  have HX0 := Lib.hid hx0
  have d1 : ¬ ((n : Int) < 1) := by omega
  have d2 : ¬ (n < 1) := by omega
  have d3 : decide ((n : Int) < 1) = false := decide_eq_false d1
  have d4 : (0 : Int) < (n : Int) := by omega
  have d5 : ¬ (n = 0) := by omega
  clear hl hc0 hx0 hb
  go_enter Try.func15, Try.ntmps15
  go_wp2
  clear c0 d1 d2 d3 d4
  go_loopw [3, 4] (fun m i wr => ∃ (k : Nat) (v : Int), k ≤ n ∧ 1 ≤ k ∧ i = .int .i64 ((k : Nat) : Int) ∧ m = .int .i64 v ∧ Hid (lowL l k v ∧ Below w.heap.size w wr)) (fun _ i _ => n - (intOf i).toNat)
  case atStart => exact ⟨1, x0, by omega, by omega, rfl, rfl, Lib.hid ⟨⟨⟨0, by omega, HX0.out⟩, fun i y hi e => by
    obtain rfl : i = 0 := by omega
    have h0 := HX0.out
    rw [e] at h0
    cases h0
    exact Int.le_refl _⟩, by (repeat' (first | (with_reducible exact Below.refl _ _) | (with_reducible assumption) | (with_reducible refine below_drewN ?_ _) | (with_reducible refine below_after (by assumption) ?_ ?_) | (with_reducible refine Below.drew ?_) | (with_reducible refine Below.alloc ?_ ?_ _) | (with_reducible refine Below.setCell ?_ ?_ _) | omega | (simp; omega) | (simp; done)))⟩⟩
  case round =>
    obtain ⟨k, v, hk, hk9, rfl, rfl, HK⟩ := hrel
    by_cases hlt : k < n
    · obtain ⟨b', off', x, e1, hb, hx, hcx⟩ := (HL.out.below HK.out.2).at_ hlt
      obtain ⟨rfl, rfl⟩ : b = b' ∧ off = off' := by simpa using e1
      have cx := cellI hcx
      have zx := block_of_cell cx
      dsimp only at zx
      have HX := Lib.hid hx
      have hk0 : (0 : Int) ≤ ((k : Nat) : Int) := by omega
      have hk1 : ((k : Nat) : Int) < ((n : Nat) : Int) := by omega
      have hk4 : k ≤ 100000 := by omega
      clear hb hx hcx e1 hk9
      go_wp2
      go_roundw
      case rel => exact ⟨k + 1, min v x, by omega, by omega, by go_num, rfl, Lib.hid ⟨HK.out.1.succ HX.out, HK.out.2.trans (by (repeat' (first | (with_reducible exact Below.refl _ _) | (with_reducible assumption) | (with_reducible refine below_drewN ?_ _) | (with_reducible refine below_after (by assumption) ?_ ?_) | (with_reducible refine Below.drew ?_) | (with_reducible refine Below.alloc ?_ ?_ _) | (with_reducible refine Below.setCell ?_ ?_ _) | omega | (simp; omega) | (simp; done))))⟩⟩
      case measure => simp [intOf]; omega
    · obtain rfl : n = k := by omega
      go_wp2
      go_ret
      exact ⟨v, rfl, HK.out.1, by have h := HK.out.2; (repeat' (first | (with_reducible exact Below.refl _ _) | (with_reducible assumption) | (with_reducible refine below_drewN ?_ _) | (with_reducible refine below_after (by assumption) ?_ ?_) | (with_reducible refine Below.drew ?_) | (with_reducible refine Below.alloc ?_ ?_ _) | (with_reducible refine Below.setCell ?_ ?_ _) | omega | (simp; omega) | (simp; done)))⟩
set_option maxRecDepth 100000 in
set_option maxHeartbeats 1000000 in
theorem Max_any (A : Option Addr) (n c : Nat) (l : List Int) (w : World) (hl : Rd w w.heap.size 1 encI A n l) (hn : 1 ≤ n) (hn2 : n ≤ 100000) :
    Calls Try.prog 16 #[.slice A n c] w fun e w' => ∃ m : Int, e = .returned (.int .i64 m) ∧ topL l n m ∧ Below w.heap.size w w' := by
  have HL := Lib.hid hl
  obtain ⟨b, off, x0, e1, hb, hx0, hc0⟩ := hl.at_ (show 0 < n by omega)
  have c0 := cellI hc0
  rw [Nat.add_zero] at c0
  have z0 := block_of_cell c0
  dsimp only at z0
  subst e1
  have HX0 := Lib.hid hx0
  have d1 : ¬ ((n : Int) < 1) := by omega
  have d2 : ¬ (n < 1) := by omega
  have d3 : decide ((n : Int) < 1) = false := decide_eq_false d1
  have d4 : (0 : Int) < (n : Int) := by omega
  have d5 : ¬ (n = 0) := by omega
  clear hl hc0 hx0 hb
  go_enter Try.func16, Try.ntmps16
  go_wp2
  clear c0 d1 d2 d3 d4
  go_loopw [3, 4] (fun m i wr => ∃ (k : Nat) (v : Int), k ≤ n ∧ 1 ≤ k ∧ i = .int .i64 ((k : Nat) : Int) ∧ m = .int .i64 v ∧ Hid (topL l k v ∧ Below w.heap.size w wr)) (fun _ i _ => n - (intOf i).toNat)
  case atStart => exact ⟨1, x0, by omega, by omega, rfl, rfl, Lib.hid ⟨⟨⟨0, by omega, HX0.out⟩, fun i y hi e => by
    obtain rfl : i = 0 := by omega
    have h0 := HX0.out
    rw [e] at h0
    cases h0
    exact Int.le_refl _⟩, by (repeat' (first | (with_reducible exact Below.refl _ _) | (with_reducible assumption) | (with_reducible refine below_drewN ?_ _) | (with_reducible refine below_after (by assumption) ?_ ?_) | (with_reducible refine Below.drew ?_) | (with_reducible refine Below.alloc ?_ ?_ _) | (with_reducible refine Below.setCell ?_ ?_ _) | omega | (simp; omega) | (simp; done)))⟩⟩
  case round =>
    obtain ⟨k, v, hk, hk9, rfl, rfl, HK⟩ := hrel
    by_cases hlt : k < n
    · obtain ⟨b', off', x, e1, hb, hx, hcx⟩ := (HL.out.below HK.out.2).at_ hlt
      obtain ⟨rfl, rfl⟩ : b = b' ∧ off = off' := by simpa using e1
      have cx := cellI hcx
      have zx := block_of_cell cx
      dsimp only at zx
      have HX := Lib.hid hx
      have hk0 : (0 : Int) ≤ ((k : Nat) : Int) := by omega
      have hk1 : ((k : Nat) : Int) < ((n : Nat) : Int) := by omega
      have hk4 : k ≤ 100000 := by omega
      clear hb hx hcx e1 hk9
      go_wp2
      go_roundw
      case rel => exact ⟨k + 1, max v x, by omega, by omega, by go_num, rfl, Lib.hid ⟨HK.out.1.succ HX.out, HK.out.2.trans (by (repeat' (first | (with_reducible exact Below.refl _ _) | (with_reducible assumption) | (with_reducible refine below_drewN ?_ _) | (with_reducible refine below_after (by assumption) ?_ ?_) | (with_reducible refine Below.drew ?_) | (with_reducible refine Below.alloc ?_ ?_ _) | (with_reducible refine Below.setCell ?_ ?_ _) | omega | (simp; omega) | (simp; done))))⟩⟩
      case measure => simp [intOf]; omega
    · obtain rfl : n = k := by omega
      go_wp2
      go_ret
      exact ⟨v, rfl, HK.out.1, by have h := HK.out.2; (repeat' (first | (with_reducible exact Below.refl _ _) | (with_reducible assumption) | (with_reducible refine below_drewN ?_ _) | (with_reducible refine below_after (by assumption) ?_ ?_) | (with_reducible refine Below.drew ?_) | (with_reducible refine Below.alloc ?_ ?_ _) | (with_reducible refine Below.setCell ?_ ?_ _) | omega | (simp; omega) | (simp; done)))⟩
end Go.Proofs.Ytldbciflpnhfpaa
