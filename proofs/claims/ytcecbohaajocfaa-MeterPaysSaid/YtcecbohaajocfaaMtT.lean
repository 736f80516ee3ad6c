/- meter: a use that is divided at the end of a day. -/
import Derived.Test.YtcecbohaajocfaaMtO

set_option linter.unusedSimpArgs false
set_option linter.unusedVariables false
namespace Go.Proofs.Ytcecbohaajocfaa
open Go.RowKit

theorem getD_take {l : List Int} {n k : Nat} (h : k < n) : (l.take n).getD k 0 = l.getD k 0 := by
  rw [List.getD_eq_getElem?_getD, List.getD_eq_getElem?_getD, List.getElem?_take, if_pos h]
theorem getD_drop {l : List Int} {n k : Nat} : (l.drop n).getD k 0 = l.getD (n + k) 0 := by
  rw [List.getD_eq_getElem?_getD, List.getD_eq_getElem?_getD, List.getElem?_drop]
theorem engK_take {l : List Int} {n : Nat} : ∀ k, k ≤ n → engK (l.take n) k = engK l k := by
  intro k
  induction k with
  | zero => intro _; rfl
  | succ k ih => intro h; simp only [engK]; rw [ih (by omega), getD_take (by omega)]
theorem engK_drop {l : List Int} {n : Nat} : ∀ k, engK (l.drop n) k + engK l n = engK l (n + k) := by
  intro k
  induction k with
  | zero => simp [engK]
  | succ k ih => rw [← Nat.add_assoc]; simp only [engK]; rw [getD_drop, ← ih]; omega
theorem engK_split {l : List Int} {n : Nat} (h : n ≤ l.length) : engK (l.take n) (l.take n).length + engK (l.drop n) (l.drop n).length = engK l l.length := by
  rw [List.length_take, List.length_drop, Nat.min_eq_left h, engK_take n (Nat.le_refl _)]
  have := engK_drop (l := l) (n := n) (l.length - n)
  rw [show n + (l.length - n) = l.length by omega] at this
  omega
theorem amtK_take {price l : List Int} {base : Int} {n : Nat} : ∀ k, k ≤ n → amtK price (l.take n) base k = amtK price l base k := by
  intro k
  induction k with
  | zero => intro _; rfl
  | succ k ih => intro h; simp only [amtK]; rw [ih (by omega), getD_take (by omega)]
theorem amtK_drop {price l : List Int} {base : Int} {n : Nat} (hn : n % 24 = 0) : ∀ k, amtK price (l.drop n) base k + amtK price l base n = amtK price l base (n + k) + base := by
  intro k
  induction k with
  | zero => simp [amtK]; omega
  | succ k ih =>
    rw [← Nat.add_assoc]
    simp only [amtK]
    rw [getD_drop, show (n + k) % 24 = k % 24 by omega]
    omega
theorem amtK_split {price l : List Int} {base : Int} {n : Nat} (h : n ≤ l.length) (hn : n % 24 = 0) : amtK price (l.take n) base (l.take n).length + amtK price (l.drop n) base (l.drop n).length = amtK price l base l.length + base := by
  rw [List.length_take, List.length_drop, Nat.min_eq_left h, amtK_take n (Nat.le_refl _)]
  have := amtK_drop (price := price) (l := l) (base := base) hn (l.length - n)
  rw [show n + (l.length - n) = l.length by omega] at this
  omega
end Go.Proofs.Ytcecbohaajocfaa
