/- keep: sizes, product$1; the product, plain. -/
import Derived.Test.YtalngalikblgkaaKpX

set_option linter.unusedSimpArgs false
set_option linter.unusedVariables false
namespace Go.Proofs.Ytalngalikblgkaa
open Go.RowKit

set_option maxRecDepth 100000 in
set_option maxHeartbeats 2000000 in
theorem sizes_any (S1 C1 H1 S2 C2 H2 : Nat) (v1 v2 v3 v4 : Value) (w : World) (hb : S1 ≤ 400 ∧ S2 ≤ 400 ∧ C1 ≤ 16 ∧ C2 ≤ 16 ∧ H1 ≤ 16 ∧ H2 ≤ 16) :
    Calls Try.prog 41 #[.agg #[.int .i64 (S1 : Int), .int .i64 (C1 : Int), .int .i64 (H1 : Int), v1, v2], .agg #[.int .i64 (S2 : Int), .int .i64 (C2 : Int), .int .i64 (H2 : Int), v3, v4]] w fun e w' => e = .returned (.agg #[.int .i64 ((S1 * S2 : Nat) : Int), .int .i64 ((C1 * C2 : Nat) : Int), .int .i64 ((H1 * H2 : Nat) : Int), .slice none 0 0, .slice none 0 0]) ∧ Below w.heap.size w w' := by
  have b1 : S1 * S2 ≤ 400 * 400 := Nat.mul_le_mul hb.1 hb.2.1
  have b2 : C1 * C2 ≤ 16 * 16 := Nat.mul_le_mul hb.2.2.1 hb.2.2.2.1
  have b3 : H1 * H2 ≤ 16 * 16 := Nat.mul_le_mul hb.2.2.2.2.1 hb.2.2.2.2.2
  obtain ⟨p, hp⟩ : ∃ z, z = S1 * S2 := ⟨_, rfl⟩
  obtain ⟨q, hq⟩ : ∃ z, z = C1 * C2 := ⟨_, rfl⟩
  obtain ⟨r, hr⟩ : ∃ z, z = H1 * H2 := ⟨_, rfl⟩
  rw [← hp] at b1
  rw [← hq] at b2
  rw [← hr] at b3
  have w1 : IntKind.i64.wrap ((S1 : Int) * (S2 : Int)) = (p : Int) := by rw [← Int.natCast_mul, ← hp]; exact IntWalk.i64_in _ (by omega)
  have w2 : IntKind.i64.wrap ((C1 : Int) * (C2 : Int)) = (q : Int) := by rw [← Int.natCast_mul, ← hq]; exact IntWalk.i64_in _ (by omega)
  have w3 : IntKind.i64.wrap ((H1 : Int) * (H2 : Int)) = (r : Int) := by rw [← Int.natCast_mul, ← hr]; exact IntWalk.i64_in _ (by omega)
  rw [← hp, ← hq, ← hr]
  clear hp hq hr b1 b2 b3 hb
  obtain ⟨W', hW'⟩ : ∃ z, z = ((w.alloc (.cells #[.int .i64 (S1 : Int), .int .i64 (C1 : Int), .int .i64 (H1 : Int), v1, v2] 25)).alloc (.cells #[.int .i64 (S2 : Int), .int .i64 (C2 : Int), .int .i64 (H2 : Int), v3, v4] 25)).alloc (.cells #[.int .i64 (p : Int), .int .i64 (q : Int), .int .i64 (r : Int), .slice none 0 0, .slice none 0 0] 25) := ⟨_, rfl⟩
  have HFIN : Hid (Below w.heap.size w W') := Lib.hid (by rw [hW']; (repeat' (first | (with_reducible exact Below.refl _ _) | (with_reducible assumption) | (with_reducible refine below_drewN ?_ _) | (with_reducible refine below_after (by assumption) ?_ ?_) | (with_reducible refine Below.drew ?_) | (with_reducible refine Below.alloc ?_ ?_ _) | (with_reducible refine Below.setCell ?_ ?_ _) | omega | (simp; omega) | (simp; done))))
  have HROW : Hid (Blk W' (w.heap.size + 1 + 1) 25 #[.int .i64 (p : Int), .int .i64 (q : Int), .int .i64 (r : Int), .slice none 0 0, .slice none 0 0]) := Lib.hid (by
    have e2 := heap_alloc_new ((w.alloc (.cells #[.int .i64 (S1 : Int), .int .i64 (C1 : Int), .int .i64 (H1 : Int), v1, v2] 25)).alloc (.cells #[.int .i64 (S2 : Int), .int .i64 (C2 : Int), .int .i64 (H2 : Int), v3, v4] 25)) (.cells #[.int .i64 (p : Int), .int .i64 (q : Int), .int .i64 (r : Int), .slice none 0 0, .slice none 0 0] 25)
    simp only [World.size_alloc] at e2
    rw [hW']
    exact e2)
  go_enter Try.func41, Try.ntmps41
  go_wp2
  rw [← hW']
  refine bodyPost_ret (results_cell_row rfl _ _ (w.heap.size + 1 + 1) 25 _ _ _ rfl HROW.out Try.underlying25 rfl (by kernel_rfl)) rfl ?_
  exact ⟨rfl, HFIN.out⟩
/-- What follows in both. -/
def bothF (S : Nat) (x y : Int) : Int := if x = -1 ∨ y = -1 then -1 else x * (S : Int) + y
theorem both_any (S bx : Nat) (x y : Int) (w : World) (hc : w.cell? ⟨bx, 0, none⟩ = some (.int .i64 (S : Int))) (hS : S ≤ 400) (hx : -1 ≤ x ∧ x < 400) (hy : -1 ≤ y ∧ y < 400) :
    Calls Try.prog 65 #[.int .i64 x, .int .i64 y, .pointer (some ⟨bx, 0, none⟩)] w fun e w' => e = .returned (.int .i64 (bothF S x y)) ∧ Below w.heap.size w w' := by
  have hz := block_of_cell hc
  dsimp only at hz
  by_cases h1 : x = -1
  · have hf : bothF S x y = -1 := if_pos (.inl h1)
    rw [hf]
    subst h1
    clear hf hx hy
    go_enter Try.func65, Try.ntmps65
    go_wp2
    go_ret
    exact ⟨rfl, by (repeat' (first | (with_reducible exact Below.refl _ _) | (with_reducible assumption) | (with_reducible refine below_drewN ?_ _) | (with_reducible refine below_after (by assumption) ?_ ?_) | (with_reducible refine Below.drew ?_) | (with_reducible refine Below.alloc ?_ ?_ _) | (with_reducible refine Below.setCell ?_ ?_ _) | omega | (simp; omega) | (simp; done)))⟩
  · have g1 : (x == -1) = false := beq_eq_false_iff_ne.2 h1
    by_cases h2 : y = -1
    · have hf : bothF S x y = -1 := if_pos (.inr h2)
      rw [hf]
      subst h2
      clear hf hx hy h1
      go_enter Try.func65, Try.ntmps65
      go_wp2
      go_ret
      exact ⟨rfl, by (repeat' (first | (with_reducible exact Below.refl _ _) | (with_reducible assumption) | (with_reducible refine below_drewN ?_ _) | (with_reducible refine below_after (by assumption) ?_ ?_) | (with_reducible refine Below.drew ?_) | (with_reducible refine Below.alloc ?_ ?_ _) | (with_reducible refine Below.setCell ?_ ?_ _) | omega | (simp; omega) | (simp; done)))⟩
    · have g2 : (y == -1) = false := beq_eq_false_iff_ne.2 h2
      have hf : bothF S x y = x * (S : Int) + y := if_neg (fun h => h.elim h1 h2)
      obtain ⟨k, rfl⟩ : ∃ k : Nat, x = (k : Int) := ⟨x.toNat, by omega⟩
      obtain ⟨p, hp⟩ : ∃ z, z = k * S := ⟨_, rfl⟩
      have hb : k * S ≤ 400 * 400 := Nat.mul_le_mul (by omega) hS
      rw [← hp] at hb
      have w1 : IntKind.i64.wrap ((k : Int) * (S : Int)) = (p : Int) := by rw [← Int.natCast_mul, ← hp]; exact IntWalk.i64_in _ (by omega)
      have w2 : IntKind.i64.wrap ((p : Int) + y) = (p : Int) + y := IntWalk.i64_in _ (by omega)
      rw [hf, ← Int.natCast_mul, ← hp]
      clear hf hp hb hx hy h1 h2
      go_enter Try.func65, Try.ntmps65
      go_wp2
      go_ret
      exact ⟨rfl, by (repeat' (first | (with_reducible exact Below.refl _ _) | (with_reducible assumption) | (with_reducible refine below_drewN ?_ _) | (with_reducible refine below_after (by assumption) ?_ ?_) | (with_reducible refine Below.drew ?_) | (with_reducible refine Below.alloc ?_ ?_ _) | (with_reducible refine Below.setCell ?_ ?_ _) | omega | (simp; omega) | (simp; done)))⟩
/-- The numbers that follow a state of the product with a control; its states; its good ones. -/
def pairL (S : Nat) (l m : List Int) : List Int := l.flatMap fun x => m.map fun y => bothF S x y
def prodN (a b : Gm) (s c : Nat) : List Int := pairL b.S (subL a (s / b.S) (c / b.C)) (subL b (s % b.S) (c % b.C))
def prodR (a b : Gm) (s c : Nat) : List Int := (List.range c).flatMap fun v => prodN a b s v
def prodA (a b : Gm) (s : Nat) : List Int := (List.range s).flatMap fun v => prodR a b v (a.C * b.C)
def prodB (a b : Gm) (s : Nat) : List Bool := (List.range s).map fun v => a.good.getD (v / b.S) false && b.good.getD (v % b.S) false
def prodG (a b : Gm) : Gm := ⟨a.S * b.S, a.C * b.C, a.H * b.H, prodA a b (a.S * b.S), prodB a b (a.S * b.S)⟩
theorem prodR_succ (a b : Gm) (s c : Nat) : prodR a b s (c + 1) = prodR a b s c ++ prodN a b s c := by unfold prodR; rw [List.range_succ, List.flatMap_append]; simp
theorem prodA_succ (a b : Gm) (s : Nat) : prodA a b (s + 1) = prodA a b s ++ prodR a b s (a.C * b.C) := by unfold prodA; rw [List.range_succ, List.flatMap_append]; simp
theorem prodB_succ (a b : Gm) (s : Nat) : prodB a b (s + 1) = prodB a b s ++ [a.good.getD (s / b.S) false && b.good.getD (s % b.S) false] := by unfold prodB; rw [List.range_succ, List.map_append]; rfl
theorem pairL_snoc (S : Nat) (l m : List Int) (x : Int) : pairL S (l ++ [x]) m = pairL S l m ++ m.map (bothF S x) := by unfold pairL; rw [List.flatMap_append]; simp
theorem pairL_len (S : Nat) (l m : List Int) : (pairL S l m).length = l.length * m.length := by
  unfold pairL
  induction l with
  | nil => simp
  | cons x l ih => rw [List.flatMap_cons, List.length_append, ih, List.length_map, List.length_cons, Nat.succ_mul]; omega
theorem div_lt {s m n : Nat} (h : s < m * n) : s / n < m := Nat.div_lt_of_lt_mul (by rw [Nat.mul_comm]; exact h)
theorem mod_lt {s m n : Nat} (h : s < m * n) : s % n < n := Nat.mod_lt _ (by
  rcases Nat.eq_zero_or_pos n with h0 | h0
  · rw [h0] at h; simp at h
  · exact h0)
theorem prodN_len {a b : Gm} (oa : GmOk a) (ob : GmOk b) {s c : Nat} (hs : s < a.S * b.S) (hc : c < a.C * b.C) : (prodN a b s c).length = a.H * b.H := by
  unfold prodN
  rw [pairL_len, sub_len oa (div_lt hs) (div_lt hc), sub_len ob (mod_lt hs) (mod_lt hc)]
theorem prodR_len {a b : Gm} (oa : GmOk a) (ob : GmOk b) {s c : Nat} (hs : s < a.S * b.S) (hc : c ≤ a.C * b.C) : (prodR a b s c).length = c * (a.H * b.H) := by
  induction c with
  | zero => simp [prodR]
  | succ c ih => rw [prodR_succ, List.length_append, ih (by omega), prodN_len oa ob hs (by omega), Nat.succ_mul]
theorem prodA_len {a b : Gm} (oa : GmOk a) (ob : GmOk b) {s : Nat} (hs : s ≤ a.S * b.S) : (prodA a b s).length = s * (a.C * b.C) * (a.H * b.H) := by
  induction s with
  | zero => simp [prodA]
  | succ s ih => rw [prodA_succ, List.length_append, ih (by omega), prodR_len oa ob (by omega) (Nat.le_refl _), ← Nat.add_mul, ← Nat.succ_mul]
theorem bothF_bd {S1 S2 : Nat} {x y : Int} (hx : -1 ≤ x ∧ x < S1) (hy : -1 ≤ y ∧ y < S2) : -1 ≤ bothF S2 x y ∧ bothF S2 x y < ((S1 * S2 : Nat) : Int) := by
  unfold bothF
  split
  · exact ⟨by omega, by omega⟩
  · rename_i h
    have h1 : ¬ x = -1 := fun e => h (.inl e)
    have h2 : ¬ y = -1 := fun e => h (.inr e)
    obtain ⟨k, rfl⟩ : ∃ k : Nat, x = (k : Int) := ⟨x.toNat, by omega⟩
    obtain ⟨j, rfl⟩ : ∃ j : Nat, y = (j : Int) := ⟨y.toNat, by omega⟩
    rw [← Int.natCast_mul, ← Int.natCast_add]
    have h3 : (k + 1) * S2 ≤ S1 * S2 := Nat.mul_le_mul_right _ (by omega)
    rw [Nat.succ_mul] at h3
    omega
theorem prodG_ok {a b : Gm} (oa : GmOk a) (ob : GmOk b) (hS : a.S * b.S ≤ 400) (hC : a.C * b.C ≤ 16) (hH : a.H * b.H ≤ 16) : GmOk (prodG a b) where
  s0 := Nat.mul_pos oa.s0 ob.s0
  s1 := hS
  c0 := Nat.mul_pos oa.c0 ob.c0
  c1 := hC
  h0 := Nat.mul_pos oa.h0 ob.h0
  h1 := hH
  nl := prodA_len oa ob (Nat.le_refl _)
  gl := by show (prodB a b (a.S * b.S)).length = a.S * b.S; unfold prodB; simp
  bd := fun x hx => by
    obtain ⟨s, _, hs⟩ := List.mem_flatMap.1 (show x ∈ prodA a b (a.S * b.S) from hx)
    obtain ⟨v, _, hv⟩ := List.mem_flatMap.1 hs
    obtain ⟨y, hy, hv⟩ := List.mem_flatMap.1 (show x ∈ pairL _ _ _ from hv)
    obtain ⟨z, hz, rfl⟩ := List.mem_map.1 hv
    exact bothF_bd (sub_bd oa hy) (sub_bd ob hz)
end Go.Proofs.Ytalngalikblgkaa
