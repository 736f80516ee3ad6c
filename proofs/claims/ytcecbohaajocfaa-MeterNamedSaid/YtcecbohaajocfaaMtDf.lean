/- law11: what MeterRepairs and MeterNamed keep in memory. -/
import Derived.Test.YtcecbohaajocfaaMtDc
import Derived.Test.YtcecbohaajocfaaMtDd
import Derived.Test.YtcecbohaajocfaaMtDe

set_option linter.unusedSimpArgs false
set_option linter.unusedVariables false
namespace Go.Proofs.Ytcecbohaajocfaa
open Go.RowKit

theorem run_min3 {P : Program} (w : World) (ts : Array TypeId) (t : TypeId) (k k' k2 : IntKind) (x y z : Int) :
    (Builtin.min_ ts t #[.int k x, .int k' y, .int k2 z]).run P w = .ok (.int k (min (min x y) z)) w := by
  have e : ∀ a b : Int, (if b < a then b else a) = min a b := fun a b => by
    rw [Int.min_def]
    split <;> split <;> omega
  simp [Builtin.min_, Builtin.min2, e]
def encW (n : Int) : List Value := [.int .u16 n]
def U16s (l : List Int) : Prop := ∀ x ∈ l, 0 ≤ x ∧ x ≤ 65535
theorem cellW {w : World} {ab ao k : Nat} {x : Int} (h : ∀ (j : Nat) (u : Value), (encW x)[j]? = some u → w.cell? ⟨ab, ao + k * 1 + j, none⟩ = some u) : w.cell? ⟨ab, ao + k, none⟩ = some (.int .u16 x) := by
  have := h 0 _ rfl
  rw [Nat.mul_one, Nat.add_zero] at this
  exact this
/-- A case in a box, its values open to stores. -/
structure RpS (w : World) (cx nb vb n : Nat) (N : List Nd) (V : List Int) (W : World) : Prop where
  low : Below w.heap.size w W
  c : Blk W cx 35 #[.slice (some ⟨nb, 0, none⟩) n n, .slice (some ⟨vb, 0, none⟩) n n]
  nd : Blk W nb 107 (nodesA N)
  v : Blk W vb 3 (intsA V)
  ge : w.heap.size ≤ cx ∧ w.heap.size ≤ nb ∧ w.heap.size ≤ vb
section
variable {w : World} {cx nb vb n : Nat} {N : List Nd} {V : List Int} {W W' : World}
theorem RpS.next (h : RpS w cx nb vb n N V W) (hb : Below W.heap.size W W') : RpS w cx nb vb n N V W' :=
  ⟨below3 h.low hb (Nat.le_refl _), h.c.below hb h.c.lt, h.nd.below hb h.nd.lt, h.v.below hb h.v.lt, h.ge⟩
theorem RpS.setV (h : RpS w cx nb vb n N V W) (k : Nat) (x : Int) : RpS w cx nb vb n N (V.set k x) (W.setCell ⟨vb, k, none⟩ (.int .i64 x)) := by
  refine ⟨h.low.setCell (p := ⟨vb, k, none⟩) h.ge.2.2 _, h.c.far (fun e => blk_ne h.c h.v (by decide) e) _, h.nd.far (fun e => blk_ne h.nd h.v (by decide) e) _, ?_, h.ge⟩
  rw [← intsA_set]
  exact h.v.set_ k _
theorem RpS.ks (h : RpS w cx nb vb n N V W) (hN : N.length = n) (hV : V.length = n) : KsIn W W.heap.size n (some ⟨nb, 0, none⟩) (some ⟨vb, 0, none⟩) ⟨N, V⟩ := by
  have hr : RowW W nb 107 Nd.enc (some ⟨nb, 0, none⟩) N := Or.inr ⟨rfl, _, h.nd, fun j u hu => by rw [nodesA, List.getElem?_toArray]; exact hu⟩
  exact ⟨RowW.rd (T := 107) (b := nb) (l := N) (fun _ => rfl) hN hr, by have := h.v.rdI; rw [hV] at this; exact this⟩
end
theorem tmod_ix {x : Int} {n : Nat} (hx : 0 ≤ x) (hn : 1 ≤ n) : ∃ t : Nat, x.tmod (n : Int) = (t : Int) ∧ t < n := by
  have h1 := Int.emod_nonneg x (show (n : Int) ≠ 0 by omega)
  have h2 := Int.emod_lt_of_pos x (show (0 : Int) < (n : Int) by omega)
  refine ⟨(x.tmod (n : Int)).toNat, ?_, ?_⟩
  · rw [Int.tmod_eq_emod_of_nonneg hx]; omega
  · rw [Int.tmod_eq_emod_of_nonneg hx]; omega
theorem set_bd {V : List Int} {k : Nat} {y : Int} (h : ∀ x ∈ V, 0 ≤ x ∧ x ≤ 1000000000) (hy : 0 ≤ y ∧ y ≤ 1000000000) : ∀ x ∈ V.set k y, 0 ≤ x ∧ x ≤ 1000000000 := fun x hx => by
  rcases List.mem_or_eq_of_mem_set hx with h1 | rfl
  · exact h x h1
  · exact hy
/-- Rows of blocks of their own that differ. -/
def Apart (v u : Value) : Prop := ∀ b, v.ownBlock = some b → u.ownBlock ≠ some b
theorem Apart.symm {v u : Value} (h : Apart v u) : Apart u v := fun b e e' => h b e' e
theorem Apart.kept {v u : Value} {W W' : World} {z n size : Nat} {e : TypeId} {xs : List Value} (h : Apart v u) (hu : W.ownsRow z e size u n xs) (hg : W.grownBy W' v.ownBlock) : W'.ownsRow z e size u n xs :=
  hu.kept hg (by
    cases hb : u.ownBlock with
    | none => exact Or.inl rfl
    | some b => exact Or.inr (fun e9 => h b e9.symm hb))
theorem Apart.grow {v v' u : Value} {W : World} {z n size : Nat} {e : TypeId} {xs : List Value} (h : Apart v u) (hu : W.ownsRow z e size u n xs) {s : Nat} (hs : W.heap.size ≤ s) (hv : v'.ownBlock = v.ownBlock ∨ v'.ownBlock = some s) : Apart v' u := fun b hb hb2 => by
  rcases hv with h1 | h1
  · exact h b (by rw [← h1]; exact hb) hb2
  · rw [h1] at hb
    have := (World.ownsRow.lt hu b hb2).2
    cases hb
    omega
theorem apart_nil (u : Value) : Apart (.slice none 0 0) u := fun b h => by simp [Value.ownBlock] at h
/-- The two sets under way. -/
structure SetI (w3 : World) (k : Nat) (SA : Option Addr) (sn sc : Nat) (DA : Option Addr) (dn dc : Nat) (LS LD : List Nat) (W : World) : Prop where
  low : Below w3.heap.size w3 W
  s : W.ownsRow w3.heap.size 3 1 (.slice SA sn sc) sn (LS.flatMap encN)
  d : W.ownsRow w3.heap.size 3 1 (.slice DA dn dc) dn (LD.flatMap encN)
  ap : Apart (.slice SA sn sc) (.slice DA dn dc)
  so : LS.Pairwise (· < ·) ∧ ∀ x ∈ LS, x < k
  do_ : LD.Pairwise (· < ·) ∧ ∀ x ∈ LD, x < k
  sub : ∀ x ∈ LS, x ∈ LD
  ln : sn = LS.length ∧ dn = LD.length ∧ sn ≤ k ∧ dn ≤ k
theorem up_snoc {L : List Nat} {k : Nat} (h : L.Pairwise (· < ·) ∧ ∀ x ∈ L, x < k) : (L ++ [k]).Pairwise (· < ·) ∧ ∀ x ∈ L ++ [k], x < k + 1 := by
  refine ⟨?_, fun x hx => ?_⟩
  · rw [List.pairwise_append]
    exact ⟨h.1, List.pairwise_singleton _ _, fun a ha b hb => by have := h.2 a ha; simp at hb; omega⟩
  · rcases List.mem_append.1 hx with h1 | h1
    · have := h.2 x h1; omega
    · simp at h1; omega
theorem up_more {L : List Nat} {k : Nat} (h : L.Pairwise (· < ·) ∧ ∀ x ∈ L, x < k) : L.Pairwise (· < ·) ∧ ∀ x ∈ L, x < k + 1 := ⟨h.1, fun x hx => by have := h.2 x hx; omega⟩
theorem snoc_N (L : List Nat) (k : Nat) : (L ++ [k]).flatMap encN = L.flatMap encN ++ [.int .i64 (k : Int)] := by rw [List.flatMap_append]; rfl
end Go.Proofs.Ytcecbohaajocfaa
