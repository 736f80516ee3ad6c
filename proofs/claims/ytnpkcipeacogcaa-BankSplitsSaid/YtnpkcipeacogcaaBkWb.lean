/- law06: a bank made of numbers. -/
import Derived.Test.YtnpkcipeacogcaaBkWa

set_option linter.unusedSimpArgs false
set_option linter.unusedVariables false
namespace Go.Proofs.Ytnpkcipeacogcaa
open Go.RowKit

/-- What lies about while a bank is made. -/
structure MdE (w : World) (cv ev : Value) (W : World) : Prop where
  low : Below w.heap.size w W
  hz : w.heap.size + 2 ≤ W.heap.size
  res : Blk W w.heap.size 26 #[.slice none 0 0, .slice none 0 0]
  bnk : Blk W (w.heap.size + 1) 26 #[cv, ev]
structure MdF (w : World) (cv ev : Value) (T : TypeId) (size : Nat) (v : Value) (n : Nat) (ys : List Value) (W : World) : Prop where
  e : MdE w cv ev W
  oth : W.ownsRow (w.heap.size + 2) T size v n ys
section
variable {w W W' : World} {cv ev nv v v2 : Value} {T T2 : TypeId} {size size2 n k : Nat} {ys zs : List Value}
theorem MdF.next (h : MdF w cv ev T size v n ys W) (hb : Below W.heap.size W W') : MdF w cv ev T size v n ys W' :=
  ⟨⟨h.e.low.trans (hb.mono h.e.low.size), by have := hb.size; have := h.e.hz; omega, h.e.res.below hb h.e.res.lt, h.e.bnk.below hb h.e.bnk.lt⟩, row_next h.oth hb⟩
theorem MdF.grown (h : MdF w cv ev T size v n ys W) (hr : W.ownsRow (w.heap.size + 2) T2 size2 v2 k zs) (hg : W.grownBy W' v2.ownBlock) (h1 : 26 ≠ T2) (h2 : T ≠ T2) : MdF w cv ev T size v n ys W' :=
  ⟨⟨h.e.low.grown hg h.e.low.size (fun r e => by have := (World.ownsRow.lt hr r e).1; omega), by have := hg.size; have := h.e.hz; omega, h.e.res.kept hg (own_ne hr h.e.res h1), h.e.bnk.kept hg (own_ne hr h.e.bnk h1)⟩, h.oth.kept hg (own_far h.oth hr h2)⟩
theorem MdF.store0 (h : MdF w cv ev T size v n ys W) (hr : W.ownsRow (w.heap.size + 2) T2 size2 nv k zs) (h1 : 26 ≠ T2) (h2 : 26 ≠ T) : MdF w nv ev T size v n ys (W.setCell ⟨w.heap.size + 1, 0, none⟩ nv) ∧ (W.setCell ⟨w.heap.size + 1, 0, none⟩ nv).ownsRow (w.heap.size + 2) T2 size2 nv k zs :=
  have hg := grown_set W (w.heap.size + 1) 0 nv
  ⟨⟨⟨h.e.low.setCell (by simp) _, by simp [World.setCell]; exact h.e.hz, h.e.res.far (by simp) _, h.e.bnk.set_ 0 _⟩, h.oth.kept hg (Or.inr (fun e => own_ne h.oth h.e.bnk h2 e.symm))⟩, hr.kept hg (Or.inr (fun e => own_ne hr h.e.bnk h1 e.symm))⟩
theorem MdF.store1 (h : MdF w cv ev T size v n ys W) (hr : W.ownsRow (w.heap.size + 2) T2 size2 nv k zs) (h1 : 26 ≠ T2) (h2 : 26 ≠ T) : MdF w cv nv T size v n ys (W.setCell ⟨w.heap.size + 1, 1, none⟩ nv) ∧ (W.setCell ⟨w.heap.size + 1, 1, none⟩ nv).ownsRow (w.heap.size + 2) T2 size2 nv k zs :=
  have hg := grown_set W (w.heap.size + 1) 1 nv
  ⟨⟨⟨h.e.low.setCell (by simp) _, by simp [World.setCell]; exact h.e.hz, h.e.res.far (by simp) _, h.e.bnk.set_ 1 _⟩, h.oth.kept hg (Or.inr (fun e => own_ne h.oth h.e.bnk h2 e.symm))⟩, hr.kept hg (Or.inr (fun e => own_ne hr h.e.bnk h1 e.symm))⟩
end
def MdG0 (w : World) (ev : Value) (T2 : TypeId) (size2 k : Nat) (zs : List Value) (T : TypeId) (size : Nat) (v : Value) (n : Nat) (ys : List Value) (W : World) : Prop := ∃ g c, MdF w (.slice (some ⟨g, 0, none⟩) k c) ev T size v n ys W ∧ W.ownsRow (w.heap.size + 2) T2 size2 (.slice (some ⟨g, 0, none⟩) k c) k zs
def MdG1 (w : World) (cv : Value) (T2 : TypeId) (size2 k : Nat) (zs : List Value) (T : TypeId) (size : Nat) (v : Value) (n : Nat) (ys : List Value) (W : World) : Prop := ∃ g c, MdF w cv (.slice (some ⟨g, 0, none⟩) k c) T size v n ys W ∧ W.ownsRow (w.heap.size + 2) T2 size2 (.slice (some ⟨g, 0, none⟩) k c) k zs
def mdPhi7 (base : Nat) (lb : Nat) (lo : Nat) (ln : Nat) (lc : Nat) (j : Nat) (k : Nat) (cA : Option Addr) (cc : Nat) (full : Int) (m : Int) (en : Int) (a1 : Int) (a2 : Int) (a3 : Int) (xs : List Value) : Nat → Value → World → (Nat → Nat) → Prop
  | 0, v, _, _ => v = .pointer (some ⟨base + 1, 0, none⟩)
  | 1, v, _, _ => v = .slice cA k cc
  | 2, v, _, _ => v = .int .i64 full
  | 3, v, _, _ => v = .slice (some ⟨lb, lo, none⟩) ln lc
  | 4, v, _, _ => v = .int .i64 j
  | 5, v, _, _ => v = .int .i64 ((j : Int) + 1)
  | 6, v, _, _ => v = .pointer (some ⟨lb, lo + (j + 1), none⟩)
  | 7, v, _, _ => v = .int .u8 a1
  | 8, v, _, _ => v = .int .i64 a1
  | 9, v, _, _ => v = .int .i64 m
  | 10, v, _, _ => v = .int .i64 en
  | 11, v, _, _ => v = .int .i64 full
  | 12, v, _, _ => v = .slice (some ⟨lb, lo, none⟩) ln lc
  | 13, v, _, _ => v = .int .i64 j
  | 14, v, _, _ => v = .int .i64 ((j : Int) + 2)
  | 15, v, _, _ => v = .pointer (some ⟨lb, lo + (j + 2), none⟩)
  | 16, v, _, _ => v = .int .u8 a2
  | 17, v, _, _ => v = .int .i64 a2
  | 18, v, _, _ => v = .slice (some ⟨lb, lo, none⟩) ln lc
  | 19, v, _, _ => v = .int .i64 j
  | 20, v, _, _ => v = .int .i64 ((j : Int) + 3)
  | 21, v, _, _ => v = .pointer (some ⟨lb, lo + (j + 3), none⟩)
  | 22, v, _, _ => v = .int .u8 a3
  | 23, v, _, _ => v = .int .u8 (a3.tmod 40)
  | 24, v, _, _ => v = .int .i64 (a3.tmod 40)
  | 25, v, _, _ => v = .agg #[.int .i64 en, .int .i64 full, .int .i64 a2, .int .i64 (a3.tmod 40)]
  | 26, v, W, γ => ∃ B, v = .slice (some ⟨B, 0, none⟩) 1 1 ∧ (γ 0 = 0 → Blk W B 34 ([.int .i64 en, .int .i64 full, .int .i64 a2, .int .i64 (a3.tmod 40)]).toArray ∧ (.slice cA k cc : Value).ownBlock ≠ some B)
  | 27, v, W, γ => ∃ g' c', v = .slice (some ⟨g', 0, none⟩) (k + 1) c' ∧ γ 0 ≠ 0 ∧ (γ 0 = 2 ∨ W.ownsRow (base + 2) 34 4 (.slice (some ⟨g', 0, none⟩) (k + 1) c') (k + 1) (xs ++ [.int .i64 en, .int .i64 full, .int .i64 a2, .int .i64 (a3.tmod 40)]))
  | 28, v, _, _ => v = .pointer (some ⟨base + 1, 0, none⟩)
  | 29, _, _, γ => γ 0 = 2
  | _, _, _, _ => True
section
variable {W W' : World} {γ : Nat → Nat} {i : Nat} {v : Value} {base : Nat} {lb : Nat} {lo : Nat} {ln : Nat} {lc : Nat} {j : Nat} {k : Nat} {cA : Option Addr} {cc : Nat} {full : Int} {m : Int} {en : Int} {a1 : Int} {a2 : Int} {a3 : Int} {xs : List Value}
theorem mdPhi7_next (hb : Below W.heap.size W W') (h : mdPhi7 base lb lo ln lc j k cA cc full m en a1 a2 a3 xs i v W γ) : mdPhi7 base lb lo ln lc j k cA cc full m en a1 a2 a3 xs i v W' γ := by
  unfold mdPhi7 at h ⊢
  split at h
  all_goals first | exact h | trivial | skip
  · obtain ⟨B, h1, h2⟩ := h
    exact ⟨B, h1, fun h0 => ⟨(h2 h0).1.below hb (h2 h0).1.lt, (h2 h0).2⟩⟩
  · obtain ⟨g', c', h1, h2, h3⟩ := h
    exact ⟨g', c', h1, h2, h3.imp id fun h => row_next h hb⟩
theorem mdPhi7_1 (h0 : γ 0 = 0) (hi : i ≠ 27) (h : mdPhi7 base lb lo ln lc j k cA cc full m en a1 a2 a3 xs i v W γ) : mdPhi7 base lb lo ln lc j k cA cc full m en a1 a2 a3 xs i v W' (fun _ => 1) := by
  unfold mdPhi7 at h ⊢
  split at h
  all_goals first | exact h | trivial | exact absurd rfl hi | (exfalso; omega) | skip
  · obtain ⟨B, h1, h2⟩ := h
    exact ⟨B, h1, fun h0 => by cases h0⟩
theorem mdPhi7_2 (hi : i ≠ 29) (h : mdPhi7 base lb lo ln lc j k cA cc full m en a1 a2 a3 xs i v W γ) : mdPhi7 base lb lo ln lc j k cA cc full m en a1 a2 a3 xs i v W' (fun _ => 2) := by
  unfold mdPhi7 at h ⊢
  split at h
  all_goals first | exact h | trivial | exact absurd rfl hi | skip
  · obtain ⟨B, h1, h2⟩ := h
    exact ⟨B, h1, fun h0 => by cases h0⟩
  · obtain ⟨g', c', h1, h2, h3⟩ := h
    exact ⟨g', c', h1, by decide, Or.inl rfl⟩
end
def mdPhi8 (base : Nat) (lb : Nat) (lo : Nat) (ln : Nat) (lc : Nat) (j : Nat) (k : Nat) (eA : Option Addr) (cc : Nat) (r : Int) (t : Int) (a0 : Int) (a1 : Int) (a2 : Int) (a3 : Int) (a4 : Int) (xs : List Value) : Nat → Value → World → (Nat → Nat) → Prop
  | 0, v, _, _ => v = .pointer (some ⟨base + 1, 1, none⟩)
  | 1, v, _, _ => v = .slice eA k cc
  | 2, v, _, _ => v = .slice (some ⟨lb, lo, none⟩) ln lc
  | 3, v, _, _ => v = .int .i64 j
  | 4, v, _, _ => v = .pointer (some ⟨lb, lo + j, none⟩)
  | 5, v, _, _ => v = .int .u8 a0
  | 6, v, _, _ => v = .int .i64 a0
  | 7, v, _, _ => v = .slice (some ⟨lb, lo, none⟩) ln lc
  | 8, v, _, _ => v = .int .i64 j
  | 9, v, _, _ => v = .int .i64 ((j : Int) + 1)
  | 10, v, _, _ => v = .pointer (some ⟨lb, lo + (j + 1), none⟩)
  | 11, v, _, _ => v = .int .u8 a1
  | 12, v, _, _ => v = .int .u8 (a1.tmod 60)
  | 13, v, _, _ => v = .int .i64 (a1.tmod 60)
  | 14, v, _, _ => v = .int .i64 r
  | 15, v, _, _ => v = .slice (some ⟨lb, lo, none⟩) ln lc
  | 16, v, _, _ => v = .int .i64 j
  | 17, v, _, _ => v = .int .i64 ((j : Int) + 2)
  | 18, v, _, _ => v = .pointer (some ⟨lb, lo + (j + 2), none⟩)
  | 19, v, _, _ => v = .int .u8 a2
  | 20, v, _, _ => v = .int .u8 (a2.tmod 30)
  | 21, v, _, _ => v = .int .i64 (a2.tmod 30)
  | 22, v, _, _ => v = .slice (some ⟨lb, lo, none⟩) ln lc
  | 23, v, _, _ => v = .int .i64 j
  | 24, v, _, _ => v = .int .i64 ((j : Int) + 3)
  | 25, v, _, _ => v = .pointer (some ⟨lb, lo + (j + 3), none⟩)
  | 26, v, _, _ => v = .int .u8 a3
  | 27, v, _, _ => v = .int .u8 (a3.tmod 20)
  | 28, v, _, _ => v = .int .i64 (a3.tmod 20)
  | 29, v, _, _ => v = .slice (some ⟨lb, lo, none⟩) ln lc
  | 30, v, _, _ => v = .int .i64 j
  | 31, v, _, _ => v = .int .i64 ((j : Int) + 4)
  | 32, v, _, _ => v = .pointer (some ⟨lb, lo + (j + 4), none⟩)
  | 33, v, _, _ => v = .int .u8 a4
  | 34, v, _, _ => v = .int .u8 (a4.tmod 4)
  | 35, v, _, _ => v = .int .i64 (a4.tmod 4)
  | 36, v, _, _ => v = .int .i64 t
  | 37, v, _, _ => v = .agg #[.int .i64 a0, .int .i64 r, .int .i64 (a2.tmod 30), .int .i64 (a3.tmod 20), .int .i64 t]
  | 38, v, W, γ => ∃ B, v = .slice (some ⟨B, 0, none⟩) 1 1 ∧ (γ 0 = 0 → Blk W B 66 ([.int .i64 a0, .int .i64 r, .int .i64 (a2.tmod 30), .int .i64 (a3.tmod 20), .int .i64 t]).toArray ∧ (.slice eA k cc : Value).ownBlock ≠ some B)
  | 39, v, W, γ => ∃ g' c', v = .slice (some ⟨g', 0, none⟩) (k + 1) c' ∧ γ 0 ≠ 0 ∧ (γ 0 = 2 ∨ W.ownsRow (base + 2) 66 5 (.slice (some ⟨g', 0, none⟩) (k + 1) c') (k + 1) (xs ++ [.int .i64 a0, .int .i64 r, .int .i64 (a2.tmod 30), .int .i64 (a3.tmod 20), .int .i64 t]))
  | 40, v, _, _ => v = .pointer (some ⟨base + 1, 1, none⟩)
  | 41, _, _, γ => γ 0 = 2
  | _, _, _, _ => True
section
variable {W W' : World} {γ : Nat → Nat} {i : Nat} {v : Value} {base : Nat} {lb : Nat} {lo : Nat} {ln : Nat} {lc : Nat} {j : Nat} {k : Nat} {eA : Option Addr} {cc : Nat} {r : Int} {t : Int} {a0 : Int} {a1 : Int} {a2 : Int} {a3 : Int} {a4 : Int} {xs : List Value}
theorem mdPhi8_next (hb : Below W.heap.size W W') (h : mdPhi8 base lb lo ln lc j k eA cc r t a0 a1 a2 a3 a4 xs i v W γ) : mdPhi8 base lb lo ln lc j k eA cc r t a0 a1 a2 a3 a4 xs i v W' γ := by
  unfold mdPhi8 at h ⊢
  split at h
  all_goals first | exact h | trivial | skip
  · obtain ⟨B, h1, h2⟩ := h
    exact ⟨B, h1, fun h0 => ⟨(h2 h0).1.below hb (h2 h0).1.lt, (h2 h0).2⟩⟩
  · obtain ⟨g', c', h1, h2, h3⟩ := h
    exact ⟨g', c', h1, h2, h3.imp id fun h => row_next h hb⟩
theorem mdPhi8_1 (h0 : γ 0 = 0) (hi : i ≠ 39) (h : mdPhi8 base lb lo ln lc j k eA cc r t a0 a1 a2 a3 a4 xs i v W γ) : mdPhi8 base lb lo ln lc j k eA cc r t a0 a1 a2 a3 a4 xs i v W' (fun _ => 1) := by
  unfold mdPhi8 at h ⊢
  split at h
  all_goals first | exact h | trivial | exact absurd rfl hi | (exfalso; omega) | skip
  · obtain ⟨B, h1, h2⟩ := h
    exact ⟨B, h1, fun h0 => by cases h0⟩
theorem mdPhi8_2 (hi : i ≠ 41) (h : mdPhi8 base lb lo ln lc j k eA cc r t a0 a1 a2 a3 a4 xs i v W γ) : mdPhi8 base lb lo ln lc j k eA cc r t a0 a1 a2 a3 a4 xs i v W' (fun _ => 2) := by
  unfold mdPhi8 at h ⊢
  split at h
  all_goals first | exact h | trivial | exact absurd rfl hi | skip
  · obtain ⟨B, h1, h2⟩ := h
    exact ⟨B, h1, fun h0 => by cases h0⟩
  · obtain ⟨g', c', h1, h2, h3⟩ := h
    exact ⟨g', c', h1, by decide, Or.inl rfl⟩
end
def MdBat (b : Bat) : Prop := BatOk b ∧ b.full ≤ 10200 ∧ b.power ≤ 255 ∧ b.charge ≤ 39
def MdGen (g : Gen) : Prop := GenOk g ∧ g.power ≤ 255 ∧ g.tries ≤ 4
theorem md_en {f a : Int} (h0 : 0 ≤ f) (a0 : 0 ≤ a) (a1 : a ≤ 255) : 0 ≤ (f * a).tdiv 255 ∧ (f * a).tdiv 255 ≤ f ∧ 0 ≤ f * a ∧ f * a ≤ f * 255 := by
  have h1 : 0 ≤ f * a := Int.mul_nonneg h0 a0
  have h2 : f * a ≤ f * 255 := Int.mul_le_mul_of_nonneg_left a1 h0
  rw [Int.tdiv_eq_ediv_of_nonneg h1]
  omega
theorem MdBat.mk_ {f a1 a2 a3 : Int} (h0 : 0 ≤ f) (h1 : f ≤ 10200) (b1 : 0 ≤ a1 ∧ a1 ≤ 255) (b2 : 0 ≤ a2 ∧ a2 ≤ 255) (b3 : 0 ≤ a3 ∧ a3 ≤ 255) : MdBat ⟨(f * a1).tdiv 255, f, a2, a3.tmod 40⟩ := by
  have h := md_en h0 b1.1 b1.2
  have k := tmod_bd (n := 40) b3.1 (by omega)
  exact ⟨⟨by dsimp only; omega, by dsimp only; omega, by dsimp only; omega, by dsimp only; omega, by dsimp only; omega, by dsimp only; omega, by dsimp only; omega⟩, by dsimp only; omega, by dsimp only; omega, by dsimp only; omega⟩
theorem MdGen.mk_ {a0 a1 a2 a3 a4 : Int} (b0 : 0 ≤ a0 ∧ a0 ≤ 255) (b1 : 0 ≤ a1 ∧ a1 ≤ 255) (b2 : 0 ≤ a2 ∧ a2 ≤ 255) (b3 : 0 ≤ a3 ∧ a3 ≤ 255) (b4 : 0 ≤ a4 ∧ a4 ≤ 255) : MdGen ⟨a0, 1 + a1.tmod 60, a2.tmod 30, a3.tmod 20, 1 + a4.tmod 4⟩ := by
  have k1 := tmod_bd (n := 60) b1.1 (by omega)
  have k2 := tmod_bd (n := 30) b2.1 (by omega)
  have k3 := tmod_bd (n := 20) b3.1 (by omega)
  have k4 := tmod_bd (n := 4) b4.1 (by omega)
  exact ⟨⟨by dsimp only; omega, by dsimp only; omega, by dsimp only; omega, by dsimp only; omega, by dsimp only; omega, by dsimp only; omega, by dsimp only; omega, by dsimp only; omega, by dsimp only; omega, by dsimp only; omega⟩, by dsimp only; omega, by dsimp only; omega⟩
theorem all_snoc {α : Type} {P : α → Prop} {l : List α} {x : α} (h : ∀ z ∈ l, P z) (hx : P x) : ∀ z ∈ l ++ [x], P z := fun z hz => (List.mem_append.1 hz).elim (h z) (fun e => by rw [List.mem_singleton.1 e]; exact hx)
def MdS (w : World) (q : Nat) (cv ev : Value) (W : World) : Prop := MdE w cv ev W ∧ ∃ (bs : List Bat) (gs : List Gen), (bs.length = (q + 1) / 2 ∧ gs.length = q / 2) ∧ (∀ b ∈ bs, MdBat b) ∧ (∀ g ∈ gs, MdGen g) ∧ W.ownsRow (w.heap.size + 2) 34 4 cv bs.length (bs.flatMap Bat.enc) ∧ W.ownsRow (w.heap.size + 2) 66 5 ev gs.length (gs.flatMap Gen.enc)
theorem row_low {w : World} {base base' : Nat} {e : TypeId} {size n : Nat} {v : Value} {xs : List Value} (h : w.ownsRow base e size v n xs) (hb : base' ≤ base) : w.ownsRow base' e size v n xs := by
  refine ⟨h.1, ?_⟩
  rcases h.2 with h | ⟨g, cap, cur, hv, hg, r⟩
  · exact .inl h
  · exact .inr ⟨g, cap, cur, hv, by omega, r⟩
set_option maxRecDepth 100000 in
set_option maxHeartbeats 4000000 in
theorem Made_any (A : Option Addr) (n c : Nat) (l : List Int) (w : World) (hl : Rd w w.heap.size 1 encU A n l) (hu : U8s l) (hn : n ≤ 9223372036854775807) :
    Calls Try.prog 9 #[.slice A n c] w fun e w' => ∃ (bA : Option Addr) (bc : Nat) (gA : Option Addr) (gc : Nat) (bs : List Bat) (gs : List Gen), e = .returned (.agg #[.slice bA bs.length bc, .slice gA gs.length gc]) ∧ Below w.heap.size w w' ∧ w'.ownsRow w.heap.size 34 4 (.slice bA bs.length bc) bs.length (bs.flatMap Bat.enc) ∧ w'.ownsRow w.heap.size 66 5 (.slice gA gs.length gc) gs.length (gs.flatMap Gen.enc) ∧ bs.length ≤ 4 ∧ gs.length ≤ 3 ∧ (∀ b ∈ bs, MdBat b) ∧ ∀ g ∈ gs, MdGen g := by
  have HL := Lib.hid hl
  have HU := Lib.hid hu
  obtain ⟨i0, hi0, hi1, hi2, hi3⟩ := info_parts batInfo
  have hi := Lib.hid (And.intro hi0 (And.intro hi1 (And.intro hi2 hi3)))
  obtain ⟨j0, hj0, hj1, hj2, hj3⟩ := info_parts genInfo
  have hj := Lib.hid (And.intro hj0 (And.intro hj1 (And.intro hj2 hj3)))
  clear hl hu hi0 hi1 hi2 hi3 hj0 hj1 hj2 hj3
  go_enter Try.func9, Try.ntmps9
  go_wp2
  go_loopw [4] (fun i wr => ∃ q : Nat, q ≤ 7 ∧ i = .int .i64 ((5 * q : Nat) : Int) ∧ ∃ cv ev, Hid (MdS w q cv ev wr)) (fun i _ => 35 - (intOf i).toNat)
  case atStart =>
    refine ⟨0, by omega, rfl, _, _, Lib.hid ⟨⟨by (repeat' (first | (with_reducible exact Below.refl _ _) | (with_reducible assumption) | (with_reducible refine below_drewN ?_ _) | (with_reducible refine below_after (by assumption) ?_ ?_) | (with_reducible refine Below.drew ?_) | (with_reducible refine Below.alloc ?_ ?_ _) | (with_reducible refine Below.setCell ?_ ?_ _) | omega | (simp; omega) | (simp; done))), by simp, Blk.alloc (heap_alloc_new w _) _, ?_⟩, [], [], ⟨rfl, rfl⟩, fun b h => by simp at h, fun b h => by simp at h, World.ownsRow_nil _ _ _ _, World.ownsRow_nil _ _ _ _⟩⟩
    have h := heap_alloc_new (w.alloc (.cells #[.slice none 0 0, .slice none 0 0] 26)) (.cells #[.slice none 0 0, .slice none 0 0] 26)
    rw [World.size_alloc] at h
    exact h
  case round =>
    obtain ⟨q, hq, rfl, cv, ev, HS⟩ := hrel
    have hz0 := HS.out.1.low.size
    have hz2 := HS.out.1.hz
    by_cases hlt : 5 * q + 4 < n ∧ 5 * q < 35
    · obtain ⟨lb, lo, a0, e1, hlb, hx0, hc0⟩ := HL.out.at_ (show 5 * q < n by omega)
      have at1 : ∀ i, 5 * q + i < n → ∃ x, l[5 * q + i]? = some x ∧ w.cell? ⟨lb, lo + (5 * q + i), none⟩ = some (.int .u8 x) := fun i h => by
        obtain ⟨lb2, lo2, y, e2, _, hy, hcy⟩ := HL.out.at_ h
        rw [e1] at e2
        obtain ⟨rfl, rfl⟩ : lb = lb2 ∧ lo = lo2 := by simpa using e2
        exact ⟨y, hy, cellU hcy⟩
      obtain ⟨a1, hx1, hc1⟩ := at1 1 (by omega)
      obtain ⟨a2, hx2, hc2⟩ := at1 2 (by omega)
      obtain ⟨a3, hx3, hc3⟩ := at1 3 (by omega)
      obtain ⟨a4, hx4, hc4⟩ := at1 4 (by omega)
      have b0 := HU.out.at_ hx0
      have b1 := HU.out.at_ hx1
      have b2 := HU.out.at_ hx2
      have b3 := HU.out.at_ hx3
      have b4 := HU.out.at_ hx4
      have A0 := Lib.hid (cellU hc0)
      have A1 := Lib.hid hc1
      have A2 := Lib.hid hc2
      have A3 := Lib.hid hc3
      have A4 := Lib.hid hc4
      clear hx0 hx1 hx2 hx3 hx4 hc0 hc1 hc2 hc3 hc4 at1
      obtain ⟨j, hjq⟩ : ∃ j, j = 5 * q := ⟨_, rfl⟩
      rw [← hjq] at hlt A0 A1 A2 A3 A4 ⊢
      have HJ := Lib.hid (And.intro hjq hlt)
      have d1 : decide ((j : Int) + 4 < (n : Int)) = true := decide_eq_true (by omega)
      have d2 : decide ((j : Int) < 35) = true := decide_eq_true (by omega)
      have s1 : IntKind.i64.wrap ((j : Int) + 1) = (j : Int) + 1 := IntWalk.i64_in _ (by omega)
      have s2 : IntKind.i64.wrap ((j : Int) + 2) = (j : Int) + 2 := IntWalk.i64_in _ (by omega)
      have s3 : IntKind.i64.wrap ((j : Int) + 3) = (j : Int) + 3 := IntWalk.i64_in _ (by omega)
      have s4 : IntKind.i64.wrap ((j : Int) + 4) = (j : Int) + 4 := IntWalk.i64_in _ (by omega)
      have t1 : ((j : Int) + 1).toNat = j + 1 := by omega
      have t2 : ((j : Int) + 2).toNat = j + 2 := by omega
      have t3 : ((j : Int) + 3).toNat = j + 3 := by omega
      have t4 : ((j : Int) + 4).toNat = j + 4 := by omega
      have n0 : (0 : Int) ≤ (j : Int) := by omega
      have n1 : (0 : Int) ≤ (j : Int) + 1 := by omega
      have n2 : (0 : Int) ≤ (j : Int) + 2 := by omega
      have n3 : (0 : Int) ≤ (j : Int) + 3 := by omega
      have n4 : (0 : Int) ≤ (j : Int) + 4 := by omega
      have m0 : (j : Int) < (n : Int) := by omega
      have m1 : (j : Int) + 1 < (n : Int) := by omega
      have m2 : (j : Int) + 2 < (n : Int) := by omega
      have m3 : (j : Int) + 3 < (n : Int) := by omega
      have m4 : (j : Int) + 4 < (n : Int) := by omega
      have u0 : IntKind.i64.wrap a0 = a0 := IntWalk.i64_in _ (by omega)
      have u1 : IntKind.i64.wrap a1 = a1 := IntWalk.i64_in _ (by omega)
      have u2 : IntKind.i64.wrap a2 = a2 := IntWalk.i64_in _ (by omega)
      obtain ⟨HE0, bs, gs, hl0, hbs, hgs, hrb, hrg⟩ := HS.out
      have HE := Lib.hid HE0
      subst e1
      have zlb : lb < wr.heap.size := by omega
      have y0 : wr.cell? ⟨lb, lo + j, none⟩ = some (.int .u8 a0) := (HE0.low.cell (p := ⟨lb, lo + j, none⟩) hlb).trans A0.out
      by_cases hpar : q % 2 = 0
      · have hp : (j : Int).tmod 2 = 0 := by rw [Int.tmod_eq_emod_of_nonneg n0]; omega
        obtain ⟨full, hfull⟩ : ∃ z, z = 40 * a0 := ⟨_, rfl⟩
        have wf : IntKind.i64.wrap (40 * a0) = full := by rw [hfull]; exact IntWalk.i64_in _ (by omega)
        have hen := md_en (f := full) (a := a1) (by omega) b1.1 b1.2
        obtain ⟨m, hm⟩ : ∃ z, z = full * a1 := ⟨_, rfl⟩
        have wm : IntKind.i64.wrap (full * a1) = m := by rw [hm]; exact IntWalk.i64_in _ (by omega)
        have hbat : MdBat ⟨m.tdiv 255, full, a2, a3.tmod 40⟩ := by rw [hm]; exact MdBat.mk_ (by omega) (by omega) b1 b2 b3
        rw [← hm] at hen
        obtain ⟨en, he⟩ : ∃ z, z = m.tdiv 255 := ⟨_, rfl⟩
        have wq : IntKind.i64.wrap (m.tdiv 255) = en := by rw [he]; exact IntWalk.i64_in _ (by omega)
        rw [← he] at hbat
        have k3 := tmod_bd (n := 40) b3.1 (by omega)
        have w3 : IntKind.i64.wrap (a3.tmod 40) = a3.tmod 40 := IntWalk.i64_in _ (by omega)
        have HEN := Lib.hid he
        obtain ⟨k, hk⟩ : ∃ z, z = bs.length := ⟨_, rfl⟩
        obtain ⟨xs, hxs⟩ : ∃ z, z = bs.flatMap Bat.enc := ⟨_, rfl⟩
        obtain ⟨ng, hng⟩ : ∃ z, z = gs.length := ⟨_, rfl⟩
        obtain ⟨ys, hys⟩ : ∃ z, z = gs.flatMap Gen.enc := ⟨_, rfl⟩
        have HLN : Hid ((bs ++ [(⟨en, full, a2, a3.tmod 40⟩ : Bat)]).length = (q + 1 + 1) / 2 ∧ gs.length = (q + 1) / 2) := Lib.hid ⟨by simp; omega, by omega⟩
        have HLN1 : Hid ((bs ++ [(⟨en, full, a2, a3.tmod 40⟩ : Bat)]).length = k + 1) := Lib.hid (by simp [hk])
        have HLB : Hid (∀ b ∈ bs ++ [(⟨en, full, a2, a3.tmod 40⟩ : Bat)], MdBat b) := Lib.hid (all_snoc hbs hbat)
        have HLG := Lib.hid hgs
        have HXS : Hid (xs ++ [.int .i64 en, .int .i64 full, .int .i64 a2, .int .i64 (a3.tmod 40)] = (bs ++ [(⟨en, full, a2, a3.tmod 40⟩ : Bat)]).flatMap Bat.enc) := Lib.hid (by rw [hxs]; simp [Bat.enc])
        have HNG : Hid (gs.length = ng) := Lib.hid hng.symm
        have HYS : Hid (gs.flatMap Gen.enc = ys) := Lib.hid hys.symm
        rw [← hk, ← hxs] at hrb
        rw [← hng, ← hys] at hrg
        obtain ⟨cA, cc, heq⟩ := row_slice hrb
        subst heq
        have hA0 : MdF w (.slice cA k cc) ev 66 5 ev ng ys wr.drew ∧ wr.drew.ownsRow (w.heap.size + 2) 34 4 (.slice cA k cc) k xs := ⟨MdF.next (W := wr) ⟨HE0, hrg⟩ (Below.refl _ _).drew, hrb⟩
        have hk8 : k ≤ 8 := by omega
        clear HE0 hl0 hbs hgs hrb hrg hbat hen hk hxs hng hys he hm hfull HS HL HU hjq hlt hq hpar b0 b1 b2 b3 b4
        go_wp2
        refine wp_region_free10 29 (by kernel_rfl) [some 26, some 27, some 28, some 29, some 30, some 31, some 32, some 33, some 34, some 35, some 36, some 37, some 38, some 39, some 40, some 41, some 42, some 43, some 44, some 45, some 46, some 47, some 48, some 49, some 50, some 51, some 52, some 53, some 54, none] [[], [0], [], [], [], [4], [3, 5], [6], [7], [2, 8], [9], [], [], [], [13], [12, 14], [15], [16], [], [], [19], [18, 20], [21], [22], [23], [10, 11, 17, 24], [25], [1, 26], [0, 1, 2, 3, 4, 5, 6, 7, 8, 9, 10, 11, 12, 13, 14, 15, 16, 17, 18, 19, 20, 21, 22, 23, 24, 25, 26, 27], [28, 27, 27, 0, 1, 2, 3, 4, 5, 6, 7, 8, 9, 10, 11, 12, 13, 14, 15, 16, 17, 18, 19, 20, 21, 22, 23, 24, 25, 26, 27]] [(0, .slice (some ⟨lb, lo, none⟩) n c), (3, .pointer (some ⟨w.heap.size + 1, 0, none⟩)), (4, .int .i64 j), (5, .int .i64 full)] (PhR (fun W => (MdF w (.slice cA k cc) ev 66 5 ev ng ys) W ∧ W.ownsRow (w.heap.size + 2) 34 4 (.slice cA k cc) (k) (xs)) (MdF w (.slice cA k cc) ev 66 5 ev ng ys) (MdG0 w ev 34 4 (k + 1) (xs ++ [.int .i64 en, .int .i64 full, .int .i64 a2, .int .i64 (a3.tmod 40)]) 66 5 ev ng ys)) (mdPhi7 w.heap.size lb lo n c j k cA cc full m en a1 a2 a3 xs) (phPsi 27) (by kernel_rfl) (by kernel_rfl) rfl (by kernel_rfl) ?_ ?_ ⟨fun _ => 0, PhR.begin hA0, fun i _ => phPsi_0⟩ ?_ ?_
        · intro z hz
          simp only [List.mem_cons, List.mem_nil_iff, or_false] at hz
          rcases hz with rfl | rfl | rfl | rfl
          all_goals exact ⟨by kernel_rfl, rfl⟩
        · intro i v W γ hi h
          rcases i with _ | _ | _ | _ | _ | _ | _ | _ | _ | _ | _ | _ | _ | _ | _ | _ | _ | _ | _ | _ | _ | _ | _ | _ | _ | _ | _ | _ | _ | _ | i
          all_goals first | exact h | (simp at hi)
        · refine ⟨?_, ?_, ?_, ?_, ?_, ?_, ?_, ?_, ?_, ?_, ?_, ?_, ?_, ?_, ?_, ?_, ?_, ?_, ?_, ?_, ?_, ?_, ?_, ?_, ?_, ?_, ?_, ?_, ?_, ?_, trivial⟩
          all_goals
            intro a W γ evv hcc hff hfx hR hψ hpre
            simp only [List.mem_cons, List.mem_nil_iff, or_false, forall_eq, forall_eq_or_imp] at hfx
            obtain ⟨f0, f1, f2, f3⟩ := hfx
            have HR := Lib.hid hR
            clear hR
            refine ⟨fun _ K hK => ?_, trivial⟩

          · clear hpre hψ
            go_simp
            exact hK _ _ γ HR.out (fun _ _ _ _ h => h) (fun _ _ _ h => h) rfl
          · have q0 : evv (.tmp 26) = _ := hpre 0 (by decide)
            have HF := ap_F HR.out (hψ.2 (by decide))
            have HF := ap_F HR.out (hψ.2 (by decide))
            have hc1 : W.cell? ⟨w.heap.size + 1, 0, none⟩ = some (.slice cA k cc) := HF.e.bnk.cell 0
            have hzz := HF.e.bnk.lt
            clear HF
            clear hpre hψ
            go_simp
            exact hK _ _ γ HR.out (fun _ _ _ _ h => h) (fun _ _ _ h => h) rfl
          · clear hpre hψ
            go_simp
            exact hK _ _ γ HR.out (fun _ _ _ _ h => h) (fun _ _ _ h => h) rfl
          · clear hpre hψ
            go_simp
            exact hK _ _ γ HR.out (fun _ _ _ _ h => h) (fun _ _ _ h => h) rfl
          · clear hpre hψ
            go_simp
            exact hK _ _ γ HR.out (fun _ _ _ _ h => h) (fun _ _ _ h => h) rfl
          · have q0 : evv (.tmp 30) = _ := hpre 4 (by decide)
            clear hpre hψ
            go_simp
            exact hK _ _ γ HR.out (fun _ _ _ _ h => h) (fun _ _ _ h => h) rfl
          · have q0 : evv (.tmp 29) = _ := hpre 3 (by decide)
            have q1 : evv (.tmp 31) = _ := hpre 5 (by decide)
            clear hpre hψ
            go_simp
            exact hK _ _ γ HR.out (fun _ _ _ _ h => h) (fun _ _ _ h => h) rfl
          · have q0 : evv (.tmp 32) = _ := hpre 6 (by decide)
            have HF := ap_F HR.out (hψ.2 (by decide))
            have hf := (ap_F HR.out (hψ.2 (by decide))).e.low
            have hzz := hf.size
            have d1 : W.cell? ⟨lb, lo + (j + 1), none⟩ = some (.int .u8 a1) := (hf.cell (p := ⟨lb, lo + (j + 1), none⟩) hlb).trans (A1.out)
            have hzf : lb < W.heap.size := by omega
            clear hf
            clear hpre hψ
            go_simp
            exact hK _ _ γ HR.out (fun _ _ _ _ h => h) (fun _ _ _ h => h) rfl
          · have q0 : evv (.tmp 33) = _ := hpre 7 (by decide)
            clear hpre hψ
            go_simp
            exact hK _ _ γ HR.out (fun _ _ _ _ h => h) (fun _ _ _ h => h) rfl
          · have q0 : evv (.tmp 28) = _ := hpre 2 (by decide)
            have q1 : evv (.tmp 34) = _ := hpre 8 (by decide)
            clear hpre hψ
            go_simp
            exact hK _ _ γ HR.out (fun _ _ _ _ h => h) (fun _ _ _ h => h) rfl
          · have q0 : evv (.tmp 35) = _ := hpre 9 (by decide)
            clear hpre hψ
            go_simp
            exact hK _ _ γ HR.out (fun _ _ _ _ h => h) (fun _ _ _ h => h) rfl
          · clear hpre hψ
            go_simp
            exact hK _ _ γ HR.out (fun _ _ _ _ h => h) (fun _ _ _ h => h) rfl
          · clear hpre hψ
            go_simp
            exact hK _ _ γ HR.out (fun _ _ _ _ h => h) (fun _ _ _ h => h) rfl
          · clear hpre hψ
            go_simp
            exact hK _ _ γ HR.out (fun _ _ _ _ h => h) (fun _ _ _ h => h) rfl
          · have q0 : evv (.tmp 39) = _ := hpre 13 (by decide)
            clear hpre hψ
            go_simp
            exact hK _ _ γ HR.out (fun _ _ _ _ h => h) (fun _ _ _ h => h) rfl
          · have q0 : evv (.tmp 38) = _ := hpre 12 (by decide)
            have q1 : evv (.tmp 40) = _ := hpre 14 (by decide)
            clear hpre hψ
            go_simp
            exact hK _ _ γ HR.out (fun _ _ _ _ h => h) (fun _ _ _ h => h) rfl
          · have q0 : evv (.tmp 41) = _ := hpre 15 (by decide)
            have HF := ap_F HR.out (hψ.2 (by decide))
            have hf := (ap_F HR.out (hψ.2 (by decide))).e.low
            have hzz := hf.size
            have d2 : W.cell? ⟨lb, lo + (j + 2), none⟩ = some (.int .u8 a2) := (hf.cell (p := ⟨lb, lo + (j + 2), none⟩) hlb).trans (A2.out)
            have hzf : lb < W.heap.size := by omega
            clear hf
            clear hpre hψ
            go_simp
            exact hK _ _ γ HR.out (fun _ _ _ _ h => h) (fun _ _ _ h => h) rfl
          · have q0 : evv (.tmp 42) = _ := hpre 16 (by decide)
            clear hpre hψ
            go_simp
            exact hK _ _ γ HR.out (fun _ _ _ _ h => h) (fun _ _ _ h => h) rfl
          · clear hpre hψ
            go_simp
            exact hK _ _ γ HR.out (fun _ _ _ _ h => h) (fun _ _ _ h => h) rfl
          · clear hpre hψ
            go_simp
            exact hK _ _ γ HR.out (fun _ _ _ _ h => h) (fun _ _ _ h => h) rfl
          · have q0 : evv (.tmp 45) = _ := hpre 19 (by decide)
            clear hpre hψ
            go_simp
            exact hK _ _ γ HR.out (fun _ _ _ _ h => h) (fun _ _ _ h => h) rfl
          · have q0 : evv (.tmp 44) = _ := hpre 18 (by decide)
            have q1 : evv (.tmp 46) = _ := hpre 20 (by decide)
            clear hpre hψ
            go_simp
            exact hK _ _ γ HR.out (fun _ _ _ _ h => h) (fun _ _ _ h => h) rfl
          · have q0 : evv (.tmp 47) = _ := hpre 21 (by decide)
            have HF := ap_F HR.out (hψ.2 (by decide))
            have hf := (ap_F HR.out (hψ.2 (by decide))).e.low
            have hzz := hf.size
            have d3 : W.cell? ⟨lb, lo + (j + 3), none⟩ = some (.int .u8 a3) := (hf.cell (p := ⟨lb, lo + (j + 3), none⟩) hlb).trans (A3.out)
            have hzf : lb < W.heap.size := by omega
            clear hf
            clear hpre hψ
            go_simp
            exact hK _ _ γ HR.out (fun _ _ _ _ h => h) (fun _ _ _ h => h) rfl
          · have q0 : evv (.tmp 48) = _ := hpre 22 (by decide)
            clear hpre hψ
            go_simp
            exact hK _ _ γ HR.out (fun _ _ _ _ h => h) (fun _ _ _ h => h) rfl
          · have q0 : evv (.tmp 49) = _ := hpre 23 (by decide)
            clear hpre hψ
            go_simp
            exact hK _ _ γ HR.out (fun _ _ _ _ h => h) (fun _ _ _ h => h) rfl
          · have q0 : evv (.tmp 36) = _ := hpre 10 (by decide)
            have q1 : evv (.tmp 37) = _ := hpre 11 (by decide)
            have q2 : evv (.tmp 43) = _ := hpre 17 (by decide)
            have q3 : evv (.tmp 50) = _ := hpre 24 (by decide)
            clear hpre hψ
            go_simp
            exact hK _ _ γ HR.out (fun _ _ _ _ h => h) (fun _ _ _ h => h) rfl
          · have q0 : evv (.tmp 51) = _ := hpre 25 (by decide)
            clear hpre
            go_simp
            have hB5 : Below W.heap.size W (W.alloc (.cells #[.int .i64 en, .int .i64 full, .int .i64 a2, .int .i64 (a3.tmod 40)] 34)) := (Below.refl _ _).alloc (Nat.le_refl _) _
            exact hK _ _ γ (ap_next (fun W W' h hb => MdF.next h hb) (fun W W' h k => row_next h k) (hψ.2 (by decide)) HR.out hB5) (fun j u _ _ h => mdPhi7_next hB5 h) (fun _ _ _ h => h) ⟨W.heap.size, rfl, fun h0 => ⟨heap_alloc_new W _, ap_own_lt (PhR.is0 HR.out h0).2⟩⟩
          · have q0 : evv (.tmp 27) = _ := hpre 1 (by decide)
            have hγ : γ 0 = 0 := hψ.1 rfl
            obtain ⟨B, q1, hB⟩ := hpre 26 (by decide)
            obtain ⟨hB2, hB1⟩ := hB hγ
            replace q1 : evv (.tmp 52) = _ := q1
            have h0 := PhR.is0 HR.out hγ
            have hrow := h0.2
            obtain ⟨v', W', hr, h2, h3, _, _⟩ := run_append_own_at (P := Try.prog) W (w.heap.size + 2) 23 23 34 i0 (.agg #[.int .i64 0, .int .i64 0, .int .i64 0, .int .i64 0]) 4 32 Try.underlying23 hi.out.1 hi.out.2.1 hi.out.2.2.1 hi.out.2.2.2 rfl (by decide) (.slice cA k cc) (k) (xs) hrow ⟨B, 0, none⟩ 1 1 ([.int .i64 en, .int .i64 full, .int .i64 a2, .int .i64 (a3.tmod 40)]) rfl (fun j u hj => by
              rw [add0, Blk.cell hB2]
              simpa using hj) (by intro u hu; simp only [List.mem_cons, List.mem_nil_iff, or_false] at hu; rcases hu with rfl | rfl | rfl | rfl <;> rfl) (by simp only [maxLen]; omega) (by omega) ((fun W h => MdE.hz (MdF.e h)) _ h0.1)
            unfold execOp
            simp only [resolve, invoke, builtin, Sem.run_bind, Sem.run_pure, Result.andThen_ok, List.map_toArray, List.map_cons, List.map_nil, q0, q1, hr]
            obtain ⟨g', c', e'⟩ := ownsRow_succ h2
            subst e'
            refine hK _ W' (fun _ => 1) (PhR.to1 ((fun W W' h hr hg => MdF.grown h hr hg (by decide) (by decide)) _ _ h0.1 hrow h3)) (fun j u hj hne h => mdPhi7_1 hγ hne h) (fun _ j h1 h2 => phPsi_1 h1) ⟨g', c', rfl, by decide, Or.inr h2⟩
          · clear hpre hψ
            go_simp
            exact hK _ _ γ HR.out (fun _ _ _ _ h => h) (fun _ _ _ h => h) rfl
          · have q0 : evv (.tmp 54) = _ := hpre 28 (by decide)
            obtain ⟨g', c', q1, hne, hrow⟩ := hpre 27 (by decide)
            replace q1 : evv (.tmp 53) = _ := q1
            have h1 := PhR.is1 HR.out (hψ.2 (by decide)) hne
            have hrow : W.ownsRow (w.heap.size + 2) 34 4 (.slice (some ⟨g', 0, none⟩) (k + 1) c') (k + 1) (xs ++ [.int .i64 en, .int .i64 full, .int .i64 a2, .int .i64 (a3.tmod 40)]) := by
              rcases hrow with h | h
              · rw [h1.1] at h; cases h
              · exact h
            have HF := h1.2
            have hfin : MdG0 w ev 34 4 (k + 1) (xs ++ [.int .i64 en, .int .i64 full, .int .i64 a2, .int .i64 (a3.tmod 40)]) 66 5 ev ng ys (W.setCell ⟨w.heap.size + 1, 0, none⟩ (.slice (some ⟨g', 0, none⟩) (k + 1) c')) := ⟨g', c', HF.store0 hrow (by decide) (by decide)⟩
            have d1 : W.cell? ⟨w.heap.size + 1, 0, none⟩ = some (.slice cA k cc) := HF.e.bnk.cell 0
            have fz := HF.e.bnk.frozen 0
            have hzz := HF.e.bnk.lt
            clear HF
            go_simp
            refine hK undef _ (fun _ => 2) (PhR.to2 hfin) (fun j u h1 h2 h3 => mdPhi7_2 h2 h3) (fun h => absurd rfl h) rfl
        · intro vs w' γ hvl hR hφ
          have qe : γ 0 = 2 := hφ 29 (by decide)
          have HR := Lib.hid hR
          clear hφ hR
          match vs, hvl with
          | [y0, y1, y2, y3, y4, y5, y6, y7, y8, y9, y10, y11, y12, y13, y14, y15, y16, y17, y18, y19, y20, y21, y22, y23, y24, y25, y26, y27, y28, y29], _ =>
          obtain ⟨gE, cE, hC⟩ := PhR.is2 HR.out qe
          have HCC := Lib.hid hC
          clear hC qe HR
          simp [putAll]
          go_wp2
          go_roundw
          case rel => exact ⟨q + 1, by have := HJ.out; omega, (by have := HJ.out; go_num), _, _, Lib.hid ⟨HCC.out.1.e, bs ++ [(⟨en, full, a2, a3.tmod 40⟩ : Bat)], gs, HLN.out, HLB.out, HLG.out, (by rw [HLN1.out, ← HXS.out]; exact HCC.out.2), (by rw [HNG.out, HYS.out]; exact HCC.out.1.oth)⟩⟩
          case measure => simp [intOf]; have := HJ.out; omega
      · have hp : (j : Int).tmod 2 = 1 := by rw [Int.tmod_eq_emod_of_nonneg n0]; omega
        have hgen := MdGen.mk_ b0 b1 b2 b3 b4
        have k1 := tmod_bd (n := 60) b1.1 (by omega)
        have k2 := tmod_bd (n := 30) b2.1 (by omega)
        have k3 := tmod_bd (n := 20) b3.1 (by omega)
        have k4 := tmod_bd (n := 4) b4.1 (by omega)
        obtain ⟨r, hr⟩ : ∃ z, z = 1 + a1.tmod 60 := ⟨_, rfl⟩
        obtain ⟨t, ht⟩ : ∃ z, z = 1 + a4.tmod 4 := ⟨_, rfl⟩
        have w1 : IntKind.i64.wrap (a1.tmod 60) = a1.tmod 60 := IntWalk.i64_in _ (by omega)
        have w2 : IntKind.i64.wrap (a2.tmod 30) = a2.tmod 30 := IntWalk.i64_in _ (by omega)
        have w3 : IntKind.i64.wrap (a3.tmod 20) = a3.tmod 20 := IntWalk.i64_in _ (by omega)
        have w4 : IntKind.i64.wrap (a4.tmod 4) = a4.tmod 4 := IntWalk.i64_in _ (by omega)
        have w5 : IntKind.i64.wrap (1 + a1.tmod 60) = r := by rw [hr]; exact IntWalk.i64_in _ (by omega)
        have w6 : IntKind.i64.wrap (1 + a4.tmod 4) = t := by rw [ht]; exact IntWalk.i64_in _ (by omega)
        rw [← hr, ← ht] at hgen
        obtain ⟨k, hk⟩ : ∃ z, z = gs.length := ⟨_, rfl⟩
        obtain ⟨xs, hxs⟩ : ∃ z, z = gs.flatMap Gen.enc := ⟨_, rfl⟩
        obtain ⟨nb, hnb⟩ : ∃ z, z = bs.length := ⟨_, rfl⟩
        obtain ⟨ys, hys⟩ : ∃ z, z = bs.flatMap Bat.enc := ⟨_, rfl⟩
        have HLN : Hid (bs.length = (q + 1 + 1) / 2 ∧ (gs ++ [(⟨a0, r, a2.tmod 30, a3.tmod 20, t⟩ : Gen)]).length = (q + 1) / 2) := Lib.hid ⟨by omega, by simp; omega⟩
        have HLN1 : Hid ((gs ++ [(⟨a0, r, a2.tmod 30, a3.tmod 20, t⟩ : Gen)]).length = k + 1) := Lib.hid (by simp [hk])
        have HLG : Hid (∀ g ∈ gs ++ [(⟨a0, r, a2.tmod 30, a3.tmod 20, t⟩ : Gen)], MdGen g) := Lib.hid (all_snoc hgs hgen)
        have HLB := Lib.hid hbs
        have HXS : Hid (xs ++ [.int .i64 a0, .int .i64 r, .int .i64 (a2.tmod 30), .int .i64 (a3.tmod 20), .int .i64 t] = (gs ++ [(⟨a0, r, a2.tmod 30, a3.tmod 20, t⟩ : Gen)]).flatMap Gen.enc) := Lib.hid (by rw [hxs]; simp [Gen.enc])
        have HNB : Hid (bs.length = nb) := Lib.hid hnb.symm
        have HYS : Hid (bs.flatMap Bat.enc = ys) := Lib.hid hys.symm
        rw [← hk, ← hxs] at hrg
        rw [← hnb, ← hys] at hrb
        obtain ⟨eA, cc, heq⟩ := row_slice hrg
        subst heq
        have hA0 : MdF w cv (.slice eA k cc) 34 4 cv nb ys wr.drew ∧ wr.drew.ownsRow (w.heap.size + 2) 66 5 (.slice eA k cc) k xs := ⟨MdF.next (W := wr) ⟨HE0, hrb⟩ (Below.refl _ _).drew, hrg⟩
        have hk8 : k ≤ 8 := by omega
        clear HE0 hl0 hbs hgs hrb hrg hgen hk hxs hnb hys hr ht HS HL HU hjq hlt hq hpar b0 b1 b2 b3 b4
        go_wp2
        refine wp_region_free10 41 (by kernel_rfl) [some 55, some 56, some 57, some 58, some 59, some 60, some 61, some 62, some 63, some 64, some 65, some 66, some 67, some 68, some 69, some 70, some 71, some 72, some 73, some 74, some 75, some 76, some 77, some 78, some 79, some 80, some 81, some 82, some 83, some 84, some 85, some 86, some 87, some 88, some 89, some 90, some 91, some 92, some 93, some 94, some 95, none] [[], [0], [], [], [2, 3], [4], [5], [], [], [8], [7, 9], [10], [11], [12], [13], [], [], [16], [15, 17], [18], [19], [20], [], [], [23], [22, 24], [25], [26], [27], [], [], [30], [29, 31], [32], [33], [34], [35], [6, 14, 21, 28, 36], [37], [1, 38], [0, 1, 2, 3, 4, 5, 6, 7, 8, 9, 10, 11, 12, 13, 14, 15, 16, 17, 18, 19, 20, 21, 22, 23, 24, 25, 26, 27, 28, 29, 30, 31, 32, 33, 34, 35, 36, 37, 38, 39], [40, 39, 39, 0, 1, 2, 3, 4, 5, 6, 7, 8, 9, 10, 11, 12, 13, 14, 15, 16, 17, 18, 19, 20, 21, 22, 23, 24, 25, 26, 27, 28, 29, 30, 31, 32, 33, 34, 35, 36, 37, 38, 39]] [(0, .slice (some ⟨lb, lo, none⟩) n c), (3, .pointer (some ⟨w.heap.size + 1, 0, none⟩)), (4, .int .i64 j)] (PhR (fun W => (MdF w cv (.slice eA k cc) 34 4 cv nb ys) W ∧ W.ownsRow (w.heap.size + 2) 66 5 (.slice eA k cc) (k) (xs)) (MdF w cv (.slice eA k cc) 34 4 cv nb ys) (MdG1 w cv 66 5 (k + 1) (xs ++ [.int .i64 a0, .int .i64 r, .int .i64 (a2.tmod 30), .int .i64 (a3.tmod 20), .int .i64 t]) 34 4 cv nb ys)) (mdPhi8 w.heap.size lb lo n c j k eA cc r t a0 a1 a2 a3 a4 xs) (phPsi 39) (by kernel_rfl) (by kernel_rfl) rfl (by kernel_rfl) ?_ ?_ ⟨fun _ => 0, PhR.begin hA0, fun i _ => phPsi_0⟩ ?_ ?_
        · intro z hz
          simp only [List.mem_cons, List.mem_nil_iff, or_false] at hz
          rcases hz with rfl | rfl | rfl
          all_goals exact ⟨by kernel_rfl, rfl⟩
        · intro i v W γ hi h
          rcases i with _ | _ | _ | _ | _ | _ | _ | _ | _ | _ | _ | _ | _ | _ | _ | _ | _ | _ | _ | _ | _ | _ | _ | _ | _ | _ | _ | _ | _ | _ | _ | _ | _ | _ | _ | _ | _ | _ | _ | _ | _ | _ | i
          all_goals first | exact h | (simp at hi)
        · refine ⟨?_, ?_, ?_, ?_, ?_, ?_, ?_, ?_, ?_, ?_, ?_, ?_, ?_, ?_, ?_, ?_, ?_, ?_, ?_, ?_, ?_, ?_, ?_, ?_, ?_, ?_, ?_, ?_, ?_, ?_, ?_, ?_, ?_, ?_, ?_, ?_, ?_, ?_, ?_, ?_, ?_, ?_, trivial⟩
          all_goals
            intro a W γ evv hcc hff hfx hR hψ hpre
            simp only [List.mem_cons, List.mem_nil_iff, or_false, forall_eq, forall_eq_or_imp] at hfx
            obtain ⟨f0, f1, f2⟩ := hfx
            have HR := Lib.hid hR
            clear hR
            refine ⟨fun _ K hK => ?_, trivial⟩

          · clear hpre hψ
            go_simp
            exact hK _ _ γ HR.out (fun _ _ _ _ h => h) (fun _ _ _ h => h) rfl
          · have q0 : evv (.tmp 55) = _ := hpre 0 (by decide)
            have HF := ap_F HR.out (hψ.2 (by decide))
            have HF := ap_F HR.out (hψ.2 (by decide))
            have hc1 : W.cell? ⟨w.heap.size + 1, 1, none⟩ = some (.slice eA k cc) := HF.e.bnk.cell 1
            have hzz := HF.e.bnk.lt
            clear HF
            clear hpre hψ
            go_simp
            exact hK _ _ γ HR.out (fun _ _ _ _ h => h) (fun _ _ _ h => h) rfl
          · clear hpre hψ
            go_simp
            exact hK _ _ γ HR.out (fun _ _ _ _ h => h) (fun _ _ _ h => h) rfl
          · clear hpre hψ
            go_simp
            exact hK _ _ γ HR.out (fun _ _ _ _ h => h) (fun _ _ _ h => h) rfl
          · have q0 : evv (.tmp 57) = _ := hpre 2 (by decide)
            have q1 : evv (.tmp 58) = _ := hpre 3 (by decide)
            clear hpre hψ
            go_simp
            exact hK _ _ γ HR.out (fun _ _ _ _ h => h) (fun _ _ _ h => h) rfl
          · have q0 : evv (.tmp 59) = _ := hpre 4 (by decide)
            have HF := ap_F HR.out (hψ.2 (by decide))
            have hf := (ap_F HR.out (hψ.2 (by decide))).e.low
            have hzz := hf.size
            have d0 : W.cell? ⟨lb, lo + j, none⟩ = some (.int .u8 a0) := (hf.cell (p := ⟨lb, lo + j, none⟩) hlb).trans (A0.out)
            have hzf : lb < W.heap.size := by omega
            clear hf
            clear hpre hψ
            go_simp
            exact hK _ _ γ HR.out (fun _ _ _ _ h => h) (fun _ _ _ h => h) rfl
          · have q0 : evv (.tmp 60) = _ := hpre 5 (by decide)
            clear hpre hψ
            go_simp
            exact hK _ _ γ HR.out (fun _ _ _ _ h => h) (fun _ _ _ h => h) rfl
          · clear hpre hψ
            go_simp
            exact hK _ _ γ HR.out (fun _ _ _ _ h => h) (fun _ _ _ h => h) rfl
          · clear hpre hψ
            go_simp
            exact hK _ _ γ HR.out (fun _ _ _ _ h => h) (fun _ _ _ h => h) rfl
          · have q0 : evv (.tmp 63) = _ := hpre 8 (by decide)
            clear hpre hψ
            go_simp
            exact hK _ _ γ HR.out (fun _ _ _ _ h => h) (fun _ _ _ h => h) rfl
          · have q0 : evv (.tmp 62) = _ := hpre 7 (by decide)
            have q1 : evv (.tmp 64) = _ := hpre 9 (by decide)
            clear hpre hψ
            go_simp
            exact hK _ _ γ HR.out (fun _ _ _ _ h => h) (fun _ _ _ h => h) rfl
          · have q0 : evv (.tmp 65) = _ := hpre 10 (by decide)
            have HF := ap_F HR.out (hψ.2 (by decide))
            have hf := (ap_F HR.out (hψ.2 (by decide))).e.low
            have hzz := hf.size
            have d1 : W.cell? ⟨lb, lo + (j + 1), none⟩ = some (.int .u8 a1) := (hf.cell (p := ⟨lb, lo + (j + 1), none⟩) hlb).trans (A1.out)
            have hzf : lb < W.heap.size := by omega
            clear hf
            clear hpre hψ
            go_simp
            exact hK _ _ γ HR.out (fun _ _ _ _ h => h) (fun _ _ _ h => h) rfl
          · have q0 : evv (.tmp 66) = _ := hpre 11 (by decide)
            clear hpre hψ
            go_simp
            exact hK _ _ γ HR.out (fun _ _ _ _ h => h) (fun _ _ _ h => h) rfl
          · have q0 : evv (.tmp 67) = _ := hpre 12 (by decide)
            clear hpre hψ
            go_simp
            exact hK _ _ γ HR.out (fun _ _ _ _ h => h) (fun _ _ _ h => h) rfl
          · have q0 : evv (.tmp 68) = _ := hpre 13 (by decide)
            clear hpre hψ
            go_simp
            exact hK _ _ γ HR.out (fun _ _ _ _ h => h) (fun _ _ _ h => h) rfl
          · clear hpre hψ
            go_simp
            exact hK _ _ γ HR.out (fun _ _ _ _ h => h) (fun _ _ _ h => h) rfl
          · clear hpre hψ
            go_simp
            exact hK _ _ γ HR.out (fun _ _ _ _ h => h) (fun _ _ _ h => h) rfl
          · have q0 : evv (.tmp 71) = _ := hpre 16 (by decide)
            clear hpre hψ
            go_simp
            exact hK _ _ γ HR.out (fun _ _ _ _ h => h) (fun _ _ _ h => h) rfl
          · have q0 : evv (.tmp 70) = _ := hpre 15 (by decide)
            have q1 : evv (.tmp 72) = _ := hpre 17 (by decide)
            clear hpre hψ
            go_simp
            exact hK _ _ γ HR.out (fun _ _ _ _ h => h) (fun _ _ _ h => h) rfl
          · have q0 : evv (.tmp 73) = _ := hpre 18 (by decide)
            have HF := ap_F HR.out (hψ.2 (by decide))
            have hf := (ap_F HR.out (hψ.2 (by decide))).e.low
            have hzz := hf.size
            have d2 : W.cell? ⟨lb, lo + (j + 2), none⟩ = some (.int .u8 a2) := (hf.cell (p := ⟨lb, lo + (j + 2), none⟩) hlb).trans (A2.out)
            have hzf : lb < W.heap.size := by omega
            clear hf
            clear hpre hψ
            go_simp
            exact hK _ _ γ HR.out (fun _ _ _ _ h => h) (fun _ _ _ h => h) rfl
          · have q0 : evv (.tmp 74) = _ := hpre 19 (by decide)
            clear hpre hψ
            go_simp
            exact hK _ _ γ HR.out (fun _ _ _ _ h => h) (fun _ _ _ h => h) rfl
          · have q0 : evv (.tmp 75) = _ := hpre 20 (by decide)
            clear hpre hψ
            go_simp
            exact hK _ _ γ HR.out (fun _ _ _ _ h => h) (fun _ _ _ h => h) rfl
          · clear hpre hψ
            go_simp
            exact hK _ _ γ HR.out (fun _ _ _ _ h => h) (fun _ _ _ h => h) rfl
          · clear hpre hψ
            go_simp
            exact hK _ _ γ HR.out (fun _ _ _ _ h => h) (fun _ _ _ h => h) rfl
          · have q0 : evv (.tmp 78) = _ := hpre 23 (by decide)
            clear hpre hψ
            go_simp
            exact hK _ _ γ HR.out (fun _ _ _ _ h => h) (fun _ _ _ h => h) rfl
          · have q0 : evv (.tmp 77) = _ := hpre 22 (by decide)
            have q1 : evv (.tmp 79) = _ := hpre 24 (by decide)
            clear hpre hψ
            go_simp
            exact hK _ _ γ HR.out (fun _ _ _ _ h => h) (fun _ _ _ h => h) rfl
          · have q0 : evv (.tmp 80) = _ := hpre 25 (by decide)
            have HF := ap_F HR.out (hψ.2 (by decide))
            have hf := (ap_F HR.out (hψ.2 (by decide))).e.low
            have hzz := hf.size
            have d3 : W.cell? ⟨lb, lo + (j + 3), none⟩ = some (.int .u8 a3) := (hf.cell (p := ⟨lb, lo + (j + 3), none⟩) hlb).trans (A3.out)
            have hzf : lb < W.heap.size := by omega
            clear hf
            clear hpre hψ
            go_simp
            exact hK _ _ γ HR.out (fun _ _ _ _ h => h) (fun _ _ _ h => h) rfl
          · have q0 : evv (.tmp 81) = _ := hpre 26 (by decide)
            clear hpre hψ
            go_simp
            exact hK _ _ γ HR.out (fun _ _ _ _ h => h) (fun _ _ _ h => h) rfl
          · have q0 : evv (.tmp 82) = _ := hpre 27 (by decide)
            clear hpre hψ
            go_simp
            exact hK _ _ γ HR.out (fun _ _ _ _ h => h) (fun _ _ _ h => h) rfl
          · clear hpre hψ
            go_simp
            exact hK _ _ γ HR.out (fun _ _ _ _ h => h) (fun _ _ _ h => h) rfl
          · clear hpre hψ
            go_simp
            exact hK _ _ γ HR.out (fun _ _ _ _ h => h) (fun _ _ _ h => h) rfl
          · have q0 : evv (.tmp 85) = _ := hpre 30 (by decide)
            clear hpre hψ
            go_simp
            exact hK _ _ γ HR.out (fun _ _ _ _ h => h) (fun _ _ _ h => h) rfl
          · have q0 : evv (.tmp 84) = _ := hpre 29 (by decide)
            have q1 : evv (.tmp 86) = _ := hpre 31 (by decide)
            clear hpre hψ
            go_simp
            exact hK _ _ γ HR.out (fun _ _ _ _ h => h) (fun _ _ _ h => h) rfl
          · have q0 : evv (.tmp 87) = _ := hpre 32 (by decide)
            have HF := ap_F HR.out (hψ.2 (by decide))
            have hf := (ap_F HR.out (hψ.2 (by decide))).e.low
            have hzz := hf.size
            have d4 : W.cell? ⟨lb, lo + (j + 4), none⟩ = some (.int .u8 a4) := (hf.cell (p := ⟨lb, lo + (j + 4), none⟩) hlb).trans (A4.out)
            have hzf : lb < W.heap.size := by omega
            clear hf
            clear hpre hψ
            go_simp
            exact hK _ _ γ HR.out (fun _ _ _ _ h => h) (fun _ _ _ h => h) rfl
          · have q0 : evv (.tmp 88) = _ := hpre 33 (by decide)
            clear hpre hψ
            go_simp
            exact hK _ _ γ HR.out (fun _ _ _ _ h => h) (fun _ _ _ h => h) rfl
          · have q0 : evv (.tmp 89) = _ := hpre 34 (by decide)
            clear hpre hψ
            go_simp
            exact hK _ _ γ HR.out (fun _ _ _ _ h => h) (fun _ _ _ h => h) rfl
          · have q0 : evv (.tmp 90) = _ := hpre 35 (by decide)
            clear hpre hψ
            go_simp
            exact hK _ _ γ HR.out (fun _ _ _ _ h => h) (fun _ _ _ h => h) rfl
          · have q0 : evv (.tmp 61) = _ := hpre 6 (by decide)
            have q1 : evv (.tmp 69) = _ := hpre 14 (by decide)
            have q2 : evv (.tmp 76) = _ := hpre 21 (by decide)
            have q3 : evv (.tmp 83) = _ := hpre 28 (by decide)
            have q4 : evv (.tmp 91) = _ := hpre 36 (by decide)
            clear hpre hψ
            go_simp
            exact hK _ _ γ HR.out (fun _ _ _ _ h => h) (fun _ _ _ h => h) rfl
          · have q0 : evv (.tmp 92) = _ := hpre 37 (by decide)
            clear hpre
            go_simp
            have hB5 : Below W.heap.size W (W.alloc (.cells #[.int .i64 a0, .int .i64 r, .int .i64 (a2.tmod 30), .int .i64 (a3.tmod 20), .int .i64 t] 66)) := (Below.refl _ _).alloc (Nat.le_refl _) _
            exact hK _ _ γ (ap_next (fun W W' h hb => MdF.next h hb) (fun W W' h k => row_next h k) (hψ.2 (by decide)) HR.out hB5) (fun j u _ _ h => mdPhi8_next hB5 h) (fun _ _ _ h => h) ⟨W.heap.size, rfl, fun h0 => ⟨heap_alloc_new W _, ap_own_lt (PhR.is0 HR.out h0).2⟩⟩
          · have q0 : evv (.tmp 56) = _ := hpre 1 (by decide)
            have hγ : γ 0 = 0 := hψ.1 rfl
            obtain ⟨B, q1, hB⟩ := hpre 38 (by decide)
            obtain ⟨hB2, hB1⟩ := hB hγ
            replace q1 : evv (.tmp 93) = _ := q1
            have h0 := PhR.is0 HR.out hγ
            have hrow := h0.2
            obtain ⟨v', W', hr, h2, h3, _, _⟩ := run_append_own_at (P := Try.prog) W (w.heap.size + 2) 24 24 66 j0 (.agg #[.int .i64 0, .int .i64 0, .int .i64 0, .int .i64 0, .int .i64 0]) 5 40 Try.underlying24 hj.out.1 hj.out.2.1 hj.out.2.2.1 hj.out.2.2.2 rfl (by decide) (.slice eA k cc) (k) (xs) hrow ⟨B, 0, none⟩ 1 1 ([.int .i64 a0, .int .i64 r, .int .i64 (a2.tmod 30), .int .i64 (a3.tmod 20), .int .i64 t]) rfl (fun j u hj => by
              rw [add0, Blk.cell hB2]
              simpa using hj) (by intro u hu; simp only [List.mem_cons, List.mem_nil_iff, or_false] at hu; rcases hu with rfl | rfl | rfl | rfl | rfl <;> rfl) (by simp only [maxLen]; omega) (by omega) ((fun W h => MdE.hz (MdF.e h)) _ h0.1)
            unfold execOp
            simp only [resolve, invoke, builtin, Sem.run_bind, Sem.run_pure, Result.andThen_ok, List.map_toArray, List.map_cons, List.map_nil, q0, q1, hr]
            obtain ⟨g', c', e'⟩ := ownsRow_succ h2
            subst e'
            refine hK _ W' (fun _ => 1) (PhR.to1 ((fun W W' h hr hg => MdF.grown h hr hg (by decide) (by decide)) _ _ h0.1 hrow h3)) (fun j u hj hne h => mdPhi8_1 hγ hne h) (fun _ j h1 h2 => phPsi_1 h1) ⟨g', c', rfl, by decide, Or.inr h2⟩
          · clear hpre hψ
            go_simp
            exact hK _ _ γ HR.out (fun _ _ _ _ h => h) (fun _ _ _ h => h) rfl
          · have q0 : evv (.tmp 95) = _ := hpre 40 (by decide)
            obtain ⟨g', c', q1, hne, hrow⟩ := hpre 39 (by decide)
            replace q1 : evv (.tmp 94) = _ := q1
            have h1 := PhR.is1 HR.out (hψ.2 (by decide)) hne
            have hrow : W.ownsRow (w.heap.size + 2) 66 5 (.slice (some ⟨g', 0, none⟩) (k + 1) c') (k + 1) (xs ++ [.int .i64 a0, .int .i64 r, .int .i64 (a2.tmod 30), .int .i64 (a3.tmod 20), .int .i64 t]) := by
              rcases hrow with h | h
              · rw [h1.1] at h; cases h
              · exact h
            have HF := h1.2
            have hfin : MdG1 w cv 66 5 (k + 1) (xs ++ [.int .i64 a0, .int .i64 r, .int .i64 (a2.tmod 30), .int .i64 (a3.tmod 20), .int .i64 t]) 34 4 cv nb ys (W.setCell ⟨w.heap.size + 1, 1, none⟩ (.slice (some ⟨g', 0, none⟩) (k + 1) c')) := ⟨g', c', HF.store1 hrow (by decide) (by decide)⟩
            have d1 : W.cell? ⟨w.heap.size + 1, 1, none⟩ = some (.slice eA k cc) := HF.e.bnk.cell 1
            have fz := HF.e.bnk.frozen 1
            have hzz := HF.e.bnk.lt
            clear HF
            go_simp
            refine hK undef _ (fun _ => 2) (PhR.to2 hfin) (fun j u h1 h2 h3 => mdPhi8_2 h2 h3) (fun h => absurd rfl h) rfl
        · intro vs w' γ hvl hR hφ
          have qe : γ 0 = 2 := hφ 41 (by decide)
          have HR := Lib.hid hR
          clear hφ hR
          match vs, hvl with
          | y0 :: y1 :: y2 :: y3 :: y4 :: y5 :: y6 :: y7 :: y8 :: y9 :: y10 :: y11 :: y12 :: y13 :: y14 :: y15 :: y16 :: y17 :: y18 :: y19 :: y20 :: y21 :: y22 :: y23 :: y24 :: y25 :: y26 :: y27 :: y28 :: y29 :: y30 :: y31 :: y32 :: y33 :: y34 :: y35 :: y36 :: y37 :: y38 :: y39 :: y40 :: y41 :: [], _ =>
          obtain ⟨gE, cE, hC⟩ := PhR.is2 HR.out qe
          have HCC := Lib.hid hC
          clear hC qe HR
          simp [putAll]
          go_wp2
          go_roundw
          case rel => exact ⟨q + 1, by have := HJ.out; omega, (by have := HJ.out; go_num), _, _, Lib.hid ⟨HCC.out.1.e, bs, gs ++ [(⟨a0, r, a2.tmod 30, a3.tmod 20, t⟩ : Gen)], HLN.out, HLB.out, HLG.out, (by rw [HNB.out, HYS.out]; exact HCC.out.1.oth), (by rw [HLN1.out, ← HXS.out]; exact HCC.out.2)⟩⟩
          case measure => simp [intOf]; have := HJ.out; omega
    · have HJ := Lib.hid hlt
      have j4 : IntKind.i64.wrap (((5 * q : Nat) : Int) + 4) = ((5 * q : Nat) : Int) + 4 := IntWalk.i64_in _ (by omega)
      obtain ⟨j, hjq⟩ : ∃ j, j = 5 * q := ⟨_, rfl⟩
      rw [← hjq] at j4 HJ ⊢
      have HK := Lib.hid hjq
      obtain ⟨HE0, bs, gs, hl0, hbs, hgs, hrb, hrg⟩ := HS.out
      have hle : bs.length ≤ 4 ∧ gs.length ≤ 3 := by omega
      have HE := Lib.hid HE0
      have c0 : wr.cell? ⟨w.heap.size + 1, 0, none⟩ = some cv := HE0.bnk.cell 0
      have c1 : wr.cell? ⟨w.heap.size + 1, 1, none⟩ = some ev := HE0.bnk.cell 1
      have r0 : wr.cell? ⟨w.heap.size, 0, none⟩ = some (.slice none 0 0) := HE0.res.cell 0
      have r1 : wr.cell? ⟨w.heap.size, 1, none⟩ = some (.slice none 0 0) := HE0.res.cell 1
      have fz := HE0.res.frozen
      obtain ⟨bA, bc, rfl⟩ := row_slice hrb
      obtain ⟨gA, gc, rfl⟩ := row_slice hrg
      have HF := Lib.hid (And.intro hbs hgs)
      have HRB := Lib.hid hrb
      have HRG := Lib.hid hrg
      have HLE := Lib.hid hle
      clear hjq hlt HE0 hl0 hbs hgs hrb hrg hle HS HL HU
      by_cases d1 : j + 4 < n
      · have d2 : decide ((j : Int) + 4 < (n : Int)) = true := decide_eq_true (by omega)
        have d3 : decide ((j : Int) < 35) = false := decide_eq_false (by have := HJ.out; omega)
        go_wp2
        have hrow : Blk ((wr.setCell ⟨w.heap.size, 0, none⟩ (.slice bA bs.length bc)).setCell ⟨w.heap.size, 1, none⟩ (.slice gA gs.length gc)) w.heap.size 26 #[.slice bA bs.length bc, .slice gA gs.length gc] := by
          have k := (HE.out.res.set_ 0 (.slice bA bs.length bc)).set_ 1 (.slice gA gs.length gc)
          simpa only [List.setIfInBounds_toArray, List.set_cons_zero, List.set_cons_succ] using k
        have q0 := hrow.cell 0
        have q1 := hrow.cell 1
        simp at q0 q1
        refine bodyPost_ret (v := .agg #[.slice bA bs.length bc, .slice gA gs.length gc]) (by simp [results, Try.results9, go_sem, q0, q1]) rfl ?_
        have hlow := (HE.out.low.setCell (p := ⟨w.heap.size, 0, none⟩) (by simp) (.slice bA bs.length bc)).setCell (p := ⟨w.heap.size, 1, none⟩) (by simp) (.slice gA gs.length gc)
        have kr : ∀ {T : TypeId} {sz n' : Nat} {v : Value} {zs : List Value}, wr.ownsRow (w.heap.size + 2) T sz v n' zs → ((wr.setCell ⟨w.heap.size, 0, none⟩ (.slice bA bs.length bc)).setCell ⟨w.heap.size, 1, none⟩ (.slice gA gs.length gc)).ownsRow w.heap.size T sz v n' zs := fun {T sz n' v zs} h => by
          have h1 := h.kept (grown_set wr w.heap.size 0 (.slice bA bs.length bc)) (Or.inr (fun e => by have := (World.ownsRow.lt h _ e).1; omega))
          have h2 := h1.kept (grown_set _ w.heap.size 1 (.slice gA gs.length gc)) (Or.inr (fun e => by have := (World.ownsRow.lt h1 _ e).1; omega))
          exact row_low h2 (by omega)
        exact ⟨bA, bc, gA, gc, bs, gs, rfl, hlow, kr HRB.out, kr HRG.out, HLE.out.1, HLE.out.2, HF.out.1, HF.out.2⟩
      · have d2 : decide ((j : Int) + 4 < (n : Int)) = false := decide_eq_false (by omega)
        go_wp2
        have hrow : Blk ((wr.setCell ⟨w.heap.size, 0, none⟩ (.slice bA bs.length bc)).setCell ⟨w.heap.size, 1, none⟩ (.slice gA gs.length gc)) w.heap.size 26 #[.slice bA bs.length bc, .slice gA gs.length gc] := by
          have k := (HE.out.res.set_ 0 (.slice bA bs.length bc)).set_ 1 (.slice gA gs.length gc)
          simpa only [List.setIfInBounds_toArray, List.set_cons_zero, List.set_cons_succ] using k
        have q0 := hrow.cell 0
        have q1 := hrow.cell 1
        simp at q0 q1
        refine bodyPost_ret (v := .agg #[.slice bA bs.length bc, .slice gA gs.length gc]) (by simp [results, Try.results9, go_sem, q0, q1]) rfl ?_
        have hlow := (HE.out.low.setCell (p := ⟨w.heap.size, 0, none⟩) (by simp) (.slice bA bs.length bc)).setCell (p := ⟨w.heap.size, 1, none⟩) (by simp) (.slice gA gs.length gc)
        have kr : ∀ {T : TypeId} {sz n' : Nat} {v : Value} {zs : List Value}, wr.ownsRow (w.heap.size + 2) T sz v n' zs → ((wr.setCell ⟨w.heap.size, 0, none⟩ (.slice bA bs.length bc)).setCell ⟨w.heap.size, 1, none⟩ (.slice gA gs.length gc)).ownsRow w.heap.size T sz v n' zs := fun {T sz n' v zs} h => by
          have h1 := h.kept (grown_set wr w.heap.size 0 (.slice bA bs.length bc)) (Or.inr (fun e => by have := (World.ownsRow.lt h _ e).1; omega))
          have h2 := h1.kept (grown_set _ w.heap.size 1 (.slice gA gs.length gc)) (Or.inr (fun e => by have := (World.ownsRow.lt h1 _ e).1; omega))
          exact row_low h2 (by omega)
        exact ⟨bA, bc, gA, gc, bs, gs, rfl, hlow, kr HRB.out, kr HRG.out, HLE.out.1, HLE.out.2, HF.out.1, HF.out.2⟩
end Go.Proofs.Ytnpkcipeacogcaa
