/- bank: newPlay. -/
import Derived.Test.YtnpkcipeacogcaaBkE
import Derived.Maps.AppendAt
import Derived.RangeFuncBox

set_option linter.unusedSimpArgs false
set_option linter.unusedVariables false
namespace Go.Proofs.Ytnpkcipeacogcaa
open Go.RowKit

theorem own_ne {W : World} {n₀ i : Nat} {e T : TypeId} {size k : Nat} {v : Value} {xs : List Value} {cs : Array Value} (h : W.ownsRow n₀ e size v k xs) (hb : Blk W i T cs) (hT : T ≠ e) : some i ≠ v.ownBlock := by
  intro eg
  rcases h.2 with ⟨rfl, _⟩ | ⟨g', cap, cur, rfl, _, hg, _⟩
  · simp [Value.ownBlock] at eg
  · obtain rfl : i = g' := by simpa [Value.ownBlock] using eg
    have h1 := hb.symm.trans hg
    simp only [Option.some.injEq, Obj.cells.injEq] at h1
    exact hT h1.2.1
theorem own_far {W : World} {m m' size size' k k' : Nat} {e e' : TypeId} {v v' : Value} {xs xs' : List Value} (h : W.ownsRow m e size v k xs) (h' : W.ownsRow m' e' size' v' k' xs') (hT : e ≠ e') : v.ownBlock = none ∨ v.ownBlock ≠ v'.ownBlock := by
  rcases h.2 with ⟨rfl, _⟩ | ⟨g, cap, cur, rfl, _, hg, _⟩
  · exact Or.inl rfl
  · exact Or.inr (fun e => own_ne h' hg hT (by simpa [Value.ownBlock] using e))
theorem blk_ne {W : World} {a b : Nat} {T U : TypeId} {cs ds : Array Value} (h : Blk W a T cs) (h' : Blk W b U ds) (hT : T ≠ U) : a ≠ b := by
  rintro rfl
  have e2 := (show W.heap[a]? = _ from h).symm.trans h'
  simp only [Option.some.injEq, Obj.cells.injEq] at e2
  exact hT e2.2.1
theorem grown_of_below {w w' : World} (h : Below w.heap.size w w') : w.grownBy w' none := ⟨h.os, h.tape, h.output, h.size, fun k hk _ => h.block k hk⟩
theorem row_next {W W' : World} {n₀ size n : Nat} {e : TypeId} {v : Value} {xs : List Value} (h : W.ownsRow n₀ e size v n xs) (hb : Below W.heap.size W W') : W'.ownsRow n₀ e size v n xs :=
  h.kept (grown_of_below hb) (by by_cases hu : v.ownBlock = none; exact .inl hu; exact .inr hu)
theorem row_slice {W : World} {n₀ size n : Nat} {e : TypeId} {v : Value} {vs : List Value} (h : W.ownsRow n₀ e size v n vs) : ∃ A c, v = .slice A n c := by
  rcases h.2 with ⟨e, h0⟩ | ⟨g, cap, cur, e, _⟩
  · exact ⟨none, 0, by rw [e, h0]⟩
  · exact ⟨_, _, e⟩
theorem add0 (B j : Nat) : (⟨B, 0, none⟩ : Addr).add j = ⟨B, j, none⟩ := by
  cases j with
  | zero => rfl
  | succ j => simp [Addr.add]
theorem Blk.kept {W W' : World} {row : Option Nat} {b : Nat} {t : TypeId} {cs : Array Value} (h : Blk W b t cs) (hg : W.grownBy W' row) (hne : some b ≠ row) : Blk W' b t cs := (hg.block b h.lt hne).trans h
theorem grown_set (W : World) (b o : Nat) (u : Value) : W.grownBy (W.setCell ⟨b, o, none⟩ u) (some b) := only_setCell (World.grownBy.refl W (some b)) rfl u
theorem RowW.of_own {α : Type} {W : World} {n₀ size : Nat} {e : TypeId} {f : α → List Value} {v : Value} {l : List α} (h : W.ownsRow n₀ e size v l.length (l.flatMap f)) : ∃ A c b, v = .slice A l.length c ∧ RowW W b e f A l ∧ (0 < l.length → n₀ ≤ b ∧ v.ownBlock = some b) := by
  rcases h.2 with ⟨rfl, h0⟩ | ⟨g, cap, cur, rfl, hb, hg, _, _, _, ht⟩
  · exact ⟨none, 0, 0, by rw [h0], Or.inl (List.length_eq_zero_iff.1 h0), fun h => by omega⟩
  · refine ⟨_, cap, g, rfl, Or.inr ⟨rfl, cur, hg, fun j u hu => ?_⟩, fun _ => ⟨hb, rfl⟩⟩
    rw [← ht, List.getElem?_take] at hu
    split at hu
    · simpa using hu
    · cases hu

section
variable {F G O : World → Prop} {W W' : World} {γ : Nat → Nat}
theorem ap_F (h : PhR (fun W => F W ∧ O W) F G W γ) (h2 : γ 0 ≠ 2) : F W := PhR.not2 h h2 (fun _ h => h.1) (fun _ h => h)
theorem ap_next (FN : ∀ W W', F W → Below W.heap.size W W' → F W') (ON : ∀ W W', O W → Below W.heap.size W W' → O W') (h2 : γ 0 ≠ 2) (h : PhR (fun W => F W ∧ O W) F G W γ) (hb : Below W.heap.size W W') : PhR (fun W => F W ∧ O W) F G W' γ := by
  rcases h with ⟨e, h⟩ | ⟨e, h⟩ | ⟨e, h⟩
  · exact Or.inl ⟨e, FN _ _ h.1 hb, ON _ _ h.2 hb⟩
  · exact Or.inr (Or.inl ⟨e, FN _ _ h hb⟩)
  · exact absurd e h2
theorem ap_own_lt {base size n : Nat} {T : TypeId} {v : Value} {xs : List Value} (h : W.ownsRow base T size v n xs) : v.ownBlock ≠ some W.heap.size := fun e => by have := (World.ownsRow.lt h _ e).2; omega
end
/-- What lies about while a play is made. -/
structure NpE (w : World) (vb : Array Value) (cv ev : Value) (W : World) : Prop where
  low : Below w.heap.size w W
  hz : w.heap.size + 2 ≤ W.heap.size
  box : Blk W w.heap.size 26 vb
  ply : Blk W (w.heap.size + 1) 89 #[cv, ev, .int .i64 (-1), .int .i64 0, .int .i64 0]
structure NpF1 (w : World) (vb : Array Value) (cv ev : Value) (xb : Nat) (xv : Array Value) (W : World) : Prop where
  e : NpE w vb cv ev W
  xb : Blk W xb 34 xv
structure NpF2 (w : World) (vb : Array Value) (cv ev : Value) (cs : List Cel) (xb : Nat) (xv : Array Value) (W : World) : Prop where
  e : NpE w vb cv ev W
  crow : W.ownsRow (w.heap.size + 2) 91 5 cv cs.length (cs.flatMap Cel.enc)
  xb : Blk W xb 66 xv
structure NpH1 (w : World) (vb : Array Value) (cv ev : Value) (n : Nat) (xs : List Value) (W : World) : Prop where
  e : NpE w vb cv ev W
  row : W.ownsRow (w.heap.size + 2) 91 5 cv n xs
structure NpH2 (w : World) (vb : Array Value) (cv ev : Value) (cs : List Cel) (n : Nat) (xs : List Value) (W : World) : Prop where
  e : NpE w vb cv ev W
  crow : W.ownsRow (w.heap.size + 2) 91 5 cv cs.length (cs.flatMap Cel.enc)
  row : W.ownsRow (w.heap.size + 2) 94 8 ev n xs
def NpG1 (w : World) (vb : Array Value) (ev : Value) (n : Nat) (xs : List Value) (W : World) : Prop := ∃ g c, NpH1 w vb (.slice (some ⟨g, 0, none⟩) n c) ev n xs W
def NpG2 (w : World) (vb : Array Value) (cv : Value) (cs : List Cel) (n : Nat) (xs : List Value) (W : World) : Prop := ∃ g c, NpH2 w vb cv (.slice (some ⟨g, 0, none⟩) n c) cs n xs W
section
variable {w W W' : World} {vb xv : Array Value} {cv ev : Value} {cs : List Cel} {xb n c g : Nat} {xs : List Value}
theorem NpE.next (h : NpE w vb cv ev W) (hb : Below W.heap.size W W') : NpE w vb cv ev W' :=
  ⟨h.low.trans (hb.mono h.low.size), by have := hb.size; have := h.hz; omega, h.box.below hb h.box.lt, h.ply.below hb h.ply.lt⟩
theorem NpE.grown {m size k : Nat} {T : TypeId} {v : Value} {ys : List Value} (h : NpE w vb cv ev W) (hm : w.heap.size ≤ m) (hr : W.ownsRow m T size v k ys) (hg : W.grownBy W' v.ownBlock) (h1 : 26 ≠ T) (h2 : 89 ≠ T) : NpE w vb cv ev W' :=
  ⟨h.low.grown hg h.low.size (fun k e => by have := (World.ownsRow.lt hr k e).1; omega), by have := hg.size; have := h.hz; omega, h.box.kept hg (own_ne hr h.box h1), h.ply.kept hg (own_ne hr h.ply h2)⟩
theorem NpF1.next (h : NpF1 w vb cv ev xb xv W) (hb : Below W.heap.size W W') : NpF1 w vb cv ev xb xv W' := ⟨h.e.next hb, h.xb.below hb h.xb.lt⟩
theorem NpF1.grown {v : Value} (h : NpF1 w vb cv ev xb xv W) (hr : W.ownsRow (w.heap.size + 2) 91 5 v n xs) (hg : W.grownBy W' v.ownBlock) : NpF1 w vb cv ev xb xv W' :=
  ⟨h.e.grown (by omega) hr hg (by decide) (by decide), h.xb.kept hg (own_ne hr h.xb (by decide))⟩
theorem NpF2.next (h : NpF2 w vb cv ev cs xb xv W) (hb : Below W.heap.size W W') : NpF2 w vb cv ev cs xb xv W' := ⟨h.e.next hb, row_next h.crow hb, h.xb.below hb h.xb.lt⟩
theorem NpF2.grown {v : Value} (h : NpF2 w vb cv ev cs xb xv W) (hr : W.ownsRow (w.heap.size + 2) 94 8 v n xs) (hg : W.grownBy W' v.ownBlock) : NpF2 w vb cv ev cs xb xv W' :=
  ⟨h.e.grown (by omega) hr hg (by decide) (by decide), h.crow.kept hg (own_far h.crow hr (by decide)), h.xb.kept hg (own_ne hr h.xb (by decide))⟩
theorem NpF1.store (h : NpF1 w vb cv ev xb xv W) (hr : W.ownsRow (w.heap.size + 2) 91 5 (.slice (some ⟨g, 0, none⟩) n c) n xs) : NpG1 w vb ev n xs (W.setCell ⟨w.heap.size + 1, 0, none⟩ (.slice (some ⟨g, 0, none⟩) n c)) :=
  have hg := grown_set W (w.heap.size + 1) 0 (.slice (some ⟨g, 0, none⟩) n c)
  ⟨g, c, ⟨h.e.low.setCell (by simp) _, by simp [World.setCell]; exact h.e.hz, h.e.box.far (by simp) _, h.e.ply.set_ 0 _⟩, hr.kept hg (Or.inr (fun e => own_ne hr h.e.ply (by decide) e.symm))⟩
theorem NpF2.store (h : NpF2 w vb cv ev cs xb xv W) (hr : W.ownsRow (w.heap.size + 2) 94 8 (.slice (some ⟨g, 0, none⟩) n c) n xs) : NpG2 w vb cv cs n xs (W.setCell ⟨w.heap.size + 1, 1, none⟩ (.slice (some ⟨g, 0, none⟩) n c)) :=
  have hg := grown_set W (w.heap.size + 1) 1 (.slice (some ⟨g, 0, none⟩) n c)
  ⟨g, c, ⟨h.e.low.setCell (by simp) _, by simp [World.setCell]; exact h.e.hz, h.e.box.far (by simp) _, h.e.ply.set_ 1 _⟩, h.crow.kept hg (Or.inr (fun e => own_ne h.crow h.e.ply (by decide) e.symm)), hr.kept hg (Or.inr (fun e => own_ne hr h.e.ply (by decide) e.symm))⟩
theorem NpH1.next (h : NpH1 w vb cv ev n xs W) (hb : Below W.heap.size W W') : NpH1 w vb cv ev n xs W' := ⟨h.e.next hb, row_next h.row hb⟩
theorem NpH2.next (h : NpH2 w vb cv ev cs n xs W) (hb : Below W.heap.size W W') : NpH2 w vb cv ev cs n xs W' := ⟨h.e.next hb, row_next h.crow hb, row_next h.row hb⟩
end
def npPhi5 (base : Nat) (k : Nat) (xb : Nat) (x : Bat) (cA : Option Addr) (cc : Nat) (xs : List Value) : Nat → Value → World → (Nat → Nat) → Prop
  | 0, v, _, _ => v = .pointer (some ⟨base + 1, 0, none⟩)
  | 1, v, _, _ => v = .pointer (some ⟨base + 1, 0, none⟩)
  | 2, v, _, _ => v = .pointer (some ⟨base + 1, 0, none⟩)
  | 3, v, _, _ => v = .pointer (some ⟨base + 1, 0, none⟩)
  | 4, v, _, _ => v = .slice cA k cc
  | 5, v, _, _ => v = .agg #[.int .i64 x.energy, .int .i64 x.full, .int .i64 x.power, .int .i64 x.charge]
  | 6, v, _, _ => v = .pointer (some ⟨xb, 0, none⟩)
  | 7, v, _, _ => v = .int .i64 x.energy
  | 8, v, _, _ => v = .agg #[.int .i64 x.energy, .int .i64 x.full, .int .i64 x.power, .int .i64 x.charge, .int .i64 x.energy]
  | 9, v, W, γ => ∃ B, v = .slice (some ⟨B, 0, none⟩) 1 1 ∧ (γ 0 = 0 → Blk W B 91 ([.int .i64 x.energy, .int .i64 x.full, .int .i64 x.power, .int .i64 x.charge, .int .i64 x.energy]).toArray ∧ (.slice cA k cc : Value).ownBlock ≠ some B)
  | 10, v, W, γ => ∃ g' c', v = .slice (some ⟨g', 0, none⟩) (k + 1) c' ∧ γ 0 ≠ 0 ∧ (γ 0 = 2 ∨ W.ownsRow (base + 2) 91 5 (.slice (some ⟨g', 0, none⟩) (k + 1) c') (k + 1) (xs ++ [.int .i64 x.energy, .int .i64 x.full, .int .i64 x.power, .int .i64 x.charge, .int .i64 x.energy]))
  | 11, v, _, _ => v = .pointer (some ⟨base + 1, 0, none⟩)
  | 12, v, _, _ => v = .pointer (some ⟨base + 1, 0, none⟩)
  | 13, _, _, γ => γ 0 = 2
  | _, _, _, _ => True
section
variable {W W' : World} {γ : Nat → Nat} {i : Nat} {v : Value} {base : Nat} {k : Nat} {xb : Nat} {x : Bat} {cA : Option Addr} {cc : Nat} {xs : List Value}
theorem npPhi5_next (hb : Below W.heap.size W W') (h : npPhi5 base k xb x cA cc xs i v W γ) : npPhi5 base k xb x cA cc xs i v W' γ := by
  unfold npPhi5 at h ⊢
  split at h
  all_goals first | exact h | trivial | skip
  · obtain ⟨B, h1, h2⟩ := h
    exact ⟨B, h1, fun h0 => ⟨(h2 h0).1.below hb (h2 h0).1.lt, (h2 h0).2⟩⟩
  · obtain ⟨g', c', h1, h2, h3⟩ := h
    exact ⟨g', c', h1, h2, h3.imp id fun h => row_next h hb⟩
theorem npPhi5_1 (h0 : γ 0 = 0) (hi : i ≠ 10) (h : npPhi5 base k xb x cA cc xs i v W γ) : npPhi5 base k xb x cA cc xs i v W' (fun _ => 1) := by
  unfold npPhi5 at h ⊢
  split at h
  all_goals first | exact h | trivial | exact absurd rfl hi | (exfalso; omega) | skip
  · obtain ⟨B, h1, h2⟩ := h
    exact ⟨B, h1, fun h0 => by cases h0⟩
theorem npPhi5_2 (hi : i ≠ 13) (h : npPhi5 base k xb x cA cc xs i v W γ) : npPhi5 base k xb x cA cc xs i v W' (fun _ => 2) := by
  unfold npPhi5 at h ⊢
  split at h
  all_goals first | exact h | trivial | exact absurd rfl hi | skip
  · obtain ⟨B, h1, h2⟩ := h
    exact ⟨B, h1, fun h0 => by cases h0⟩
  · obtain ⟨g', c', h1, h2, h3⟩ := h
    exact ⟨g', c', h1, by decide, Or.inl rfl⟩
end
def npPhi10 (base : Nat) (fb : Nat) (fo : Nat) (fn : Nat) (fc : Nat) (j : Nat) (xb : Nat) (g : Gen) (f : Int) (eA : Option Addr) (ecc : Nat) (xs : List Value) : Nat → Value → World → (Nat → Nat) → Prop
  | 0, v, _, _ => v = .pointer (some ⟨base + 1, 0, none⟩)
  | 1, v, _, _ => v = .pointer (some ⟨base + 1, 0, none⟩)
  | 2, v, _, _ => v = .pointer (some ⟨base + 1, 0, none⟩)
  | 3, v, _, _ => v = .pointer (some ⟨base + 1, 1, none⟩)
  | 4, v, _, _ => v = .slice eA j ecc
  | 5, v, _, _ => v = .agg #[.int .i64 g.power, .int .i64 g.ramp, .int .i64 g.delay, .int .i64 g.pause, .int .i64 g.tries]
  | 6, v, _, _ => v = .agg #[.int .i64 g.power, .int .i64 g.ramp, .int .i64 g.delay, .int .i64 g.pause, .int .i64 g.tries]
  | 7, v, _, _ => v = .slice (some ⟨fb, fo, none⟩) fn fc
  | 8, v, _, _ => v = .int .i64 j
  | 9, v, _, _ => v = .pointer (some ⟨fb, fo + j, none⟩)
  | 10, v, _, _ => v = .int .i64 f
  | 11, v, _, _ => v = .int .i64 (startOf g f)
  | 12, v, _, _ => v = .agg #[.int .i64 g.power, .int .i64 g.ramp, .int .i64 g.delay, .int .i64 g.pause, .int .i64 g.tries, .int .i64 (startOf g f), .int .i64 0, .int .i64 0]
  | 13, v, W, γ => ∃ B, v = .slice (some ⟨B, 0, none⟩) 1 1 ∧ (γ 0 = 0 → Blk W B 94 ([.int .i64 g.power, .int .i64 g.ramp, .int .i64 g.delay, .int .i64 g.pause, .int .i64 g.tries, .int .i64 (startOf g f), .int .i64 0, .int .i64 0]).toArray ∧ (.slice eA j ecc : Value).ownBlock ≠ some B)
  | 14, v, W, γ => ∃ g' c', v = .slice (some ⟨g', 0, none⟩) (j + 1) c' ∧ γ 0 ≠ 0 ∧ (γ 0 = 2 ∨ W.ownsRow (base + 2) 94 8 (.slice (some ⟨g', 0, none⟩) (j + 1) c') (j + 1) (xs ++ [.int .i64 g.power, .int .i64 g.ramp, .int .i64 g.delay, .int .i64 g.pause, .int .i64 g.tries, .int .i64 (startOf g f), .int .i64 0, .int .i64 0]))
  | 15, v, _, _ => v = .pointer (some ⟨base + 1, 0, none⟩)
  | 16, v, _, _ => v = .pointer (some ⟨base + 1, 1, none⟩)
  | 17, _, _, γ => γ 0 = 2
  | _, _, _, _ => True
section
variable {W W' : World} {γ : Nat → Nat} {i : Nat} {v : Value} {base : Nat} {fb : Nat} {fo : Nat} {fn : Nat} {fc : Nat} {j : Nat} {xb : Nat} {g : Gen} {f : Int} {eA : Option Addr} {ecc : Nat} {xs : List Value}
theorem npPhi10_next (hb : Below W.heap.size W W') (h : npPhi10 base fb fo fn fc j xb g f eA ecc xs i v W γ) : npPhi10 base fb fo fn fc j xb g f eA ecc xs i v W' γ := by
  unfold npPhi10 at h ⊢
  split at h
  all_goals first | exact h | trivial | skip
  · obtain ⟨B, h1, h2⟩ := h
    exact ⟨B, h1, fun h0 => ⟨(h2 h0).1.below hb (h2 h0).1.lt, (h2 h0).2⟩⟩
  · obtain ⟨g', c', h1, h2, h3⟩ := h
    exact ⟨g', c', h1, h2, h3.imp id fun h => row_next h hb⟩
theorem npPhi10_1 (h0 : γ 0 = 0) (hi : i ≠ 14) (h : npPhi10 base fb fo fn fc j xb g f eA ecc xs i v W γ) : npPhi10 base fb fo fn fc j xb g f eA ecc xs i v W' (fun _ => 1) := by
  unfold npPhi10 at h ⊢
  split at h
  all_goals first | exact h | trivial | exact absurd rfl hi | (exfalso; omega) | skip
  · obtain ⟨B, h1, h2⟩ := h
    exact ⟨B, h1, fun h0 => by cases h0⟩
theorem npPhi10_2 (hi : i ≠ 17) (h : npPhi10 base fb fo fn fc j xb g f eA ecc xs i v W γ) : npPhi10 base fb fo fn fc j xb g f eA ecc xs i v W' (fun _ => 2) := by
  unfold npPhi10 at h ⊢
  split at h
  all_goals first | exact h | trivial | exact absurd rfl hi | skip
  · obtain ⟨B, h1, h2⟩ := h
    exact ⟨B, h1, fun h0 => by cases h0⟩
  · obtain ⟨g', c', h1, h2, h3⟩ := h
    exact ⟨g', c', h1, by decide, Or.inl rfl⟩
end
/-- The bank's lists. -/
structure BankIn (w : World) (B : Nat) (bA : Option Addr) (bn : Nat) (bs : List Bat) (gA : Option Addr) (gn : Nat) (gs : List Gen) : Prop where
  bat : Rd w B 4 Bat.enc bA bn bs
  gen : Rd w B 5 Gen.enc gA gn gs
theorem engInfo : (Try.prog.info? 94).map (fun i => (i.zero, i.size, i.bytes)) = some (some (.agg #[.int .i64 0, .int .i64 0, .int .i64 0, .int .i64 0, .int .i64 0, .int .i64 0, .int .i64 0, .int .i64 0]), 8, 64) := by kernel_rfl
theorem celInfo : (Try.prog.info? 91).map (fun i => (i.zero, i.size, i.bytes)) = some (some (.agg #[.int .i64 0, .int .i64 0, .int .i64 0, .int .i64 0, .int .i64 0]), 5, 40) := by kernel_rfl
set_option maxRecDepth 100000 in
set_option maxHeartbeats 4000000 in
theorem newPlay_any (bA gA fA : Option Addr) (bn bc gn gc fn fc : Nat) (bs : List Bat) (gs : List Gen) (fs : List Int) (w : World)
    (hb : BankIn w w.heap.size bA bn bs gA gn gs) (hf : Rd w w.heap.size 1 encI fA fn fs) (hbn : bn ≤ 100) (hgn : gn ≤ 100) (hfn : fn = gn) (hg : ∀ g ∈ gs, GenOk g) (hfs : ∀ f ∈ fs, 0 ≤ f ∧ f ≤ 5) :
    Calls Try.prog 28 #[.agg #[.slice bA bn bc, .slice gA gn gc], .slice fA fn fc] w fun e w' => ∃ a, e = .returned a.ptr ∧ PlyIn w' a (ply0 bs gs fs) ∧ Below w.heap.size w w' ∧ ∀ b, a.mine b → w.heap.size ≤ b := by
  have HB := Lib.hid hb
  have HF := Lib.hid hf
  have HG := Lib.hid hg
  have HFS := Lib.hid hfs
  have HBN := Lib.hid hb.bat.1
  have HGN := Lib.hid hb.gen.1
  obtain ⟨i0, hi0, hi1, hi2, hi3⟩ := info_parts celInfo
  obtain ⟨j0, hj0, hj1, hj2, hj3⟩ := info_parts engInfo
  have hi := Lib.hid (And.intro hi0 (And.intro hi1 (And.intro hi2 hi3)))
  have hj := Lib.hid (And.intro hj0 (And.intro hj1 (And.intro hj2 hj3)))
  clear hb hf hg hfs hi0 hi1 hi2 hi3 hj0 hj1 hj2 hj3
  subst hfn
  go_enter Try.func28, Try.ntmps28
  go_wp2
  go_loopw [15] (fun i wr => ∃ k : Nat, k ≤ bn ∧ i = .int .i64 k ∧ ∃ cv, Hid (NpH1 w #[.slice bA bn bc, .slice gA fn gc] cv (.slice none 0 0) ((bs.take k).map cel0).length (((bs.take k).map cel0).flatMap Cel.enc) wr)) (fun i _ => bn - (intOf i).toNat)
  case atStart =>
    refine ⟨0, by omega, rfl, .slice none 0 0, ⟨by (repeat' (first | (with_reducible exact Below.refl _ _) | (with_reducible assumption) | (with_reducible refine below_drewN ?_ _) | (with_reducible refine below_after (by assumption) ?_ ?_) | (with_reducible refine Below.drew ?_) | (with_reducible refine Below.alloc ?_ ?_ _) | (with_reducible refine Below.setCell ?_ ?_ _) | omega | (simp; omega) | (simp; done))), by simp, Blk.alloc (heap_alloc_new w _) _, ?_⟩, World.ownsRow_nil _ _ _ _⟩
    have h := heap_alloc_new (w.alloc (.cells #[.slice bA bn bc, .slice gA fn gc] 26)) (.cells #[.slice none 0 0, .slice none 0 0, .int .i64 (-1), .int .i64 0, .int .i64 0] 89)
    rw [World.size_alloc] at h
    exact h
  case round =>
    obtain ⟨k, hk, rfl, cv, hN⟩ := hrel
    have hzk := hN.out.e.hz
    by_cases hlt : k < bn
    · obtain ⟨b, off, x, e1, hb, hx, hcx⟩ := (HB.out.bat.below hN.out.e.low).at_ hlt
      have hlen : ((bs.take k).map cel0).length = k := by have := HBN.out; rw [List.length_map, List.length_take]; omega
      have hlen2 : Hid (((bs.take (k + 1)).map cel0).length = k + 1) := Lib.hid (by have := HBN.out; rw [List.length_map, List.length_take]; omega)
      obtain ⟨xs, hxs⟩ : ∃ z, z = ((bs.take k).map cel0).flatMap Cel.enc := ⟨_, rfl⟩
      have HXS : Hid (xs ++ [.int .i64 x.energy, .int .i64 x.full, .int .i64 x.power, .int .i64 x.charge, .int .i64 x.energy] = ((bs.take (k + 1)).map cel0).flatMap Cel.enc) := Lib.hid (by rw [take_at hx, hxs]; simp [Cel.enc, cel0])
      rw [hlen, ← hxs] at hN
      obtain ⟨cA, cc, heq⟩ := row_slice hN.out.row
      subst heq
      have HX := Lib.hid hx
      have x0 : wr.cell? ⟨b, off + k * 4, none⟩ = some (.int .i64 x.energy) := by simpa using hcx 0 _ rfl
      have x1 : wr.cell? ⟨b, off + k * 4 + 1, none⟩ = some (.int .i64 x.full) := by simpa using hcx 1 _ rfl
      have x2 : wr.cell? ⟨b, off + k * 4 + 2, none⟩ = some (.int .i64 x.power) := by simpa using hcx 2 _ rfl
      have x3 : wr.cell? ⟨b, off + k * 4 + 3, none⟩ = some (.int .i64 x.charge) := by simpa using hcx 3 _ rfl
      have zb : b < wr.heap.size := by omega
      have hk0 : (0 : Int) ≤ (k : Int) := by omega
      have hkn : (k : Int) < (bn : Int) := by omega
      subst e1
      clear hx hcx hlen hxs
      go_wp2
      have hB1 : Below wr.heap.size wr (wr.alloc (.cells #[.int .i64 x.energy, .int .i64 x.full, .int .i64 x.power, .int .i64 x.charge] 34)) := (Below.refl _ _).alloc (Nat.le_refl _) _
      have hA0 : (NpF1 w #[.slice (some ⟨b, off, none⟩) bn bc, .slice gA fn gc] (.slice cA k cc) (.slice none 0 0) wr.heap.size #[.int .i64 x.energy, .int .i64 x.full, .int .i64 x.power, .int .i64 x.charge] (wr.alloc (.cells #[.int .i64 x.energy, .int .i64 x.full, .int .i64 x.power, .int .i64 x.charge] 34)).drew ∧ (wr.alloc (.cells #[.int .i64 x.energy, .int .i64 x.full, .int .i64 x.power, .int .i64 x.charge] 34)).drew.ownsRow (w.heap.size + 2) 91 5 (.slice cA k cc) k xs) := ⟨⟨hN.out.e.next hB1.drew, heap_alloc_new wr _⟩, row_next hN.out.row hB1.drew⟩
      clear hB1 x0 x1 x2 x3
      refine wp_region_free10 13 (by kernel_rfl) [some 19, some 20, some 21, some 22, some 23, some 24, some 25, some 26, some 27, some 28, some 29, some 30, some 31, none] [[], [], [1], [2], [3], [], [], [6], [5, 7], [8], [4, 9], [0, 0, 1, 2, 3, 4, 5, 6, 7, 8, 9, 10], [11, 0, 1, 2, 3, 4, 5, 6, 7, 8, 9, 10], [12, 10, 10, 0, 1, 2, 3, 4, 5, 6, 7, 8, 9, 10]] [(5, .pointer (some ⟨w.heap.size + 1, 0, none⟩)), (7, .pointer (some ⟨wr.heap.size, 0, none⟩))] (PhR (fun W => (NpF1 w #[.slice (some ⟨b, off, none⟩) bn bc, .slice gA fn gc] (.slice cA k cc) (.slice none 0 0) wr.heap.size #[.int .i64 x.energy, .int .i64 x.full, .int .i64 x.power, .int .i64 x.charge]) W ∧ W.ownsRow (w.heap.size + 2) 91 5 (.slice cA k cc) (k) (xs)) (NpF1 w #[.slice (some ⟨b, off, none⟩) bn bc, .slice gA fn gc] (.slice cA k cc) (.slice none 0 0) wr.heap.size #[.int .i64 x.energy, .int .i64 x.full, .int .i64 x.power, .int .i64 x.charge]) (NpG1 w #[.slice (some ⟨b, off, none⟩) bn bc, .slice gA fn gc] (.slice none 0 0) (k + 1) (xs ++ [.int .i64 x.energy, .int .i64 x.full, .int .i64 x.power, .int .i64 x.charge, .int .i64 x.energy]))) (npPhi5 w.heap.size k wr.heap.size x cA cc xs) (phPsi 10) (by kernel_rfl) (by kernel_rfl) rfl (by kernel_rfl) ?_ ?_ ⟨fun _ => 0, PhR.begin hA0, fun i _ => phPsi_0⟩ ?_ ?_
      · intro z hz
        simp only [List.mem_cons, List.mem_nil_iff, or_false] at hz
        rcases hz with rfl | rfl
        all_goals exact ⟨by kernel_rfl, rfl⟩
      · intro i v W γ hi h
        rcases i with _ | _ | _ | _ | _ | _ | _ | _ | _ | _ | _ | _ | _ | _ | i
        all_goals first | exact h | (simp at hi)
      · refine ⟨?_, ?_, ?_, ?_, ?_, ?_, ?_, ?_, ?_, ?_, ?_, ?_, ?_, ?_, trivial⟩
        all_goals
          intro a W γ evv hcc hff hfx hR hψ hpre
          simp only [List.mem_cons, List.mem_nil_iff, or_false, forall_eq, forall_eq_or_imp] at hfx
          obtain ⟨f0, f1⟩ := hfx
          have HR := Lib.hid hR
          clear hR
          refine ⟨fun _ K hK => ?_, trivial⟩

        · clear hpre hψ
          go_simp
          exact hK _ _ γ HR.out (fun _ _ _ _ h => h) (fun _ _ _ h => h) rfl
        · clear hpre hψ
          go_simp
          exact hK _ _ γ HR.out (fun _ _ _ _ h => h) (fun _ _ _ h => h) rfl
        · have q0 : evv (.tmp 20) = _ := hpre 1 (by decide)
          clear hpre hψ
          go_simp
          exact hK _ _ γ HR.out (fun _ _ _ _ h => h) (fun _ _ _ h => h) rfl
        · have q0 : evv (.tmp 21) = _ := hpre 2 (by decide)
          clear hpre hψ
          go_simp
          exact hK _ _ γ HR.out (fun _ _ _ _ h => h) (fun _ _ _ h => h) rfl
        · have q0 : evv (.tmp 22) = _ := hpre 3 (by decide)
          have HF := ap_F HR.out (hψ.2 (by decide))
          have hc1 : W.cell? ⟨w.heap.size + 1, 0, none⟩ = some (.slice cA k cc) := HF.e.ply.cell 0
          have hzz := HF.e.ply.lt
          clear HF
          clear hpre hψ
          go_simp
          exact hK _ _ γ HR.out (fun _ _ _ _ h => h) (fun _ _ _ h => h) rfl
        · have HF := ap_F HR.out (hψ.2 (by decide))
          have y0 : W.cell? ⟨wr.heap.size, 0, none⟩ = some (.int .i64 x.energy) := HF.xb.cell 0
          have y1 : W.cell? ⟨wr.heap.size, 1, none⟩ = some (.int .i64 x.full) := HF.xb.cell 1
          have y2 : W.cell? ⟨wr.heap.size, 2, none⟩ = some (.int .i64 x.power) := HF.xb.cell 2
          have y3 : W.cell? ⟨wr.heap.size, 3, none⟩ = some (.int .i64 x.charge) := HF.xb.cell 3
          have hzz := HF.xb.lt
          clear HF
          clear hpre hψ
          go_simp
          exact hK _ _ γ HR.out (fun _ _ _ _ h => h) (fun _ _ _ h => h) rfl
        · clear hpre hψ
          go_simp
          exact hK _ _ γ HR.out (fun _ _ _ _ h => h) (fun _ _ _ h => h) rfl
        · have q0 : evv (.tmp 25) = _ := hpre 6 (by decide)
          have HF := ap_F HR.out (hψ.2 (by decide))
          have y0 : W.cell? ⟨wr.heap.size, 0, none⟩ = some (.int .i64 x.energy) := HF.xb.cell 0
          have hzz := HF.xb.lt
          clear HF
          clear hpre hψ
          go_simp
          exact hK _ _ γ HR.out (fun _ _ _ _ h => h) (fun _ _ _ h => h) rfl
        · have q0 : evv (.tmp 24) = _ := hpre 5 (by decide)
          have q1 : evv (.tmp 26) = _ := hpre 7 (by decide)
          clear hpre hψ
          go_simp
          exact hK _ _ γ HR.out (fun _ _ _ _ h => h) (fun _ _ _ h => h) rfl
        · have q0 : evv (.tmp 27) = _ := hpre 8 (by decide)
          clear hpre
          go_simp
          have hB5 : Below W.heap.size W (W.alloc (.cells #[.int .i64 x.energy, .int .i64 x.full, .int .i64 x.power, .int .i64 x.charge, .int .i64 x.energy] 91)) := (Below.refl _ _).alloc (Nat.le_refl _) _
          exact hK _ _ γ (ap_next (fun W W' h hb => NpF1.next h hb) (fun W W' h k => row_next h k) (hψ.2 (by decide)) HR.out hB5) (fun j u _ _ h => npPhi5_next hB5 h) (fun _ _ _ h => h) ⟨W.heap.size, rfl, fun h0 => ⟨heap_alloc_new W _, ap_own_lt (PhR.is0 HR.out h0).2⟩⟩
        · have q0 : evv (.tmp 23) = _ := hpre 4 (by decide)
          have hγ : γ 0 = 0 := hψ.1 rfl
          obtain ⟨B, q1, hB⟩ := hpre 9 (by decide)
          obtain ⟨hB2, hB1⟩ := hB hγ
          replace q1 : evv (.tmp 28) = _ := q1
          have h0 := PhR.is0 HR.out hγ
          have hrow := h0.2
          obtain ⟨v', W', hr, h2, h3, _, _⟩ := run_append_own_at (P := Try.prog) W (w.heap.size + 2) 86 86 91 i0 (.agg #[.int .i64 0, .int .i64 0, .int .i64 0, .int .i64 0, .int .i64 0]) 5 40 Try.underlying86 hi.out.1 hi.out.2.1 hi.out.2.2.1 hi.out.2.2.2 rfl (by decide) (.slice cA k cc) (k) (xs) hrow ⟨B, 0, none⟩ 1 1 ([.int .i64 x.energy, .int .i64 x.full, .int .i64 x.power, .int .i64 x.charge, .int .i64 x.energy]) rfl (fun j u hj => by
            rw [add0, Blk.cell hB2]
            simpa using hj) (by intro u hu; simp only [List.mem_cons, List.mem_nil_iff, or_false] at hu; rcases hu with rfl | rfl | rfl | rfl | rfl <;> rfl) (by simp only [maxLen]; omega) (by omega) ((fun W h => NpE.hz (NpF1.e h)) _ h0.1)
          unfold execOp
          simp only [resolve, invoke, builtin, Sem.run_bind, Sem.run_pure, Result.andThen_ok, List.map_toArray, List.map_cons, List.map_nil, q0, q1, hr]
          obtain ⟨g', c', e'⟩ := ownsRow_succ h2
          subst e'
          refine hK _ W' (fun _ => 1) (PhR.to1 ((fun W W' h hr hg => NpF1.grown h hr hg) _ _ h0.1 hrow h3)) (fun j u hj hne h => npPhi5_1 hγ hne h) (fun _ j h1 h2 => phPsi_1 h1) ⟨g', c', rfl, by decide, Or.inr h2⟩
        · have q0 : evv (.tmp 19) = _ := hpre 0 (by decide)
          clear hpre hψ
          go_simp
          exact hK _ _ γ HR.out (fun _ _ _ _ h => h) (fun _ _ _ h => h) rfl
        · have q0 : evv (.tmp 30) = _ := hpre 11 (by decide)
          clear hpre hψ
          go_simp
          exact hK _ _ γ HR.out (fun _ _ _ _ h => h) (fun _ _ _ h => h) rfl
        · have q0 : evv (.tmp 31) = _ := hpre 12 (by decide)
          obtain ⟨g', c', q1, hne, hrow⟩ := hpre 10 (by decide)
          replace q1 : evv (.tmp 29) = _ := q1
          have h1 := PhR.is1 HR.out (hψ.2 (by decide)) hne
          have hrow : W.ownsRow (w.heap.size + 2) 91 5 (.slice (some ⟨g', 0, none⟩) (k + 1) c') (k + 1) (xs ++ [.int .i64 x.energy, .int .i64 x.full, .int .i64 x.power, .int .i64 x.charge, .int .i64 x.energy]) := by
            rcases hrow with h | h
            · rw [h1.1] at h; cases h
            · exact h
          have HF := h1.2
          have hfin := HF.store hrow
          have d1 : W.cell? ⟨w.heap.size + 1, 0, none⟩ = some (.slice cA k cc) := HF.e.ply.cell 0
          have fz := HF.e.ply.frozen 0
          have hzz := HF.e.ply.lt
          clear HF
          go_simp
          refine hK undef _ (fun _ => 2) (PhR.to2 hfin) (fun j u h1 h2 h3 => npPhi5_2 h2 h3) (fun h => absurd rfl h) rfl
      · intro vs w' γ hvl hR hφ
        have qe : γ 0 = 2 := hφ 13 (by decide)
        have HR := Lib.hid hR
        clear hφ hR
        match vs, hvl with
        | [y0, y1, y2, y3, y4, y5, y6, y7, y8, y9, y10, y11, y12, y13], _ =>
        obtain ⟨gE, cE, hC⟩ := PhR.is2 HR.out qe
        have HCC := Lib.hid hC
        clear hC qe HR
        simp [putAll]
        go_wp2
        refine ⟨⟨k + 1, by omega, by go_num, _, HCC.out.e, ?_⟩, by simp [intOf]; omega⟩
        have h1 := HCC.out.row
        rw [HXS.out] at h1
        rw [hlen2.out]
        exact h1
    · obtain rfl : k = bn := by omega
      have hcs : (bs.take k).map cel0 = bs.map cel0 := by rw [← HBN.out, List.take_length]
      rw [hcs] at hN
      have HBL : Hid ((bs.map cel0).length = k) := Lib.hid (by rw [List.length_map]; exact HBN.out)
      obtain ⟨cs, hcs1⟩ : ∃ z, z = bs.map cel0 := ⟨_, rfl⟩
      rw [← hcs1] at hN HBL
      have HCS := Lib.hid hcs1
      clear hcs hcs1
      have n0 : wr.cell? ⟨w.heap.size, 1, none⟩ = some (.slice gA fn gc) := hN.out.e.box.cell 1
      have nz := hN.out.e.box.lt
      obtain ⟨w1, hw1⟩ : ∃ z, z = wr := ⟨wr, rfl⟩
      subst hw1
      go_wp2
      go_loopw [36] (fun i wr => ∃ j : Nat, j ≤ fn ∧ i = .int .i64 j ∧ ∃ ev, Hid (NpH2 w #[.slice bA k bc, .slice gA fn gc] cv ev cs (engs0 (gs.take j) (fs.take j)).length ((engs0 (gs.take j) (fs.take j)).flatMap Eng.enc) wr)) (fun i _ => fn - (intOf i).toNat)
      case atStart => exact ⟨0, by omega, rfl, _, hN.out.e, hN.out.row, World.ownsRow_nil _ _ _ _⟩
      case round =>
        obtain ⟨j, hj', rfl, ev, hN⟩ := hrel
        have hzk := hN.out.e.hz
        by_cases hlt : j < fn
        · obtain ⟨b, off, g, e1, hb, hx, hcx⟩ := (HB.out.gen.below hN.out.e.low).at_ hlt
          obtain ⟨fb, fo, f, e2, hfb, hfx, hcf⟩ := HF.out.at_ hlt
          have hgo := HG.out g (List.mem_of_getElem? hx)
          obtain ⟨hf0, hf1⟩ := HFS.out f (List.mem_of_getElem? hfx)
          have KS := Lib.hid (fun W => start_any g f W hgo hf0 hf1)
          have hlen : (engs0 (gs.take j) (fs.take j)).length = j := by have h1 := HGN.out; have h2 := HF.out.1; rw [engs0, List.length_zipWith, List.length_take, List.length_take]; omega
          have hlen2 : Hid ((engs0 (gs.take (j + 1)) (fs.take (j + 1))).length = j + 1) := Lib.hid (by have h1 := HGN.out; have h2 := HF.out.1; rw [engs0, List.length_zipWith, List.length_take, List.length_take]; omega)
          obtain ⟨xs, hxs⟩ : ∃ z, z = (engs0 (gs.take j) (fs.take j)).flatMap Eng.enc := ⟨_, rfl⟩
          have HXS : Hid (xs ++ [.int .i64 g.power, .int .i64 g.ramp, .int .i64 g.delay, .int .i64 g.pause, .int .i64 g.tries, .int .i64 (startOf g f), .int .i64 0, .int .i64 0] = (engs0 (gs.take (j + 1)) (fs.take (j + 1))).flatMap Eng.enc) := Lib.hid (by
            have h1 := HGN.out
            have h2 := HF.out.1
            rw [take_at hx, take_at hfx, hxs, engs0, List.zipWith_append (by rw [List.length_take, List.length_take]; omega)]
            simp [Eng.enc, eng0, engs0])
          rw [hlen, ← hxs] at hN
          obtain ⟨eA, ecc, heq⟩ := row_slice hN.out.row
          subst heq
          have x0 : wr.cell? ⟨b, off + j * 5, none⟩ = some (.int .i64 g.power) := by simpa using hcx 0 _ rfl
          have x1 : wr.cell? ⟨b, off + j * 5 + 1, none⟩ = some (.int .i64 g.ramp) := by simpa using hcx 1 _ rfl
          have x2 : wr.cell? ⟨b, off + j * 5 + 2, none⟩ = some (.int .i64 g.delay) := by simpa using hcx 2 _ rfl
          have x3 : wr.cell? ⟨b, off + j * 5 + 3, none⟩ = some (.int .i64 g.pause) := by simpa using hcx 3 _ rfl
          have x4 : wr.cell? ⟨b, off + j * 5 + 4, none⟩ = some (.int .i64 g.tries) := by simpa using hcx 4 _ rfl
          have HCF : Hid (w.cell? ⟨fb, fo + j, none⟩ = some (.int .i64 f)) := Lib.hid (by simpa using hcf 0 _ rfl)
          have zb : b < wr.heap.size := by omega
          have hk0 : (0 : Int) ≤ (j : Int) := by omega
          have hkn : (j : Int) < (fn : Int) := by omega
          have hkw : IntKind.i64.wrap (j : Int) = (j : Int) := IntWalk.i64_in _ (by omega)
          subst e1
          subst e2
          unfold Gen.val at KS
          clear hx hcx hlen hxs hcf hfx hgo
          go_wp2
          have hB1 : Below wr.heap.size wr (wr.alloc (.cells #[.int .i64 g.power, .int .i64 g.ramp, .int .i64 g.delay, .int .i64 g.pause, .int .i64 g.tries] 66)) := (Below.refl _ _).alloc (Nat.le_refl _) _
          have hA0 : (NpF2 w #[.slice bA k bc, .slice (some ⟨b, off, none⟩) fn gc] cv (.slice eA j ecc) cs wr.heap.size #[.int .i64 g.power, .int .i64 g.ramp, .int .i64 g.delay, .int .i64 g.pause, .int .i64 g.tries] (wr.alloc (.cells #[.int .i64 g.power, .int .i64 g.ramp, .int .i64 g.delay, .int .i64 g.pause, .int .i64 g.tries] 66)).drew ∧ (wr.alloc (.cells #[.int .i64 g.power, .int .i64 g.ramp, .int .i64 g.delay, .int .i64 g.pause, .int .i64 g.tries] 66)).drew.ownsRow (w.heap.size + 2) 94 8 (.slice eA j ecc) j xs) := ⟨⟨hN.out.e.next hB1.drew, row_next hN.out.crow hB1.drew, heap_alloc_new wr _⟩, row_next hN.out.row hB1.drew⟩
          clear hB1 x0 x1 x2 x3 x4
          refine wp_region_free10 17 (by kernel_rfl) [some 41, some 42, some 43, some 44, some 45, some 46, some 47, some 48, some 49, some 50, some 51, some 52, some 53, some 54, some 55, some 56, some 57, none] [[], [], [1], [2], [3], [], [], [], [], [7, 8], [9], [6, 10], [5, 11], [12], [4, 13, 11], [0, 0, 1, 2, 3, 4, 5, 6, 7, 8, 9, 10, 11, 12, 13, 14], [15, 0, 1, 2, 3, 4, 5, 6, 7, 8, 9, 10, 11, 12, 13, 14], [16, 14, 14, 0, 1, 2, 3, 4, 5, 6, 7, 8, 9, 10, 11, 12, 13, 14]] [(1, .slice (some ⟨fb, fo, none⟩) fn fc), (5, .pointer (some ⟨w.heap.size + 1, 0, none⟩)), (8, .int .i64 j), (9, .pointer (some ⟨wr.heap.size, 0, none⟩))] (PhR (fun W => (NpF2 w #[.slice bA k bc, .slice (some ⟨b, off, none⟩) fn gc] cv (.slice eA j ecc) cs wr.heap.size #[.int .i64 g.power, .int .i64 g.ramp, .int .i64 g.delay, .int .i64 g.pause, .int .i64 g.tries]) W ∧ W.ownsRow (w.heap.size + 2) 94 8 (.slice eA j ecc) (j) (xs)) (NpF2 w #[.slice bA k bc, .slice (some ⟨b, off, none⟩) fn gc] cv (.slice eA j ecc) cs wr.heap.size #[.int .i64 g.power, .int .i64 g.ramp, .int .i64 g.delay, .int .i64 g.pause, .int .i64 g.tries]) (NpG2 w #[.slice bA k bc, .slice (some ⟨b, off, none⟩) fn gc] cv cs (j + 1) (xs ++ [.int .i64 g.power, .int .i64 g.ramp, .int .i64 g.delay, .int .i64 g.pause, .int .i64 g.tries, .int .i64 (startOf g f), .int .i64 0, .int .i64 0]))) (npPhi10 w.heap.size fb fo fn fc j wr.heap.size g f eA ecc xs) (phPsi 14) (by kernel_rfl) (by kernel_rfl) rfl (by kernel_rfl) ?_ ?_ ⟨fun _ => 0, PhR.begin hA0, fun i _ => phPsi_0⟩ ?_ ?_
          · intro z hz
            simp only [List.mem_cons, List.mem_nil_iff, or_false] at hz
            rcases hz with rfl | rfl | rfl | rfl
            all_goals exact ⟨by kernel_rfl, rfl⟩
          · intro i v W γ hi h
            rcases i with _ | _ | _ | _ | _ | _ | _ | _ | _ | _ | _ | _ | _ | _ | _ | _ | _ | _ | i
            all_goals first | exact h | (simp at hi)
          · refine ⟨?_, ?_, ?_, ?_, ?_, ?_, ?_, ?_, ?_, ?_, ?_, ?_, ?_, ?_, ?_, ?_, ?_, ?_, trivial⟩
            all_goals
              intro a W γ evv hcc hff hfx hR hψ hpre
              simp only [List.mem_cons, List.mem_nil_iff, or_false, forall_eq, forall_eq_or_imp] at hfx
              obtain ⟨f0, f1, f2, f3⟩ := hfx
              have HR := Lib.hid hR
              clear hR
              refine ⟨fun _ K hK => ?_, trivial⟩

            · clear hpre hψ
              go_simp
              exact hK _ _ γ HR.out (fun _ _ _ _ h => h) (fun _ _ _ h => h) rfl
            · clear hpre hψ
              go_simp
              exact hK _ _ γ HR.out (fun _ _ _ _ h => h) (fun _ _ _ h => h) rfl
            · have q0 : evv (.tmp 42) = _ := hpre 1 (by decide)
              clear hpre hψ
              go_simp
              exact hK _ _ γ HR.out (fun _ _ _ _ h => h) (fun _ _ _ h => h) rfl
            · have q0 : evv (.tmp 43) = _ := hpre 2 (by decide)
              clear hpre hψ
              go_simp
              exact hK _ _ γ HR.out (fun _ _ _ _ h => h) (fun _ _ _ h => h) rfl
            · have q0 : evv (.tmp 44) = _ := hpre 3 (by decide)
              have HF := ap_F HR.out (hψ.2 (by decide))
              have hc1 : W.cell? ⟨w.heap.size + 1, 1, none⟩ = some (.slice eA j ecc) := HF.e.ply.cell 1
              have hzz := HF.e.ply.lt
              clear HF
              clear hpre hψ
              go_simp
              exact hK _ _ γ HR.out (fun _ _ _ _ h => h) (fun _ _ _ h => h) rfl
            · have HF := ap_F HR.out (hψ.2 (by decide))
              have y0 : W.cell? ⟨wr.heap.size, 0, none⟩ = some (.int .i64 g.power) := HF.xb.cell 0
              have y1 : W.cell? ⟨wr.heap.size, 1, none⟩ = some (.int .i64 g.ramp) := HF.xb.cell 1
              have y2 : W.cell? ⟨wr.heap.size, 2, none⟩ = some (.int .i64 g.delay) := HF.xb.cell 2
              have y3 : W.cell? ⟨wr.heap.size, 3, none⟩ = some (.int .i64 g.pause) := HF.xb.cell 3
              have y4 : W.cell? ⟨wr.heap.size, 4, none⟩ = some (.int .i64 g.tries) := HF.xb.cell 4
              have hzz := HF.xb.lt
              clear HF
              clear hpre hψ
              go_simp
              exact hK _ _ γ HR.out (fun _ _ _ _ h => h) (fun _ _ _ h => h) rfl
            · have HF := ap_F HR.out (hψ.2 (by decide))
              have y0 : W.cell? ⟨wr.heap.size, 0, none⟩ = some (.int .i64 g.power) := HF.xb.cell 0
              have y1 : W.cell? ⟨wr.heap.size, 1, none⟩ = some (.int .i64 g.ramp) := HF.xb.cell 1
              have y2 : W.cell? ⟨wr.heap.size, 2, none⟩ = some (.int .i64 g.delay) := HF.xb.cell 2
              have y3 : W.cell? ⟨wr.heap.size, 3, none⟩ = some (.int .i64 g.pause) := HF.xb.cell 3
              have y4 : W.cell? ⟨wr.heap.size, 4, none⟩ = some (.int .i64 g.tries) := HF.xb.cell 4
              have hzz := HF.xb.lt
              clear HF
              clear hpre hψ
              go_simp
              exact hK _ _ γ HR.out (fun _ _ _ _ h => h) (fun _ _ _ h => h) rfl
            · clear hpre hψ
              go_simp
              exact hK _ _ γ HR.out (fun _ _ _ _ h => h) (fun _ _ _ h => h) rfl
            · clear hpre hψ
              go_simp
              exact hK _ _ γ HR.out (fun _ _ _ _ h => h) (fun _ _ _ h => h) rfl
            · have q0 : evv (.tmp 48) = _ := hpre 7 (by decide)
              have q1 : evv (.tmp 49) = _ := hpre 8 (by decide)
              clear hpre hψ
              go_simp
              exact hK _ _ γ HR.out (fun _ _ _ _ h => h) (fun _ _ _ h => h) rfl
            · have q0 : evv (.tmp 50) = _ := hpre 9 (by decide)
              have HF := ap_F HR.out (hψ.2 (by decide))
              have hfc : W.cell? ⟨fb, fo + j, none⟩ = some (.int .i64 f) := (HF.e.low.cell (p := ⟨fb, fo + j, none⟩) hfb).trans HCF.out
              have hzz := HF.e.hz
              have hzf : fb < W.heap.size := by omega
              clear HF
              clear hpre hψ
              go_simp
              exact hK _ _ γ HR.out (fun _ _ _ _ h => h) (fun _ _ _ h => h) rfl
            · have q0 : evv (.tmp 47) = _ := hpre 6 (by decide)
              have q1 : evv (.tmp 51) = _ := hpre 10 (by decide)
              have HF := ap_F HR.out (hψ.2 (by decide))
              have C := Lib.hid (KS.out W)
              clear hpre HF
              go_simp
              refine C.out.mono ?_
              rintro e w5 ⟨rfl, hB5⟩
              exact hK _ w5 γ (ap_next (fun W W' h hb => NpF2.next h hb) (fun W W' h k => row_next h k) (hψ.2 (by decide)) HR.out hB5) (fun j u _ _ h => npPhi10_next hB5 h) (fun _ _ _ h => h) rfl
            · have q0 : evv (.tmp 46) = _ := hpre 5 (by decide)
              have q1 : evv (.tmp 52) = _ := hpre 11 (by decide)
              clear hpre hψ
              go_simp
              exact hK _ _ γ HR.out (fun _ _ _ _ h => h) (fun _ _ _ h => h) rfl
            · have q0 : evv (.tmp 53) = _ := hpre 12 (by decide)
              clear hpre
              go_simp
              have hB5 : Below W.heap.size W (W.alloc (.cells #[.int .i64 g.power, .int .i64 g.ramp, .int .i64 g.delay, .int .i64 g.pause, .int .i64 g.tries, .int .i64 (startOf g f), .int .i64 0, .int .i64 0] 94)) := (Below.refl _ _).alloc (Nat.le_refl _) _
              exact hK _ _ γ (ap_next (fun W W' h hb => NpF2.next h hb) (fun W W' h k => row_next h k) (hψ.2 (by decide)) HR.out hB5) (fun j u _ _ h => npPhi10_next hB5 h) (fun _ _ _ h => h) ⟨W.heap.size, rfl, fun h0 => ⟨heap_alloc_new W _, ap_own_lt (PhR.is0 HR.out h0).2⟩⟩
            · have q0 : evv (.tmp 45) = _ := hpre 4 (by decide)
              have hγ : γ 0 = 0 := hψ.1 rfl
              obtain ⟨B, q1, hB⟩ := hpre 13 (by decide)
              obtain ⟨hB2, hB1⟩ := hB hγ
              replace q1 : evv (.tmp 54) = _ := q1
              have h0 := PhR.is0 HR.out hγ
              have hrow := h0.2
              obtain ⟨v', W', hr, h2, h3, _, _⟩ := run_append_own_at (P := Try.prog) W (w.heap.size + 2) 87 87 94 j0 (.agg #[.int .i64 0, .int .i64 0, .int .i64 0, .int .i64 0, .int .i64 0, .int .i64 0, .int .i64 0, .int .i64 0]) 8 64 Try.underlying87 hj.out.1 hj.out.2.1 hj.out.2.2.1 hj.out.2.2.2 rfl (by decide) (.slice eA j ecc) (j) (xs) hrow ⟨B, 0, none⟩ 1 1 ([.int .i64 g.power, .int .i64 g.ramp, .int .i64 g.delay, .int .i64 g.pause, .int .i64 g.tries, .int .i64 (startOf g f), .int .i64 0, .int .i64 0]) rfl (fun j u hj => by
                rw [add0, Blk.cell hB2]
                simpa using hj) (by intro u hu; simp only [List.mem_cons, List.mem_nil_iff, or_false] at hu; rcases hu with rfl | rfl | rfl | rfl | rfl | rfl | rfl | rfl <;> rfl) (by simp only [maxLen]; omega) (by omega) ((fun W h => NpE.hz (NpF2.e h)) _ h0.1)
              unfold execOp
              simp only [resolve, invoke, builtin, Sem.run_bind, Sem.run_pure, Result.andThen_ok, List.map_toArray, List.map_cons, List.map_nil, q0, q1, hr]
              obtain ⟨g', c', e'⟩ := ownsRow_succ h2
              subst e'
              refine hK _ W' (fun _ => 1) (PhR.to1 ((fun W W' h hr hg => NpF2.grown h hr hg) _ _ h0.1 hrow h3)) (fun j u hj hne h => npPhi10_1 hγ hne h) (fun _ j h1 h2 => phPsi_1 h1) ⟨g', c', rfl, by decide, Or.inr h2⟩
            · have q0 : evv (.tmp 41) = _ := hpre 0 (by decide)
              clear hpre hψ
              go_simp
              exact hK _ _ γ HR.out (fun _ _ _ _ h => h) (fun _ _ _ h => h) rfl
            · have q0 : evv (.tmp 56) = _ := hpre 15 (by decide)
              clear hpre hψ
              go_simp
              exact hK _ _ γ HR.out (fun _ _ _ _ h => h) (fun _ _ _ h => h) rfl
            · have q0 : evv (.tmp 57) = _ := hpre 16 (by decide)
              obtain ⟨g', c', q1, hne, hrow⟩ := hpre 14 (by decide)
              replace q1 : evv (.tmp 55) = _ := q1
              have h1 := PhR.is1 HR.out (hψ.2 (by decide)) hne
              have hrow : W.ownsRow (w.heap.size + 2) 94 8 (.slice (some ⟨g', 0, none⟩) (j + 1) c') (j + 1) (xs ++ [.int .i64 g.power, .int .i64 g.ramp, .int .i64 g.delay, .int .i64 g.pause, .int .i64 g.tries, .int .i64 (startOf g f), .int .i64 0, .int .i64 0]) := by
                rcases hrow with h | h
                · rw [h1.1] at h; cases h
                · exact h
              have HF := h1.2
              have hfin := HF.store hrow
              have d1 : W.cell? ⟨w.heap.size + 1, 1, none⟩ = some (.slice eA j ecc) := HF.e.ply.cell 1
              have fz := HF.e.ply.frozen 1
              have hzz := HF.e.ply.lt
              clear HF
              go_simp
              refine hK undef _ (fun _ => 2) (PhR.to2 hfin) (fun j u h1 h2 h3 => npPhi10_2 h2 h3) (fun h => absurd rfl h) rfl
          · intro vs w' γ hvl hR hφ
            have qe : γ 0 = 2 := hφ 17 (by decide)
            have HR := Lib.hid hR
            clear hφ hR
            match vs, hvl with
            | [y0, y1, y2, y3, y4, y5, y6, y7, y8, y9, y10, y11, y12, y13, y14, y15, y16, y17], _ =>
            obtain ⟨gE, cE, hC⟩ := PhR.is2 HR.out qe
            have HCC := Lib.hid hC
            clear hC qe HR
            simp [putAll]
            go_wp2
            refine ⟨⟨j + 1, by omega, by go_num, _, HCC.out.e, HCC.out.crow, ?_⟩, by simp [intOf]; omega⟩
            have h1 := HCC.out.row
            rw [HXS.out] at h1
            rw [hlen2.out]
            exact h1
        · obtain rfl : j = fn := by omega
          go_wp2
          go_ret
          have h1 := HGN.out
          have h2 := HF.out.1
          have e1 : gs.take j = gs := by rw [← h1, List.take_length]
          have e2 : fs.take j = fs := by rw [← h2, List.take_length]
          have hN' := hN.out
          rw [e1, e2] at hN'
          obtain ⟨cA, cc, cb, hv1, hc1, hc2⟩ := RowW.of_own hN'.crow
          obtain ⟨eA, ec, eb, hv2, he1, he2⟩ := RowW.of_own hN'.row
          have hL : (engs0 gs fs).length = j := by rw [engs0, List.length_zipWith]; omega
          have hply := hN'.e.ply
          have hcl := HBL.out
          refine ⟨⟨w.heap.size + 1, cb, eb, cA, eA, cs.length, cc, (engs0 gs fs).length, ec⟩, rfl, ⟨?_, ?_, he1, ?_, rfl, ?_, ?_, ?_, ?_, ?_⟩, hN'.e.low, ?_⟩
          · rw [hv1, hv2] at hply
            exact hply
          · have : (ply0 bs gs fs).cs = cs := HCS.out.symm
            rw [this]
            exact hc1
          · show (bs.map cel0).length = cs.length
            rw [HCS.out]
          · intro h0 e0
            have := (hc2 h0).1
            dsimp only at e0
            omega
          · intro h0 e0
            have := (he2 h0).1
            dsimp only at e0
            omega
          · intro h0 h3 e0
            have k1 := (hc2 h0).2
            have k2 := (he2 h3).2
            rcases own_far hN'.crow hN'.row (by decide) with h | h
            · rw [h] at k1; cases k1
            · rw [k1, k2] at h; exact h (congrArg some e0)
          · show cs.length ≤ 100
            omega
          · show (engs0 gs fs).length ≤ 100
            omega
          · intro b hm
            rcases hm with h | ⟨h0, h⟩ | ⟨h0, h⟩
            · dsimp only at h; omega
            · have := (hc2 h0).1
              dsimp only at h; omega
            · have := (he2 h0).1
              dsimp only at h; omega
end Go.Proofs.Ytnpkcipeacogcaa
