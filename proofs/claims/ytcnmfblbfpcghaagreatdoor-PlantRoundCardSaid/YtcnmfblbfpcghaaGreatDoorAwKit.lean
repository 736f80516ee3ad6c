/- What the law's awake keeps. -/
import Derived.Test.YtcnmfblbfpcghaaGreatDoorExVal
import Derived.Test.YtcnmfblbfpcghaaGreatDoorPart2

set_option linter.unusedSimpArgs false
set_option linter.unusedVariables false
namespace Go.Proofs.YtcnmfblbfpcghaaGreatDoor
open Go.RowKit

/-- The example's state, its second link open or closed. -/
def exS (g : Nat) (t : Stt) (x : Bool) : Stt := { t with closed := ⟨some ⟨g + 1 + 1, 0, none⟩, 2, 2, [true, x]⟩, on := ⟨some ⟨g + 1, 0, none⟩, 2, 2, [true, true]⟩ }
def exBox (b : Nat) : Array Value := #[.int .i64 3, .slice (some ⟨b, 0, none⟩) 2 2, .slice (some ⟨b + 1 + 1, 0, none⟩) 2 2, .slice (some ⟨b + 1 + 1 + 1, 0, none⟩) 1 1]
def sBox (s : Stt) : Array Value := #[.slice s.closed.A s.closed.n s.closed.c, .slice s.locked.A s.locked.n s.locked.c, .slice s.badLink.A s.badLink.n s.badLink.c, .slice s.on.A s.on.n s.on.c, .slice s.badSource.A s.badSource.n s.badSource.c, .slice s.earthed.A s.earthed.n s.earthed.c, .slice s.badBus.A s.badBus.n s.badBus.c]
theorem exBox_val (b : Nat) : Value.agg (exBox b) = (exP b).val := rfl
theorem sBox_val (s : Stt) : Value.agg (sBox s) = s.val := rfl
structure Aw (w : World) (b q g : Nat) (t : Stt) (x : Bool) (W : World) : Prop where
  low : Below w.heap.size w W
  base : w.heap.size ≤ g + 1 + 1
  plt : PltIn W (g + 1 + 1) (exP b)
  box : Blk W q 26 (exBox b)
  hq : q < g + 1 + 1
  st : Blk W g 29 (sBox (exS g t x))
  locked : BsIn W (g + 1 + 1) t.locked
  badLink : BsIn W (g + 1 + 1) t.badLink
  on : BsIn W (g + 1 + 1) ⟨some ⟨g + 1, 0, none⟩, 2, 2, [true, true]⟩
  badSource : BsIn W (g + 1 + 1) t.badSource
  earthed : BsIn W (g + 1 + 1) t.earthed
  badBus : BsIn W (g + 1 + 1) t.badBus
  closed : Blk W (g + 1 + 1) 4 #[.bool true, .bool x]
theorem Aw.size {w : World} {b q g : Nat} {t : Stt} {x : Bool} {W : World} (h : Aw w b q g t x W) : g + 1 + 1 < W.heap.size := h.closed.lt
theorem Aw.next {w : World} {b q g : Nat} {t : Stt} {x : Bool} {W W' : World} (h : Aw w b q g t x W) (hb : Below W.heap.size W W') : Aw w b q g t x W' := by
  have h1 := h.size
  have h2 := h.base
  have h3 := hb.mono (Nat.le_of_lt h1)
  exact ⟨h.low.trans (hb.mono (by omega)), h2, h.plt.below h3, h.box.below hb (by have := h.hq; omega), h.hq, h.st.below hb (by omega), h.locked.below h3, h.badLink.below h3, h.on.below h3, h.badSource.below h3, h.earthed.below h3, h.badBus.below h3, h.closed.below hb h1⟩
theorem Aw.alloc {w : World} {b q g : Nat} {t : Stt} {x : Bool} {W : World} (h : Aw w b q g t x W) (o : Obj) : Aw w b q g t x (W.alloc o) := h.next ((Below.refl _ _).alloc (Nat.le_refl _) _)
theorem Aw.store {w : World} {b q g : Nat} {t : Stt} {x : Bool} {W : World} (h : Aw w b q g t x W) (y : Bool) : Aw w b q g t y ((W.setCell ⟨g + 1 + 1, 1, none⟩ (.bool y))) := by
  have h3 : Below (g + 1 + 1) W (W.setCell ⟨g + 1 + 1, 1, none⟩ (.bool y)) := (Below.refl _ _).setCell (by simp) _
  exact ⟨h.low.trans (h3.mono h.base), h.base, h.plt.below h3, h.box.below h3 h.hq, h.hq, h.st.below h3 (by omega), h.locked.below h3, h.badLink.below h3, h.on.below h3, h.badSource.below h3, h.earthed.below h3, h.badBus.below h3, h.closed.set_ 1 _⟩
theorem blk_bs {w : World} {g B n : Nat} {l : List Bool} (h : Blk w g 4 (l.map Value.bool).toArray) (hl : l.length = n) (hB : g < B) (hn : n ≤ 9223372036854775807) : BsIn w B ⟨some ⟨g, 0, none⟩, n, n, l⟩ := by
  refine ⟨⟨hl, fun _ => ⟨g, 0, rfl, hB, fun i y hy j u hu => ?_⟩⟩, hn⟩
  unfold encB at hu
  match j, hu with
  | 0, hu =>
    simp only [List.getElem?_cons_zero, Option.some.injEq] at hu
    subst hu
    rw [Blk.cell h]
    simp [hy]
theorem Aw.plt_in {w : World} {b q g : Nat} {t : Stt} {x : Bool} {W : World} (h : Aw w b q g t x W) : PltIn W W.heap.size (exP b) := h.plt.more (Nat.le_of_lt h.size)
theorem Aw.stt_in {w : World} {b q g : Nat} {t : Stt} {x : Bool} {W : World} (h : Aw w b q g t x W) : SttIn W W.heap.size (exS g t x) := by
  have h1 := Nat.le_of_lt h.size
  exact ⟨blk_bs (l := [true, x]) h.closed rfl h.size (by decide), h.locked.more h1, h.badLink.more h1, h.on.more h1, h.badSource.more h1, h.earthed.more h1, h.badBus.more h1⟩
theorem Aw.pc {w : World} {b q g : Nat} {t : Stt} {x : Bool} {W : World} (h : Aw w b q g t x W) : W.cell? ⟨q, 0, none⟩ = some (.int .i64 3) ∧ W.cell? ⟨q, 1, none⟩ = some (.slice (some ⟨b, 0, none⟩) 2 2) ∧ W.cell? ⟨q, 2, none⟩ = some (.slice (some ⟨b + 1 + 1, 0, none⟩) 2 2) ∧ W.cell? ⟨q, 3, none⟩ = some (.slice (some ⟨b + 1 + 1 + 1, 0, none⟩) 1 1) :=
  ⟨h.box.cell 0, h.box.cell 1, h.box.cell 2, h.box.cell 3⟩
theorem Aw.sc {w : World} {b q g : Nat} {t : Stt} {x : Bool} {W : World} (h : Aw w b q g t x W) : W.cell? ⟨g, 0, none⟩ = some (.slice (some ⟨g + 1 + 1, 0, none⟩) 2 2) ∧ W.cell? ⟨g, 1, none⟩ = some (.slice t.locked.A t.locked.n t.locked.c) ∧ W.cell? ⟨g, 2, none⟩ = some (.slice t.badLink.A t.badLink.n t.badLink.c) ∧ W.cell? ⟨g, 3, none⟩ = some (.slice (some ⟨g + 1, 0, none⟩) 2 2)
    ∧ W.cell? ⟨g, 4, none⟩ = some (.slice t.badSource.A t.badSource.n t.badSource.c) ∧ W.cell? ⟨g, 5, none⟩ = some (.slice t.earthed.A t.earthed.n t.earthed.c) ∧ W.cell? ⟨g, 6, none⟩ = some (.slice t.badBus.A t.badBus.n t.badBus.c) :=
  ⟨h.st.cell 0, h.st.cell 1, h.st.cell 2, h.st.cell 3, h.st.cell 4, h.st.cell 5, h.st.cell 6⟩
/-- A state in a box. -/
structure StAt (g : Nat) (s : Stt) (W : World) : Prop where
  st : Blk W g 29 (sBox s)
  s : SttIn W W.heap.size s
theorem StAt.next {g : Nat} {s : Stt} {W W' : World} (h : StAt g s W) (hb : Below W.heap.size W W') : StAt g s W' := ⟨h.st.below hb h.st.lt, h.s.next hb⟩
theorem StAt.alloc {g : Nat} {s : Stt} {W : World} (h : StAt g s W) (o : Obj) : StAt g s (W.alloc o) := h.next ((Below.refl _ _).alloc (Nat.le_refl _) _)
/-- The lists that the example begins with. -/
theorem isles_lit (W : World) (T : TypeId) (a b c d : List Int) (ha : a.length ≤ 10) (hb : b.length ≤ 10) (hc : c.length ≤ 10) (hd : d.length ≤ 10) : ∃ W5, ((((W.alloc (.cells (a.flatMap encI).toArray 3)).alloc (.cells (b.flatMap encI).toArray 3)).alloc (.cells (c.flatMap encI).toArray 3)).alloc (.cells (d.flatMap encI).toArray 3)).alloc
      (.cells (([⟨some ⟨W.heap.size, 0, none⟩, a.length, a.length, a, some ⟨W.heap.size + 1, 0, none⟩, b.length, b.length, b⟩, ⟨some ⟨W.heap.size + 1 + 1, 0, none⟩, c.length, c.length, c, some ⟨W.heap.size + 1 + 1 + 1, 0, none⟩, d.length, d.length, d⟩] : List Isle).flatMap Isle.enc).toArray T) = W5
    ∧ IslesIn W5 W5.heap.size (some ⟨W.heap.size + 1 + 1 + 1 + 1, 0, none⟩) 2 [⟨some ⟨W.heap.size, 0, none⟩, a.length, a.length, a, some ⟨W.heap.size + 1, 0, none⟩, b.length, b.length, b⟩, ⟨some ⟨W.heap.size + 1 + 1, 0, none⟩, c.length, c.length, c, some ⟨W.heap.size + 1 + 1 + 1, 0, none⟩, d.length, d.length, d⟩] ∧ Below W.heap.size W W5 := by
  have h0 := Rd.lit W 3 encI 1 a (fun _ _ => rfl)
  have g0 : Below W.heap.size W (W.alloc (.cells (a.flatMap encI).toArray 3)) := (Below.refl _ _).alloc (Nat.le_refl _) _
  obtain ⟨W1, e1, z1⟩ : ∃ x, W.alloc (.cells (a.flatMap encI).toArray 3) = x ∧ x.heap.size = W.heap.size + 1 := ⟨_, rfl, World.size_alloc _ _⟩
  rw [e1] at h0 g0 ⊢
  have h1 := Rd.lit W1 3 encI 1 b (fun _ _ => rfl)
  have g1 : Below W1.heap.size W1 (W1.alloc (.cells (b.flatMap encI).toArray 3)) := (Below.refl _ _).alloc (Nat.le_refl _) _
  obtain ⟨W2, e2, z2⟩ : ∃ x, W1.alloc (.cells (b.flatMap encI).toArray 3) = x ∧ x.heap.size = W1.heap.size + 1 := ⟨_, rfl, World.size_alloc _ _⟩
  rw [e2] at h1 g1 ⊢
  have h2 := Rd.lit W2 3 encI 1 c (fun _ _ => rfl)
  have g2 : Below W2.heap.size W2 (W2.alloc (.cells (c.flatMap encI).toArray 3)) := (Below.refl _ _).alloc (Nat.le_refl _) _
  obtain ⟨W3, e3, z3⟩ : ∃ x, W2.alloc (.cells (c.flatMap encI).toArray 3) = x ∧ x.heap.size = W2.heap.size + 1 := ⟨_, rfl, World.size_alloc _ _⟩
  rw [e3] at h2 g2 ⊢
  have h3 := Rd.lit W3 3 encI 1 d (fun _ _ => rfl)
  have g3 : Below W3.heap.size W3 (W3.alloc (.cells (d.flatMap encI).toArray 3)) := (Below.refl _ _).alloc (Nat.le_refl _) _
  obtain ⟨W4, e4, z4⟩ : ∃ x, W3.alloc (.cells (d.flatMap encI).toArray 3) = x ∧ x.heap.size = W3.heap.size + 1 := ⟨_, rfl, World.size_alloc _ _⟩
  rw [e4] at h3 g3 ⊢
  obtain ⟨LL, eL⟩ : ∃ x, ([⟨some ⟨W.heap.size, 0, none⟩, a.length, a.length, a, some ⟨W.heap.size + 1, 0, none⟩, b.length, b.length, b⟩, ⟨some ⟨W.heap.size + 1 + 1, 0, none⟩, c.length, c.length, c, some ⟨W.heap.size + 1 + 1 + 1, 0, none⟩, d.length, d.length, d⟩] : List Isle) = x := ⟨_, rfl⟩
  rw [eL]
  have h4 := Rd.lit W4 T Isle.enc 2 LL (fun _ _ => rfl)
  have g4 : Below W4.heap.size W4 (W4.alloc (.cells (LL.flatMap Isle.enc).toArray T)) := (Below.refl _ _).alloc (Nat.le_refl _) _
  obtain ⟨W5, e5, z5⟩ : ∃ x, W4.alloc (.cells (LL.flatMap Isle.enc).toArray T) = x ∧ x.heap.size = W4.heap.size + 1 := ⟨_, rfl, World.size_alloc _ _⟩
  rw [e5] at h4 g4 ⊢
  rw [← z1] at h0
  rw [← z2, z1] at h1
  rw [← z3, z2, z1] at h2
  rw [← z4, z3, z2, z1] at h3
  rw [← z5, z4, z3, z2, z1] at h4
  have hl : LL.length = 2 := by rw [← eL]; rfl
  rw [hl] at h4
  refine ⟨W5, rfl, ⟨h4, by decide, ?_, ?_⟩, below_after g4 (by omega) (below_after g3 (by omega) (below_after g2 (by omega) (below_after g1 (by omega) g0)))⟩
  · intro x hx
    rw [← eL] at hx
    simp only [List.mem_cons, List.mem_nil_iff, or_false] at hx
    rcases hx with rfl | rfl
    · exact ⟨(((h0.next g1).next g2).next g3).next g4, by simp only; omega⟩
    · exact ⟨(h2.next g3).next g4, by simp only; omega⟩
  · intro x hx
    rw [← eL] at hx
    simp only [List.mem_cons, List.mem_nil_iff, or_false] at hx
    rcases hx with rfl | rfl
    · exact ⟨((h1.next g2).next g3).next g4, by simp only; omega⟩
    · exact ⟨h3.next g4, by simp only; omega⟩
theorem IslesIn.next {w w' : World} {A : Option Addr} {n : Nat} {l : List Isle} (h : IslesIn w w.heap.size A n l) (hb : Below w.heap.size w w') : IslesIn w' w'.heap.size A n l :=
  ⟨h.rd.next hb, h.fit, fun x hx => ⟨(h.bus x hx).1.next hb, (h.bus x hx).2⟩, fun x hx => ⟨(h.src x hx).1.next hb, (h.src x hx).2⟩⟩
theorem rd_pairs {w : World} {base : Nat} {A : Option Addr} {c : Nat} {l : List (Int × Int)} (h : w.ownsRow base 86 2 (.slice A l.length c) l.length (pairCells l)) : Rd w w.heap.size 2 encP A l.length l := by
  refine ⟨rfl, fun hn => ?_⟩
  obtain ⟨g, cap, e⟩ := row_some h hn
  simp only [Value.slice.injEq] at e
  obtain ⟨e, _, _⟩ := e
  subst e
  refine ⟨g, 0, rfl, (h.lt g rfl).2, fun i x hx j u hu => ?_⟩
  rw [Nat.zero_add]
  exact row_cell h (flatMap_get (f := encP) (size := 2) l (fun _ _ => rfl) i x hx j u hu)
end Go.Proofs.YtcnmfblbfpcghaaGreatDoor
