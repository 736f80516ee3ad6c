/- plant.blank: the state in which everything is false. -/
import Derived.Test.YtcnmfblbfpcghaaGreatDoorState2
import Derived.Test.YtcnmfblbfpcghaaGreatDoorFree
import Derived.Laws.MakeOwn
import Derived.Maps.AppendAt

set_option linter.unusedSimpArgs false
set_option linter.unusedVariables false
namespace Go.Proofs.YtcnmfblbfpcghaaGreatDoor
open Go.RowKit

/-- A row of the call's own, of elements of type T, made by operation i. -/
def Row (T : TypeId) (w : World) (base : Nat) (γ : Nat → Nat) (i : Nat) (v : Value) (l : List Value) : Prop :=
  w.ownsRow base T 1 v l.length l ∧ ∀ g, v.ownBlock = some g → γ g = i ∧ g < w.heap.size
theorem Row.kept {T : TypeId} {w w' : World} {base : Nat} {γ γ' : Nat → Nat} {i : Nat} {v : Value} {l : List Value} {row : Option Nat} (h : Row T w base γ i v l) (hg : w.grownBy w' row) (hr : ∀ g, row = some g → g < base)
    (hγ : ∀ g, g < w.heap.size → γ' g = γ g) : Row T w' base γ' i v l := by
  refine ⟨h.1.kept hg ?_, fun g e => ⟨(hγ g (h.2 g e).2).trans (h.2 g e).1, Nat.lt_of_lt_of_le (h.2 g e).2 hg.size⟩⟩
  cases hv : v.ownBlock with
  | none => exact .inl rfl
  | some g =>
    refine .inr fun e => ?_
    have h1 := hr g e.symm
    have h2 := (h.1.lt g hv).1
    omega
theorem Row.ne {T T' : TypeId} {w : World} {base : Nat} {γ : Nat → Nat} {i j : Nat} {v u : Value} {l m : List Value} (h : Row T w base γ i v l) (k : Row T' w base γ j u m) (hij : i ≠ j) : ∀ g, v.ownBlock = some g → u.ownBlock ≠ some g :=
  fun g e1 e2 => hij ((h.2 g e1).1.symm.trans (k.2 g e2).1)

theorem boolInfo : (Tryz.prog.info? 4).map (fun i => (i.zero, i.size, i.bytes)) = some (some (.bool false), 1, 1) := by kernel_rfl
theorem madeCells_bool (n : Nat) : madeCells (Value.bool false).cells n = Array.replicate n (.bool false) := by
  unfold madeCells
  apply Array.ext
  · simp
  · intro i h1 h2
    have : i % 1 = 0 := Nat.mod_one i
    simp [Value.cells, this]
/-- make([]bool, n). -/
theorem run_makeBools (n : Nat) (hn : n ≤ 140737488355328) (w : World) : (Instr.makeSlice 27 (.int .i64 n) (.int .i64 n)).run Tryz.prog w = .ok (.slice (some ⟨w.heap.size, 0, none⟩) n n) (w.alloc (.cells (Array.replicate n (.bool false)) 4)) := by
  obtain ⟨i, hi, hz, hs, hb⟩ := info_parts boolInfo
  have h := run_make (P := Tryz.prog) w 27 4 i _ Tryz.underlying27 hi hz .i64 .i64 n n (by omega) (by omega) (by rw [hb]; omega) (by omega)
  simp only [Int.toNat_natCast, hs, Nat.mul_one, madeCells_bool] at h
  exact h
theorem row_made {w : World} {base i n : Nat} {γ' : Nat → Nat} (hn : n ≤ 140737488355328) (hb : base ≤ w.heap.size) (hγ : γ' w.heap.size = i) :
    Row 4 (w.alloc (.cells (Array.replicate n (.bool false)) 4)) base γ' i (.slice (some ⟨w.heap.size, 0, none⟩) n n) ((List.replicate n false).map Value.bool) := by
  refine ⟨⟨by simp, .inr ⟨w.heap.size, n, _, by simp, hb, heap_alloc_new w _, by simp, by unfold maxLen; omega, by simp, by simp⟩⟩, fun g e => ?_⟩
  simp [Value.ownBlock] at e
  subst e
  exact ⟨hγ, by simp⟩

theorem _root_.Go.World.ownsRow.mono_base {w : World} {base base' : Nat} {e : TypeId} {size n : Nat} {v : Value} {xs : List Value} (h : w.ownsRow base e size v n xs) (hb : base' ≤ base) : w.ownsRow base' e size v n xs := by
  refine ⟨h.1, ?_⟩
  rcases h.2 with h | ⟨g, cap, cur, hv, hg, r⟩
  · exact .inl h
  · exact .inr ⟨g, cap, cur, hv, by omega, r⟩
/-- Rows, one for each of some operations. -/
def RowsAre (T : TypeId) (w : World) (base : Nat) (γ : Nat → Nat) : List Value → List (Nat × List Value) → Prop
  | [], [] => True
  | v :: vs, r :: rs => Row T w base γ r.1 v r.2 ∧ RowsAre T w base γ vs rs
  | _, _ => False
theorem RowsAre.kept {T : TypeId} {w w' : World} {base : Nat} {γ γ' : Nat → Nat} {row : Option Nat} (hg : w.grownBy w' row) (hr : ∀ g, row = some g → g < base) (hγ : ∀ g, g < w.heap.size → γ' g = γ g) :
    ∀ {vs : List Value} {rs : List (Nat × List Value)}, RowsAre T w base γ vs rs → RowsAre T w' base γ' vs rs := by
  intro vs
  induction vs with
  | nil => intro rs h; cases rs <;> exact h
  | cons v vs ih =>
    intro rs h
    cases rs with
    | nil => exact h
    | cons r rs => exact ⟨h.1.kept hg hr hγ, ih h.2⟩
theorem Row.form {T : TypeId} {w : World} {base : Nat} {γ : Nat → Nat} {i : Nat} {v : Value} {l : List Value} (h : Row T w base γ i v l) : ∃ A n c, v = .slice A n c := by
  rcases h.1.2 with ⟨e, _⟩ | ⟨g, cap, cur, e, _⟩
  · exact ⟨_, _, _, e⟩
  · exact ⟨_, _, _, e⟩

/-- A list of bools that is the call's own. -/
structure BsOwn (w : World) (base : Nat) (b : Bs) : Prop where
  own : w.ownsRow base 4 1 (.slice b.A b.n b.c) b.n (b.l.map Value.bool)
  len : b.l.length = b.n
def Bs.blk (b : Bs) : Option Nat := (Value.slice b.A b.n b.c).ownBlock
def Stt.lists (s : Stt) : List Bs := [s.closed, s.locked, s.badLink, s.on, s.badSource, s.earthed, s.badBus]
def Stt.vals (s : Stt) : List Value := s.lists.map Bs.val
/-- A state whose lists are the call's own, each in a block of its own. -/
structure SttOwn (w : World) (base : Nat) (s : Stt) : Prop where
  own : ∀ b ∈ s.lists, BsOwn w base b
  apart : s.lists.Pairwise fun a b => ∀ g, a.blk = some g → b.blk ≠ some g
theorem Row.bs {w : World} {base : Nat} {γ : Nat → Nat} {i : Nat} {v : Value} {m : List Bool} (h : Row 4 w base γ i v (m.map Value.bool)) : ∃ b : Bs, v = b.val ∧ b.l = m ∧ b.n = m.length ∧ BsOwn w base b ∧ ∀ g, b.blk = some g → γ g = i := by
  have hf : ∃ A c, v = .slice A m.length c := by
    rcases h.1.2 with ⟨e, h0⟩ | ⟨g, cap, cur, e, _⟩
    · refine ⟨none, 0, ?_⟩
      rw [List.length_map] at h0
      rw [h0]
      exact e
    · rw [List.length_map] at e
      exact ⟨_, _, e⟩
  obtain ⟨A, c, rfl⟩ := hf
  have h1 := h.1
  rw [List.length_map] at h1
  exact ⟨⟨A, m.length, c, m⟩, rfl, rfl, rfl, ⟨h1, rfl⟩, fun g e => (h.2 g e).1⟩
theorem RowsAre.uncons {T : TypeId} {w : World} {base : Nat} {γ : Nat → Nat} {vs : List Value} {r : Nat × List Value} {rs : List (Nat × List Value)} (h : RowsAre T w base γ vs (r :: rs)) : ∃ v us, vs = v :: us ∧ Row T w base γ r.1 v r.2 ∧ RowsAre T w base γ us rs := by
  cases vs with
  | nil => exact h.elim
  | cons v us => exact ⟨v, us, rfl, h.1, h.2⟩
theorem RowsAre.unnil {T : TypeId} {w : World} {base : Nat} {γ : Nat → Nat} {vs : List Value} (h : RowsAre T w base γ vs []) : vs = [] := by
  cases vs with
  | nil => rfl
  | cons v us => exact h.elim
theorem rows_stt {w : World} {base : Nat} {γ : Nat → Nat} {vs : List Value} {i0 i1 i2 i3 i4 i5 i6 : Nat} {m0 m1 m2 m3 m4 m5 m6 : List Bool}
    (h : RowsAre 4 w base γ vs [(i0, m0.map Value.bool), (i1, m1.map Value.bool), (i2, m2.map Value.bool), (i3, m3.map Value.bool), (i4, m4.map Value.bool), (i5, m5.map Value.bool), (i6, m6.map Value.bool)])
    (hn : [i0, i1, i2, i3, i4, i5, i6].Nodup) : ∃ s : Stt, vs = s.vals ∧ s.closed.l = m0 ∧ s.locked.l = m1 ∧ s.badLink.l = m2 ∧ s.on.l = m3 ∧ s.badSource.l = m4 ∧ s.earthed.l = m5 ∧ s.badBus.l = m6 ∧ SttOwn w base s := by
  obtain ⟨v0, u0, rfl, r0, h⟩ := h.uncons
  obtain ⟨v1, u1, rfl, r1, h⟩ := h.uncons
  obtain ⟨v2, u2, rfl, r2, h⟩ := h.uncons
  obtain ⟨v3, u3, rfl, r3, h⟩ := h.uncons
  obtain ⟨v4, u4, rfl, r4, h⟩ := h.uncons
  obtain ⟨v5, u5, rfl, r5, h⟩ := h.uncons
  obtain ⟨v6, u6, rfl, r6, h⟩ := h.uncons
  obtain rfl := h.unnil
  obtain ⟨b0, rfl, l0, n0, o0, g0⟩ := Row.bs r0
  obtain ⟨b1, rfl, l1, n1, o1, g1⟩ := Row.bs r1
  obtain ⟨b2, rfl, l2, n2, o2, g2⟩ := Row.bs r2
  obtain ⟨b3, rfl, l3, n3, o3, g3⟩ := Row.bs r3
  obtain ⟨b4, rfl, l4, n4, o4, g4⟩ := Row.bs r4
  obtain ⟨b5, rfl, l5, n5, o5, g5⟩ := Row.bs r5
  obtain ⟨b6, rfl, l6, n6, o6, g6⟩ := Row.bs r6
  refine ⟨⟨b0, b1, b2, b3, b4, b5, b6⟩, rfl, l0, l1, l2, l3, l4, l5, l6, ?_, ?_⟩
  · intro b hb
    simp only [Stt.lists, List.mem_cons, List.mem_nil_iff, or_false] at hb
    rcases hb with rfl | rfl | rfl | rfl | rfl | rfl | rfl <;> assumption
  · have key : ∀ {i j : Nat} {a b : Bs}, (∀ g, a.blk = some g → γ g = i) → (∀ g, b.blk = some g → γ g = j) → i ≠ j → ∀ g, a.blk = some g → b.blk ≠ some g :=
      fun ha hb hij g e1 e2 => hij ((ha g e1).symm.trans (hb g e2))
    simp only [List.nodup_cons, List.mem_cons, List.mem_nil_iff, or_false, not_or] at hn
    obtain ⟨⟨h01, h02, h03, h04, h05, h06⟩, ⟨h12, h13, h14, h15, h16⟩, ⟨h23, h24, h25, h26⟩, ⟨h34, h35, h36⟩, ⟨h45, h46⟩, h56, _⟩ := hn
    simp only [Stt.lists, List.pairwise_cons, List.mem_cons, List.mem_nil_iff, or_false, forall_eq_or_imp, forall_eq]
    exact ⟨⟨key g0 g1 h01, key g0 g2 h02, key g0 g3 h03, key g0 g4 h04, key g0 g5 h05, key g0 g6 h06⟩, ⟨key g1 g2 h12, key g1 g3 h13, key g1 g4 h14, key g1 g5 h15, key g1 g6 h16⟩, ⟨key g2 g3 h23, key g2 g4 h24, key g2 g5 h25, key g2 g6 h26⟩, ⟨key g3 g4 h34, key g3 g5 h35, key g3 g6 h36⟩, ⟨key g4 g5 h45, key g4 g6 h46⟩, key g5 g6 h56, fun _ h => absurd h (by simp), .nil⟩
/-- A struct of seven cells stored over a block of seven. -/
theorem store7 {W : World} {g : Nat} {T : TypeId} {c0 c1 c2 c3 c4 c5 c6 : Value} (h : Blk W g T #[c0, c1, c2, c3, c4, c5, c6]) (v0 v1 v2 v3 v4 v5 v6 : Value) :
    Blk (((((((W.setCell ⟨g, 0, none⟩ v0).setCell ⟨g, 1, none⟩ v1).setCell ⟨g, 2, none⟩ v2).setCell ⟨g, 3, none⟩ v3).setCell ⟨g, 4, none⟩ v4).setCell ⟨g, 5, none⟩ v5).setCell ⟨g, 6, none⟩ v6) g T #[v0, v1, v2, v3, v4, v5, v6] ∧
    W.grownBy (((((((W.setCell ⟨g, 0, none⟩ v0).setCell ⟨g, 1, none⟩ v1).setCell ⟨g, 2, none⟩ v2).setCell ⟨g, 3, none⟩ v3).setCell ⟨g, 4, none⟩ v4).setCell ⟨g, 5, none⟩ v5).setCell ⟨g, 6, none⟩ v6) (some g) := by
  refine ⟨?_, ?_⟩
  · have k := ((((((h.set_ 0 v0).set_ 1 v1).set_ 2 v2).set_ 3 v3).set_ 4 v4).set_ 5 v5).set_ 6 v6
    simpa only [List.setIfInBounds_toArray, List.set_cons_zero, List.set_cons_succ] using k
  · have k0 := only_setCell (World.grownBy.refl W (some g)) (p := ⟨g, 0, none⟩) rfl v0
    have k1 := only_setCell k0 (p := ⟨g, 1, none⟩) rfl v1
    have k2 := only_setCell k1 (p := ⟨g, 2, none⟩) rfl v2
    have k3 := only_setCell k2 (p := ⟨g, 3, none⟩) rfl v3
    have k4 := only_setCell k3 (p := ⟨g, 4, none⟩) rfl v4
    have k5 := only_setCell k4 (p := ⟨g, 5, none⟩) rfl v5
    exact only_setCell k5 (p := ⟨g, 6, none⟩) rfl v6

/-- What the operations of a literal leave: values that are known, rows, the literal, the block in which it is stored. -/
inductive Lf where
  | is (v : Value)
  | row (T : TypeId) (l : List Value)
  | agg (T : TypeId) (rs : List (Nat × List Value))
  | cells (g : Nat) (T T' : TypeId) (rs : List (Nat × List Value))
def Lf.ok (base i : Nat) (v : Value) (w : World) (γ : Nat → Nat) : Lf → Prop
  | .is u => v = u
  | .row T l => Row T w base γ i v l
  | .agg T rs => ∃ vs : List Value, v = .agg vs.toArray ∧ RowsAre T w base γ vs rs
  | .cells g T T' rs => ∃ vs : List Value, w.heap[g]? = some (.cells vs.toArray T' (0, 0)) ∧ RowsAre T w base γ vs rs
def lfs (base : Nat) (fs : List Lf) (i : Nat) (v : Value) (w : World) (γ : Nat → Nat) : Prop := match fs[i]? with | some f => f.ok base i v w γ | none => True
theorem Lf.kept {base i : Nat} {v : Value} {w w' : World} {γ γ' : Nat → Nat} {f : Lf} (h : f.ok base i v w γ) (hg : w.grownBy w' none) (hγ : ∀ g, g < w.heap.size → γ' g = γ g) : f.ok base i v w' γ' := by
  cases f with
  | is u => exact h
  | row T l => exact Row.kept h hg (fun g e => by cases e) hγ
  | agg T rs =>
    obtain ⟨vs, e, hr⟩ := h
    exact ⟨vs, e, hr.kept hg (fun g e => by cases e) hγ⟩
  | cells g T T' rs =>
    obtain ⟨vs, e, hr⟩ := h
    exact ⟨vs, (hg.block g (Array.getElem?_eq_some_iff.1 e).1 (by simp)).trans e, hr.kept hg (fun g e => by cases e) hγ⟩
theorem lfs_kept {base : Nat} {fs : List Lf} {w w' : World} {γ γ' : Nat → Nat} (hg : w.grownBy w' none) (hγ : ∀ g, g < w.heap.size → γ' g = γ g) : ∀ j u, lfs base fs j u w γ → lfs base fs j u w' γ' := by
  intro j u h
  unfold lfs at h ⊢
  split
  · rename_i f hf
    rw [hf] at h
    exact Lf.kept h hg hγ
  · trivial
theorem lfs_store {base g : Nat} {fs : List Lf} {w w' : World} {γ : Nat → Nat} (hg : w.grownBy w' (some g)) (hb : g < base)
    (hc : ∀ k T T' rs, Lf.cells k T T' rs ∈ fs → ∃ vs : List Value, w'.heap[k]? = some (.cells vs.toArray T' (0, 0)) ∧ RowsAre T w' base γ vs rs) : ∀ j u, lfs base fs j u w γ → lfs base fs j u w' γ := by
  intro j u h
  unfold lfs at h ⊢
  split
  · rename_i f hf
    rw [hf] at h
    have hmem := List.mem_of_getElem? hf
    have hr : ∀ k, some g = some k → k < base := fun k e => by cases e; exact hb
    cases f with
    | is u => exact h
    | row T l => exact Row.kept h hg hr (fun _ _ => rfl)
    | agg T rs =>
      obtain ⟨vs, e, hrs⟩ := h
      exact ⟨vs, e, hrs.kept hg hr (fun _ _ => rfl)⟩
    | cells k T T' rs => exact hc k T T' rs hmem
  · trivial
/-- γ with one block more. -/
def also (γ : Nat → Nat) (b i : Nat) : Nat → Nat := fun g => if g = b then i else γ g
theorem also_same (γ : Nat → Nat) (b i : Nat) : also γ b i b = i := by simp [also]
theorem also_old (γ : Nat → Nat) (b i : Nat) : ∀ g, g < b → also γ b i g = γ g := fun g h => by simp [also]; omega

def blankDs : List (Option Nat) := [some 3, some 4, some 5, some 6, some 7, some 8, some 9, some 10, some 11, some 12, some 13, some 14, some 15, some 16, some 17, some 18, some 19, some 20, some 21, some 22, some 23, some 24, some 25, some 26, some 27, some 28, some 29, none]
def noB (n : Nat) : List Bool := List.replicate n false
def blankRows (p : Plt) (B : Nat) : List (Nat × List Value) := [(3, (noB p.ln).map Value.bool), (7, (noB p.ln).map Value.bool), (11, (noB p.ln).map Value.bool), (15, (noB p.sn).map Value.bool), (19, (noB p.sn).map Value.bool), (22, (noB B).map Value.bool), (25, (noB B).map Value.bool)]
def blankFs (N : Nat) (p : Plt) (B : Nat) : List Lf :=
  [.is (.pointer (some ⟨N, 2, none⟩)), .is (.slice p.lA p.ln p.lc), .is (.int .i64 p.ln), .row 4 ((noB p.ln).map Value.bool), .is (.pointer (some ⟨N, 2, none⟩)), .is (.slice p.lA p.ln p.lc), .is (.int .i64 p.ln), .row 4 ((noB p.ln).map Value.bool),
   .is (.pointer (some ⟨N, 2, none⟩)), .is (.slice p.lA p.ln p.lc), .is (.int .i64 p.ln), .row 4 ((noB p.ln).map Value.bool), .is (.pointer (some ⟨N, 1, none⟩)), .is (.slice p.sA p.sn p.sc), .is (.int .i64 p.sn), .row 4 ((noB p.sn).map Value.bool),
   .is (.pointer (some ⟨N, 1, none⟩)), .is (.slice p.sA p.sn p.sc), .is (.int .i64 p.sn), .row 4 ((noB p.sn).map Value.bool), .is (.pointer (some ⟨N, 0, none⟩)), .is (.int .i64 B), .row 4 ((noB B).map Value.bool),
   .is (.pointer (some ⟨N, 0, none⟩)), .is (.int .i64 B), .row 4 ((noB B).map Value.bool), .agg 4 (blankRows p B), .cells (N + 1) 4 29 (blankRows p B)]
/-- Between the operations of blank's literal. -/
structure BlankR (w0 : World) (p : Plt) (B : Nat) (w : World) (γ : Nat → Nat) : Prop where
  below : Below w0.heap.size w0 w
  size : w0.heap.size + 2 ≤ w.heap.size
  p0 : w.cell? ⟨w0.heap.size, 0, none⟩ = some (.int .i64 B)
  p1 : w.cell? ⟨w0.heap.size, 1, none⟩ = some (.slice p.sA p.sn p.sc)
  p2 : w.cell? ⟨w0.heap.size, 2, none⟩ = some (.slice p.lA p.ln p.lc)
  out : ∃ c0 c1 c2 c3 c4 c5 c6 : Value, w.heap[w0.heap.size + 1]? = some (.cells #[c0, c1, c2, c3, c4, c5, c6] 29 (0, 0))
theorem BlankR.alloc {w0 : World} {p : Plt} {B : Nat} {w : World} {γ γ' : Nat → Nat} (h : BlankR w0 p B w γ) (o : Obj) : BlankR w0 p B (w.alloc o) γ' := by
  obtain ⟨h1, h2, h3, h4, h5, c0, c1, c2, c3, c4, c5, c6, h6⟩ := h
  refine ⟨h1.alloc (by omega) _, by simp; omega, (World.cell?_alloc_past _ _ _ (by omega)).trans h3, (World.cell?_alloc_past _ _ _ (by omega)).trans h4, (World.cell?_alloc_past _ _ _ (by omega)).trans h5, c0, c1, c2, c3, c4, c5, c6, ?_⟩
  exact (Below.heap_alloc w o _ (by omega)).trans h6
theorem BlankR.store {w0 : World} {p : Plt} {B : Nat} {w w' : World} {γ : Nat → Nat} (h : BlankR w0 p B w γ) (hg : w.grownBy w' (some (w0.heap.size + 1))) {c0 c1 c2 c3 c4 c5 c6 : Value} (hb : Blk w' (w0.heap.size + 1) 29 #[c0, c1, c2, c3, c4, c5, c6]) : BlankR w0 p B w' γ := by
  obtain ⟨h1, h2, h3, h4, h5, -⟩ := h
  exact ⟨h1.grown hg (by omega) (fun k e => by cases e; omega), Nat.le_trans h2 hg.size, hg.cell h3 (by simp), hg.cell h4 (by simp), hg.cell h5 (by simp), c0, c1, c2, c3, c4, c5, c6, hb⟩
set_option maxRecDepth 100000 in
set_option maxHeartbeats 4000000 in
theorem blank_any (p : Plt) (w : World) (hs : p.sn ≤ 140737488355328) (hl : p.ln ≤ 140737488355328) (B : Nat) (hB : p.buses = B) (hB' : B ≤ 140737488355328) :
    Calls Tryz.prog 39 #[p.val] w fun e w' => ∃ s : Stt, e = .returned s.val ∧ Below w.heap.size w w' ∧ SttOwn w' w.heap.size s ∧ s.closed.l = noB p.ln ∧ s.locked.l = noB p.ln ∧ s.badLink.l = noB p.ln ∧ s.on.l = noB p.sn ∧ s.badSource.l = noB p.sn ∧ s.earthed.l = noB B ∧ s.badBus.l = noB B := by
  unfold Plt.val
  rw [hB]
  go_enter Tryz.func39, Tryz.ntmps39
  go_wp2
  refine wp_region_free blankDs [(1, .pointer (some ⟨w.heap.size, 0, none⟩)), (2, .pointer (some ⟨w.heap.size + 1, 0, none⟩))] (BlankR w p B) (lfs (w.heap.size + 2) (blankFs w.heap.size p B)) (by kernel_rfl) (by kernel_rfl) rfl ?_ ?_ ⟨fun _ => 0, ?_⟩ ?_ ?_
  · intro x hx
    simp only [List.mem_cons, List.mem_nil_iff, or_false] at hx
    rcases hx with rfl | rfl <;> exact ⟨rfl, rfl⟩
  · intro i v W γ hi h
    rcases Nat.lt_or_ge i 28 with hlt | hge
    · match i, hlt, hi, h with
      | 27, _, _, h => exact h
    · unfold lfs
      rw [List.getElem?_eq_none (by simpa [blankFs] using hge)]
      trivial
  · refine ⟨(Below.refl _ _).alloc (Nat.le_refl _) _ |>.alloc (by simp) _ |>.drew, by simp, by simp [go_sem], by simp [go_sem], by simp [go_sem], .slice none 0 0, .slice none 0 0, .slice none 0 0, .slice none 0 0, .slice none 0 0, .slice none 0 0, .slice none 0 0, ?_⟩
    have h := heap_alloc_new (w.alloc (.cells #[.int .i64 B, .slice p.sA p.sn p.sc, .slice p.lA p.ln p.lc, .slice p.rA p.rn p.rc] 26)) (.cells #[.slice none 0 0, .slice none 0 0, .slice none 0 0, .slice none 0 0, .slice none 0 0, .slice none 0 0, .slice none 0 0] 29)
    rw [World.size_alloc] at h
    exact h
  · refine ⟨?_, ?_, ?_, ?_, ?_, ?_, ?_, ?_, ?_, ?_, ?_, ?_, ?_, ?_, ?_, ?_, ?_, ?_, ?_, ?_, ?_, ?_, ?_, ?_, ?_, ?_, ?_, ?_, trivial⟩
    rotate_right 2
    · -- the literal
      intro a W γ ev hc hf hfx hR hpre K hK
      simp [left, blankDs, lfs, blankFs, Lf.ok] at hpre
      obtain ⟨r0, r1, r2, r3, r4, r5, r6⟩ := hpre
      obtain ⟨A0, n0, c0, e0⟩ := r0.form
      obtain ⟨A1, n1, c1, e1⟩ := r1.form
      obtain ⟨A2, n2, c2, e2⟩ := r2.form
      obtain ⟨A3, n3, c3, e3⟩ := r3.form
      obtain ⟨A4, n4, c4, e4⟩ := r4.form
      obtain ⟨A5, n5, c5, e5⟩ := r5.form
      obtain ⟨A6, n6, c6, e6⟩ := r6.form
      rw [e0] at r0
      rw [e1] at r1
      rw [e2] at r2
      rw [e3] at r3
      rw [e4] at r4
      rw [e5] at r5
      rw [e6] at r6
      have HR : Hid (RowsAre 4 W (w.heap.size + 2) γ [.slice A0 n0 c0, .slice A1 n1 c1, .slice A2 n2 c2, .slice A3 n3 c3, .slice A4 n4 c4, .slice A5 n5 c5, .slice A6 n6 c6] (blankRows p B)) := ⟨r0, r1, r2, r3, r4, r5, r6, trivial⟩
      clear r0 r1 r2 r3 r4 r5 r6
      go_simp
      exact hK _ _ _ hR (fun _ _ h => h) ⟨_, rfl, HR.out⟩
    · -- the store
      intro a W γ ev hc hf hfx hR hpre K hK
      simp only [List.mem_cons, List.mem_nil_iff, or_false, forall_eq, forall_eq_or_imp] at hfx
      obtain ⟨e1, e2⟩ := hfx
      have hpre := hpre 26 (by simp)
      obtain ⟨vs, e3, hr⟩ := hpre
      replace e3 : ev (.tmp 29) = .agg vs.toArray := e3
      obtain ⟨s, rfl, -⟩ := rows_stt hr (by decide)
      obtain ⟨c0, c1, c2, c3, c4, c5, c6, hb⟩ := hR.out
      have hb : Blk W _ _ _ := hb
      have S := store7 hb (Value.slice s.closed.A s.closed.n s.closed.c) (Value.slice s.locked.A s.locked.n s.locked.c) (Value.slice s.badLink.A s.badLink.n s.badLink.c) (Value.slice s.on.A s.on.n s.on.c) (Value.slice s.badSource.A s.badSource.n s.badSource.c) (Value.slice s.earthed.A s.earthed.n s.earthed.c) (Value.slice s.badBus.A s.badBus.n s.badBus.c)
      obtain ⟨S1, S2⟩ := S
      have HR := Lib.hid hr
      have HS1 := Lib.hid S1
      have HS2 := Lib.hid S2
      clear hr S1 S2
      replace e3 : ev (.tmp 29) = .agg #[Value.slice s.closed.A s.closed.n s.closed.c, Value.slice s.locked.A s.locked.n s.locked.c, Value.slice s.badLink.A s.badLink.n s.badLink.c, Value.slice s.on.A s.on.n s.on.c, Value.slice s.badSource.A s.badSource.n s.badSource.c, Value.slice s.earthed.A s.earthed.n s.earthed.c, Value.slice s.badBus.A s.badBus.n s.badBus.c] := e3
      have d0 := hb.cell 0
      have d1 := hb.cell 1
      have d2 := hb.cell 2
      have d3 := hb.cell 3
      have d4 := hb.cell 4
      have d5 := hb.cell 5
      have d6 := hb.cell 6
      simp at d0 d1 d2 d3 d4 d5 d6
      have fz := hb.frozen
      have HB := Lib.hid hb
      clear hb
      go_simp
      have HRr := (HR.out.kept HS2.out (fun k e => by cases e; omega) (fun _ _ => rfl) : RowsAre _ _ _ γ _ _)
      refine hK undef _ γ (hR.store HS2.out HS1.out) (lfs_store HS2.out (by omega) ?_) ⟨_, HS1.out, HRr⟩
      intro k T T' rs hmem
      simp [blankFs] at hmem
      obtain ⟨rfl, rfl, rfl, rfl⟩ := hmem
      exact ⟨_, HS1.out, HRr⟩
    all_goals
      intro a W γ ev hc hf hfx hR hpre K hK
      simp only [List.mem_cons, List.mem_nil_iff, or_false, forall_eq, forall_eq_or_imp] at hfx
      obtain ⟨e1, e2⟩ := hfx
      simp [left, blankDs, lfs, blankFs, Lf.ok] at hpre
      have hp0 := hR.p0
      have hp1 := hR.p1
      have hp2 := hR.p2
      have m1 := run_makeBools p.ln hl W
      have m2 := run_makeBools p.sn hs W
      have m3 := run_makeBools B hB' W
      have hz : w.heap.size + 2 ≤ W.heap.size := hR.size
      go_simp
      first
        | exact hK _ _ _ hR (fun _ _ h => h) rfl
        | exact hK _ _ (also γ W.heap.size _) (hR.alloc _) (lfs_kept (World.grownBy_alloc _ _ none) (also_old _ _ _)) (row_made (by assumption) hz (also_same _ _ _))
  · intro a' w' γ h1 h2 h3 h4 h5
    obtain ⟨vs, hb, hr⟩ := h5 27 (by decide)
    obtain ⟨s, rfl, l0, l1, l2, l3, l4, l5, l6, ho⟩ := rows_stt hr (by decide)
    have e2 : a'.tmps[2]?.getD undef = .pointer (some ⟨w.heap.size + 1, 0, none⟩) := by simpa using h3 (2, .pointer (some ⟨w.heap.size + 1, 0, none⟩)) (by simp)
    have hb : Blk w' (w.heap.size + 1) 29 #[.slice s.closed.A s.closed.n s.closed.c, .slice s.locked.A s.locked.n s.locked.c, .slice s.badLink.A s.badLink.n s.badLink.c, .slice s.on.A s.on.n s.on.c, .slice s.badSource.A s.badSource.n s.badSource.c, .slice s.earthed.A s.earthed.n s.earthed.c, .slice s.badBus.A s.badBus.n s.badBus.c] := hb
    have d0 := hb.cell 0
    have d1 := hb.cell 1
    have d2 := hb.cell 2
    have d3 := hb.cell 3
    have d4 := hb.cell 4
    have d5 := hb.cell 5
    have d6 := hb.cell 6
    simp at d0 d1 d2 d3 d4 d5 d6
    clear hb hr h5 h3
    go_wp2
    refine bodyPost_ret (v := s.val) ?_ h1 ⟨s, rfl, h4.below, ⟨fun b hb => ⟨(ho.own b hb).own.mono_base (by omega), (ho.own b hb).len⟩, ho.apart⟩, l0, l1, l2, l3, l4, l5, l6⟩
    simp [results, Tryz.results39, go_sem, e2, d0, d1, d2, d3, d4, d5, d6, Stt.val]
end Go.Proofs.YtcnmfblbfpcghaaGreatDoor
