/- A range over a function whose elements come with facts about the memory. -/
import Derived.Test.YtcecbohaajocfaaKpG
import Derived.RangeFuncNested
import Derived.RangeFuncBound
import Derived.RangeFuncCalls
import Derived.RangeFuncLeaves
import Derived.RangeFuncBox

set_option linter.unusedSimpArgs false
set_option linter.unusedVariables false
namespace Go.Proofs.Ytcecbohaajocfaa
open Go.RowKit

theorem block_at {w : World} {p : Addr} {v : Value} (h : w.cell? p = some v) : p.block < w.heap.size := by
  rcases Nat.lt_or_ge p.block w.heap.size with h1 | h1
  · exact h1
  · simp [World.cell?, Array.getElem?_eq_none h1] at h
/-- The cells of safe blocks hold what they held. -/
def KpS (Sf : Nat → Prop) (w w' : World) : Prop := w.heap.size ≤ w'.heap.size ∧ ∀ (p : Addr) (v : Value), Sf p.block → w.cell? p = some v → w'.cell? p = some v
theorem KpS.refl (Sf : Nat → Prop) (w : World) : KpS Sf w w := ⟨Nat.le_refl _, fun _ _ _ h => h⟩
theorem KpS.trans {Sf : Nat → Prop} {A B C : World} (h : KpS Sf A B) (k : KpS Sf B C) : KpS Sf A C := ⟨Nat.le_trans h.1 k.1, fun p v hp e => k.2 p v hp (h.2 p v hp e)⟩
theorem KpS.grown {Sf : Nat → Prop} {w w' : World} {row : Option Nat} (h : w.grownBy w' row) (hr : ∀ r, row = some r → ¬ Sf r) : KpS Sf w w' :=
  ⟨h.size, fun p v hp e => by
    have hb := h.block p.block (block_at e) (fun e1 => hr _ e1.symm hp)
    simp only [World.cell?] at e ⊢
    rw [hb]
    exact e⟩
theorem KpS.putObj {Sf : Nat → Prop} (W : World) (l : Nat) (o o' : Obj) (hl : W.heap[l]? = some o) (ho : o.isCells = false) : KpS Sf W (W.putObj l o') := by
  refine ⟨(grownBy_putObj' W l o').size, fun p v hp e => ?_⟩
  have hne : p.block ≠ l := by
    intro e1
    rw [← e1] at hl
    simp only [World.cell?, hl] at e
    cases o <;> simp_all [Obj.isCells]
  have hb := (grownBy_putObj' W l o').block p.block (block_at e) (by simpa using hne)
  simp only [World.cell?] at e ⊢
  rw [hb]
  exact e
theorem Rd.ks {α : Type} {w w' : World} {B size n : Nat} {Sf : Nat → Prop} {f : α → List Value} {A : Option Addr} {l : List α} (h : Rd w B size f A n l) (hk : KpS Sf w w') (hg : ∀ b, b < B → Sf b) : Rd w' B size f A n l :=
  ⟨h.1, fun hn => by
    obtain ⟨b, off, e, hb, hc⟩ := h.2 hn
    exact ⟨b, off, e, hb, fun i x hx j u hu => hk.2 _ _ (hg b hb) (hc i x hx j u hu)⟩⟩
theorem KpS.own {β : Type} (Sf : Nat → Prop) (W : World) (n : Nat) : OwnFrom n (fun (_ : β) X => KpS Sf W X) := fun _ _ _ _ hs hg hr =>
  ⟨Nat.le_trans hs.1 hg.size, fun p v hp e => cell_kept (hs.2 p v hp e) hg (fun r e => (hr r e).2)⟩

/-- The safe blocks are as they were. -/
def KpB (Sf : Nat → Prop) (w w' : World) : Prop := w.heap.size ≤ w'.heap.size ∧ ∀ (b : Nat) (o : Obj), Sf b → w.heap[b]? = some o → o.isCells = true → w'.heap[b]? = some o
theorem KpB.refl (Sf : Nat → Prop) (w : World) : KpB Sf w w := ⟨Nat.le_refl _, fun _ _ _ h _ => h⟩
theorem KpB.trans {Sf : Nat → Prop} {A B C : World} (h : KpB Sf A B) (k : KpB Sf B C) : KpB Sf A C := ⟨Nat.le_trans h.1 k.1, fun b o hb e hc => k.2 b o hb (h.2 b o hb e hc) hc⟩
theorem KpB.blk {Sf : Nat → Prop} {A B : World} (h : KpB Sf A B) {b : Nat} {T : TypeId} {cs : Array Value} (hb : Sf b) (k : Blk A b T cs) : Blk B b T cs := h.2 b _ hb k rfl
theorem KpB.ks {Sf : Nat → Prop} {A B : World} (h : KpB Sf A B) : KpS Sf A B := ⟨h.1, fun p v hp e => by
  obtain ⟨o, ho, hc⟩ := cells_of_cell e
  exact (World.cell?_of_block ((h.2 p.block o hp ho hc).trans ho.symm)).trans e⟩
theorem KpB.grown {Sf : Nat → Prop} {w w' : World} {row : Option Nat} (h : w.grownBy w' row) (hr : ∀ r, row = some r → ¬ Sf r) : KpB Sf w w' :=
  ⟨h.size, fun b o hb e _ => (h.block b (Array.getElem?_eq_some_iff.1 e).1 (fun e1 => hr _ e1.symm hb)).trans e⟩
theorem KpB.putObj {Sf : Nat → Prop} (W : World) (l : Nat) (o o' : Obj) (hl : W.heap[l]? = some o) (ho : o.isCells = false) : KpB Sf W (W.putObj l o') := by
  refine ⟨(grownBy_putObj' W l o').size, fun b x hb e hc => ?_⟩
  have hne : b ≠ l := by
    intro e1
    rw [e1, hl] at e
    cases e
    rw [ho] at hc
    cases hc
  exact (World.putObj_heap_other hne).trans e
theorem KpB.own (Sf : Nat → Prop) (W : World) {V V' : World} {row : Option Nat} (hs : KpB Sf W V) (hg : V.grownBy V' row) (hr : ∀ r, row = some r → ∃ o : Obj, V.heap[r]? = some o ∧ o.isCells = false) : KpB Sf W V' :=
  ⟨Nat.le_trans hs.1 hg.size, fun b o hb e hc => (grownBy_keeps_cells hg hr (hs.2 b o hb e hc) hc).trans (hs.2 b o hb e hc)⟩
theorem blk_own {β : Type} (b : Nat) (t : TypeId) (f : β → Array Value) : Own (fun s W => Blk W b t (f s)) := fun s X Y row hs hg hrow =>
  hs.kept hg (fun e' => by obtain ⟨o, ho, hc⟩ := hrow b e'.symm; rw [show X.heap[b]? = _ from hs] at ho; cases ho; cases hc)
/-- What abides where the iterator's own blocks (the first m from B on) and what is no cells change. -/
def OwnP {β : Type} (B m : Nat) (I : β → World → Prop) : Prop :=
  ∀ s A C row, I s A → A.grownBy C row → (∀ r, row = some r → B ≤ r ∧ (r < B + m ∨ ∃ o : Obj, A.heap[r]? = some o ∧ o.isCells = false)) → I s C
theorem OwnP.putObj {β : Type} {B m : Nat} {I : β → World → Prop} (h : OwnP B m I) {s : β} {W : World} {l : Nat} {o : Obj} (o' : Obj) (hs : I s W) (hB : B ≤ l) (hl : W.heap[l]? = some o) (ho : o.isCells = false) : I s (W.putObj l o') :=
  h s W _ (some l) hs (grownBy_putObj' W l o') (fun r e => by cases e; exact ⟨hB, Or.inr ⟨o, hl, ho⟩⟩)
theorem OwnP.alloc {β : Type} {B m : Nat} {I : β → World → Prop} (h : OwnP B m I) {s : β} {W : World} (o : Obj) (hs : I s W) : I s (W.alloc o) :=
  h s W _ none hs (World.grownBy_alloc W o none) (fun r e => by cases e)
theorem OwnP.grow {β : Type} {B m : Nat} {I : β → World → Prop} (h : OwnP B m I) {s : β} {W W' : World} (hs : I s W) (hb : Below W.heap.size W W') : I s W' :=
  h s W _ none hs (grown_of_below hb) (fun r e => by cases e)
theorem OwnP.cell {β : Type} {B m : Nat} {I : β → World → Prop} (h : OwnP B m I) {s : β} {W : World} {b o : Nat} (u : Value) (hs : I s W) (h1 : B ≤ b) (h2 : b < B + m) : I s (W.setCell ⟨b, o, none⟩ u) :=
  h s W _ (some b) hs (grown_set W b o u) (fun r e => by cases e; exact ⟨h1, Or.inl h2⟩)
theorem OwnP.own {β : Type} {B m B' : Nat} {I : β → World → Prop} (h : OwnP B m I) (hB : B ≤ B') : OwnFrom B' I := fun s A C row hs hg hr => h s A C row hs hg (fun r e => by obtain ⟨h1, o, h2, h3⟩ := hr r e; exact ⟨by omega, Or.inr ⟨o, h2, h3⟩⟩)
/-- The iterator's promise: each element comes with X (which is told where the iterator's blocks begin). -/
def SeqX {α : Type} (F : Fence) (n : Nat) (P : Program) (g : Nat) (lb : Array Value) (encs : α → Array Value) (Kp : World → World → Prop) (X : Nat → List α → α → World → Prop) (S : List α → Prop) (m : Nat) (w : World) : Prop :=
  ∀ (l : Nat) (J Jx : List α → World → Prop) (W : World), Below w.heap.size w W → OwnP W.heap.size m J → OwnP W.heap.size m Jx →
    (∀ pre x W1, J pre W1 → X W.heap.size pre x W1 → YieldAt F (n - 1) P l (encs x) W1 fun e W' =>
      (e = .returned (.bool true) ∧ J (pre ++ [x]) W' ∧ Kp W1 W' ∧ KeepsFrom W.heap.size W1 W') ∨ (e = .returned (.bool false) ∧ Jx (pre ++ [x]) W' ∧ KeepsFrom W.heap.size W1 W')) →
    J [] W →
    CallsIn F n P g (#[.func (.yield l) #[] #[]] ++ lb) W fun e W' => (∃ v, e = .returned v) ∧ ((∃ xs, S xs ∧ J xs W') ∨ (∃ pre, Jx pre W'))
/-- How a round may be left: at its end, or by a return of the function around it. -/
def xPost {α : Type} (B : Nat) (Kp : World → World → Prop) (I Ir : List α → World → Prop) (xs : List α) (W : World) : Exit → Act → World → Prop
  | .normal, _, W' => KeepsFrom B W W' ∧ Kp W W' ∧ I xs W'
  | .ret, _, W' => KeepsFrom B W W' ∧ Ir xs W'
  | _, _, _ => False
section
variable {F : Fence} {n : Nat} {P : Program}
theorem wpIn_range_x {α : Type} {g : Operand} {ps : Array Tmp} {assign body : Code} {Q : Exit → Act → World → Prop} {a : Act} {w : World}
    (hro : F.round = none) (h1 : 1 ≤ n) {gf : Nat} {lb : Array Value} (hg : a.eval g = .func (.func gf) #[] lb) (hFg : F.fn gf) (eg : ∀ args w, (callFunc gf args).run P w = .ok (.enter gf args) w)
    {encs : α → Array Value} {Kp : World → World → Prop} {X : Nat → List α → α → World → Prop} {S : List α → Prop} {m : Nat} {w0 : World} (hseq : SeqX F (n - 1) P gf lb encs Kp X S m w0) (hb0 : Below w0.heap.size w0 w) (hps : ∀ x, (encs x).size = ps.size)
    (hKt : ∀ {A B C : World}, Kp A B → Kp B C → Kp A C) (hKb : ∀ (W : World) (l : Nat) (o o' : Obj), w.heap.size ≤ l → W.heap[l]? = some o → o.isCells = false → o.isWalk = false → Kp W (W.putObj l o'))
    (I Ir : List α → World → Prop) (hI : OwnP w.heap.size (m + 2) I) (hIr : OwnP w.heap.size (m + 2) Ir) (h0 : I [] w) (a₁ : α → Act)
    (hX : ∀ pre x W (l : Nat) (o o' : Obj), X (w.heap.size + 2) pre x W → w.heap.size ≤ l → W.heap[l]? = some o → o.isCells = false → X (w.heap.size + 2) pre x (W.putObj l o'))
    (hassign : ∀ (l : Nat) (x : α) (W : World) (K : Act → World → Prop), K (a₁ x) W →
      assign.wpIn (F.inRound l) (n - 1 - 1) P (Exit.then K (fun _ _ _ => False)) { tmps := (ps.zip (encs x)).foldl (fun t (p, v) => t.setIfInBounds p v) a.tmps, defers := [] } W)
    (hbody : ∀ (l : Nat) (pre : List α) (x : α) (W : World), w.heap.size ≤ l → (∃ r, W.heap[l]? = some (.loop r)) → I pre W → X (w.heap.size + 2) pre x W → body.wpIn (F.inRound l) (n - 1 - 1) P (xPost w.heap.size Kp I Ir (pre ++ [x]) W) (a₁ x) W)
    (hdone : ∀ (D : Nat) (xs : List α) (W : World), w.heap.size ≤ D → S xs → I xs W → W.heap[D]? = some (.deferred (some [])) → Q .normal { a with defers := { target := .collected D, args := #[] } :: a.defers } W)
    (hstop : ∀ (D : Nat) (pre : List α) (W : World), w.heap.size ≤ D → Ir pre W → W.heap[D]? = some (.deferred (some [])) → Code.ret.wpIn F n P Q { a with defers := { target := .collected D, args := #[] } :: a.defers } W) :
    (Code.rangeFunc g ps assign body).wpIn F n P Q a w := by
  refine wpIn_rangeFunc fun fn hfn => ?_
  rw [hro]
  -- the block of deferred calls is D, the record is D + 1
  obtain ⟨D, hD⟩ : ∃ z, z = w.heap.size := ⟨_, rfl⟩
  let R : LoopState → Option Code → Loop := fun st pe => { state := st, pending := pe, fn := fn, tmps := a.tmps, params := ps, assign := assign, body := body, defers := D }
  have key : ∀ (W : World), I [] W → Below w0.heap.size w0 W → W.heap[D + 1]? = some (.loop (R .ready none)) → W.heap[D]? = some (.deferred (some [])) → W.heap.size = D + 2 →
      CallsIn F (n - 1) P gf (#[.func (.yield (D + 1)) #[] #[]] ++ lb) W (rangePost F n P (D + 1) Q { a with defers := [{ target := .collected D, args := #[] }] ++ a.defers }) := by
    intro W hIW hBW hL hDf hWs
    have hlt0 : D + 1 < W.heap.size := by omega
    refine (hseq (D + 1) (fun pre V => I pre V ∧ V.heap[D + 1]? = some (.loop (R .ready none)) ∧ V.heap[D]? = some (.deferred (some []))) (fun pre V => Ir pre V ∧ V.heap[D + 1]? = some (.loop (R .done (some .ret))) ∧ V.heap[D]? = some (.deferred (some []))) W hBW ?_ ?_ ?_ ⟨hIW, hL, hDf⟩).mono ?_
    · intro s A B row hs hgr hr
      have keep : ∀ k, k < A.heap.size → k < W.heap.size → B.heap[k]? = A.heap[k]? := fun k h1 h2 => hgr.block k h1 (fun e => by obtain ⟨h3, _⟩ := hr k e.symm; omega)
      have q1 := (Array.getElem?_eq_some_iff.1 hs.2.1).1
      have q2 := (Array.getElem?_eq_some_iff.1 hs.2.2).1
      refine ⟨hI s A B row hs.1 hgr (fun r e => ?_), (keep _ q1 (by omega)).trans hs.2.1, (keep _ q2 (by omega)).trans hs.2.2⟩
      obtain ⟨h2, h3⟩ := hr r e
      refine ⟨by omega, h3.imp (fun h => by omega) id⟩
    · intro s A B row hs hgr hr
      have keep : ∀ k, k < A.heap.size → k < W.heap.size → B.heap[k]? = A.heap[k]? := fun k h1 h2 => hgr.block k h1 (fun e => by obtain ⟨h3, _⟩ := hr k e.symm; omega)
      have q1 := (Array.getElem?_eq_some_iff.1 hs.2.1).1
      have q2 := (Array.getElem?_eq_some_iff.1 hs.2.2).1
      refine ⟨hIr s A B row hs.1 hgr (fun r e => ?_), (keep _ q1 (by omega)).trans hs.2.1, (keep _ q2 (by omega)).trans hs.2.2⟩
      obtain ⟨h2, h3⟩ := hr r e
      refine ⟨by omega, h3.imp (fun h => by omega) id⟩
    · rintro pre x V ⟨hi, hl, hd⟩ hx
      rw [show W.heap.size = w.heap.size + 2 by omega] at hx
      refine ⟨fn, _, assign, body, run_yield hl (hps x), roundIn_of_wpIn hfn (hassign _ x V _ ?_)⟩
      have hlt : D + 1 < V.heap.size := (Array.getElem?_eq_some_iff.1 hl).1
      refine ⟨_, run_beginRound hl rfl, ?_⟩
      have hl2 : (V.putObj (D + 1) (.loop (R .busy none))).heap[D + 1]? = some (.loop (R .busy none)) := World.putObj_heap_same hlt
      have hd2 : (V.putObj (D + 1) (.loop (R .busy none))).heap[D]? = some (.deferred (some [])) := (World.putObj_heap_other (by omega)).trans hd
      have hk2 : Kp V (V.putObj (D + 1) (.loop (R .busy none))) := hKb _ _ _ _ (by omega) hl rfl rfl
      refine wpIn_mono (hbody (D + 1) pre x _ (by omega) ⟨_, hl2⟩ (hI.putObj _ hi (by omega) hl rfl) (hX pre x V _ _ _ hx (by omega) hl rfl)) ?_
      rintro e b V3 hp
      have back : KeepsFrom w.heap.size (V.putObj (D + 1) (.loop (R .busy none))) V3 → V3.heap[D + 1]? = some (.loop (R .busy none)) ∧ V3.heap[D]? = some (.deferred (some [])) := fun hk => ⟨hk.same _ _ (by omega) hl2 rfl, hk.same _ _ (by omega) hd2 rfl⟩
      cases e with
      | normal =>
        obtain ⟨hk3, hkp3, hi3⟩ := hp
        obtain ⟨hl3, hd3⟩ := back hk3
        have hlt3 : D + 1 < V3.heap.size := (Array.getElem?_eq_some_iff.1 hl3).1
        exact ⟨_, _, run_endRound none hl3, Or.inl ⟨rfl, ⟨hI.putObj _ hi3 (by omega) hl3 rfl, World.putObj_heap_same hlt3, (World.putObj_heap_other (by omega)).trans hd3⟩, hKt hk2 (hKt hkp3 (hKb _ _ _ _ (by omega) hl3 rfl rfl)), ⟨by have := hk3.size; simp at this ⊢; omega, fun k o hB ho hc => (World.putObj_heap_other (by omega)).trans (hk3.same k o (by omega) ((World.putObj_heap_other (by omega)).trans ho) hc)⟩⟩⟩
      | ret =>
        obtain ⟨hk3, hi3⟩ := hp
        obtain ⟨hl3, hd3⟩ := back hk3
        have hlt3 : D + 1 < V3.heap.size := (Array.getElem?_eq_some_iff.1 hl3).1
        exact ⟨_, _, run_endRound (some .ret) hl3, Or.inr ⟨rfl, ⟨hIr.putObj _ hi3 (by omega) hl3 rfl, World.putObj_heap_same hlt3, (World.putObj_heap_other (by omega)).trans hd3⟩, ⟨by have := hk3.size; simp at this ⊢; omega, fun k o hB ho hc => (World.putObj_heap_other (by omega)).trans (hk3.same k o (by omega) ((World.putObj_heap_other (by omega)).trans ho) hc)⟩⟩⟩
      | exit id => exact hp.elim
      | goto t => exact hp.elim
      | panic ch => exact hp.elim
      | outgrown => exact hp.elim
    · rintro e V ⟨⟨v, rfl⟩, h | h⟩
      · obtain ⟨xs, hS, hi, hl, hd⟩ := h
        exact ⟨none, _, run_endLoop hl (by simp [R]), hdone D xs _ (by omega) hS (hI.putObj _ hi (by omega) hl rfl) ((World.putObj_heap_other (by omega)).trans hd)⟩
      · obtain ⟨pre, hi, hl, hd⟩ := h
        exact ⟨some .ret, _, run_endLoop hl (by simp [R]), hstop D pre _ (by omega) (hIr.putObj _ hi (by omega) hl rfl) ((World.putObj_heap_other (by omega)).trans hd)⟩
  refine ⟨D + 1, [{ target := .collected D, args := #[] }], (w.alloc (.deferred (some []))).alloc (.loop (R .ready none)), { target := .fn (.func gf) lb, args := #[.func (.yield (D + 1)) #[] #[]] }, (w.alloc (.deferred (some []))).alloc (.loop (R .ready none)), gf, #[.func (.yield (D + 1)) #[] #[]] ++ lb, (w.alloc (.deferred (some []))).alloc (.loop (R .ready none)), ?_, ?_, ?_, ?_, fun _ => h1, ?_⟩
  · have h := run_enterLoop_outer (P := P) (w := w) fn a.tmps ps assign body
    rw [hD]
    simpa [R, hD] using h
  · simp only [resolve, hg]
    simp [go_sem]
  · intro f' hf'
    simp [Target.leads] at hf'
    subst hf'
    exact hFg
  · simp [invoke, go_sem, eg]
  · refine key _ (hI.alloc _ (hI.alloc _ h0)) (hb0.trans ((((Below.refl _ w).alloc (Nat.le_refl _) _).alloc (by simp) _).mono hb0.size)) ?_ ?_ (by simp [hD])
    · have h := World.alloc_heap_new (w.alloc (.deferred (some []))) (.loop (R .ready none))
      rw [World.size_alloc] at h
      rw [hD]
      exact h
    · rw [hD]
      exact (Below.heap_alloc _ _ _ (by simp)).trans (World.alloc_heap_new w _)
end
end Go.Proofs.Ytcecbohaajocfaa
