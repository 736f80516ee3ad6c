/- A range over a function whose elements come with facts about the memory: the iterator is told where its blocks begin. -/
import Derived.Test.YtcecbohaajocfaaRgX

set_option linter.unusedSimpArgs false
set_option linter.unusedVariables false
namespace Go.Proofs.Ytcecbohaajocfaa
open Go.RowKit

/-- What is chosen, by block and by object, is as it was. -/
def KpO (Sf : Nat → Obj → Prop) (w w' : World) : Prop := w.heap.size ≤ w'.heap.size ∧ ∀ (b : Nat) (o : Obj), Sf b o → w.heap[b]? = some o → o.isCells = true → w'.heap[b]? = some o
theorem KpO.refl (Sf : Nat → Obj → Prop) (w : World) : KpO Sf w w := ⟨Nat.le_refl _, fun _ _ _ h _ => h⟩
theorem KpO.trans {Sf : Nat → Obj → Prop} {A B C : World} (h : KpO Sf A B) (k : KpO Sf B C) : KpO Sf A C := ⟨Nat.le_trans h.1 k.1, fun b o hb e hc => k.2 b o hb (h.2 b o hb e hc) hc⟩
theorem KpO.blk {Sf : Nat → Obj → Prop} {A B : World} (h : KpO Sf A B) {b : Nat} {T : TypeId} {cs : Array Value} (hb : Sf b (.cells cs T)) (k : Blk A b T cs) : Blk B b T cs := h.2 b _ hb k rfl
theorem KpO.below {Sf : Nat → Obj → Prop} {A B : World} (h : Below A.heap.size A B) : KpO Sf A B := ⟨h.size, fun b o _ e _ => (h.block b (Array.getElem?_eq_some_iff.1 e).1).trans e⟩
theorem KpO.grown {Sf : Nat → Obj → Prop} {w w' : World} {row : Option Nat} (h : w.grownBy w' row) (hr : ∀ r o, row = some r → w.heap[r]? = some o → ¬ Sf r o) : KpO Sf w w' :=
  ⟨h.size, fun b o hb e _ => (h.block b (Array.getElem?_eq_some_iff.1 e).1 (fun e1 => hr b o e1.symm e hb)).trans e⟩
theorem KpO.putObj {Sf : Nat → Obj → Prop} (W : World) (l : Nat) (o o' : Obj) (hl : W.heap[l]? = some o) (ho : o.isCells = false) : KpO Sf W (W.putObj l o') := by
  refine ⟨(grownBy_putObj' W l o').size, fun b x hb e hc => ?_⟩
  have hne : b ≠ l := by
    intro e1
    rw [e1, hl] at e
    cases e
    rw [ho] at hc
    cases hc
  exact (World.putObj_heap_other hne).trans e
theorem KpO.own {Sf : Nat → Obj → Prop} {W V V' : World} {row : Option Nat} (hs : KpO Sf W V) (hg : V.grownBy V' row) (hr : ∀ r, row = some r → ∃ o : Obj, V.heap[r]? = some o ∧ o.isCells = false) : KpO Sf W V' :=
  ⟨Nat.le_trans hs.1 hg.size, fun b o hb e hc => (grownBy_keeps_cells hg hr (hs.2 b o hb e hc) hc).trans (hs.2 b o hb e hc)⟩
/-- What abides where an iterator's own blocks (behind the two of the loop) and what is no cells change. -/
def OwnQ {β : Type} (B m : Nat) (I : β → World → Prop) : Prop :=
  ∀ s A C row, I s A → A.grownBy C row → (∀ r, row = some r → B ≤ r ∧ ((B + 2 ≤ r ∧ r < B + 2 + m) ∨ ∃ o : Obj, A.heap[r]? = some o ∧ o.isCells = false)) → I s C
theorem OwnQ.putObj {β : Type} {B m : Nat} {I : β → World → Prop} (h : OwnQ B m I) {s : β} {W : World} {l : Nat} {o : Obj} (o' : Obj) (hs : I s W) (hB : B ≤ l) (hl : W.heap[l]? = some o) (ho : o.isCells = false) : I s (W.putObj l o') :=
  h s W _ (some l) hs (grownBy_putObj' W l o') (fun r e => by cases e; exact ⟨hB, Or.inr ⟨o, hl, ho⟩⟩)
theorem OwnQ.alloc {β : Type} {B m : Nat} {I : β → World → Prop} (h : OwnQ B m I) {s : β} {W : World} (o : Obj) (hs : I s W) : I s (W.alloc o) :=
  h s W _ none hs (World.grownBy_alloc W o none) (fun r e => by cases e)
/-- The iterator's promise: each element comes with X (which is told where the iterator's blocks begin). -/
def SeqY {α : Type} (F : Fence) (n : Nat) (P : Program) (g : Nat) (lb : Array Value) (encs : α → Array Value) (Kp : World → World → Prop) (X : Nat → List α → α → World → Prop) (S : List α → Prop) (m : Nat) (w : World) : Prop :=
  ∀ (l : Nat) (J Jx : List α → World → Prop) (W : World), Below w.heap.size w W → W.heap.size = w.heap.size + 2 → OwnP W.heap.size m J → OwnP W.heap.size m Jx →
    (∀ pre x W1, J pre W1 → X W.heap.size pre x W1 → YieldAt F (n - 1) P l (encs x) W1 fun e W' =>
      (e = .returned (.bool true) ∧ J (pre ++ [x]) W' ∧ Kp W1 W' ∧ KeepsFrom W.heap.size W1 W') ∨ (e = .returned (.bool false) ∧ Jx (pre ++ [x]) W' ∧ KeepsFrom W.heap.size W1 W')) →
    J [] W →
    CallsIn F n P g (#[.func (.yield l) #[] #[]] ++ lb) W fun e W' => (∃ v, e = .returned v) ∧ ((∃ xs, S xs ∧ J xs W') ∨ (∃ pre, Jx pre W'))
section
variable {F : Fence} {n : Nat} {P : Program}
theorem wpIn_range_y {α : Type} {g : Operand} {ps : Array Tmp} {assign body : Code} {Q : Exit → Act → World → Prop} {a : Act} {w : World}
    (hro : F.round = none) (h1 : 1 ≤ n) {gf : Nat} {lb : Array Value} (hg : a.eval g = .func (.func gf) #[] lb) (hFg : F.fn gf) (eg : ∀ args w, (callFunc gf args).run P w = .ok (.enter gf args) w)
    {encs : α → Array Value} {Kp : World → World → Prop} {X : Nat → List α → α → World → Prop} {S : List α → Prop} {m : Nat} (hseq : SeqY F (n - 1) P gf lb encs Kp X S m w) (hps : ∀ x, (encs x).size = ps.size)
    (hKt : ∀ {A B C : World}, Kp A B → Kp B C → Kp A C) (hKb : ∀ (W : World) (l : Nat) (o o' : Obj), w.heap.size ≤ l → W.heap[l]? = some o → o.isCells = false → o.isWalk = false → Kp W (W.putObj l o'))
    (I Ir : List α → World → Prop) (hI : OwnQ w.heap.size m I) (hIr : OwnQ w.heap.size m Ir) (h0 : I [] w) (Ax : List α → α → Act → World → Prop)
    (hAx : ∀ pre x a' W (l : Nat) (o o' : Obj), Ax pre x a' W → w.heap.size ≤ l → W.heap[l]? = some o → o.isCells = false → Ax pre x a' (W.putObj l o'))
    (hX : ∀ pre x W (l : Nat) (o o' : Obj), X (w.heap.size + 2) pre x W → w.heap.size ≤ l → W.heap[l]? = some o → o.isCells = false → X (w.heap.size + 2) pre x (W.putObj l o'))
    (hassign : ∀ (l : Nat) (pre : List α) (x : α) (W : World) (K : Act → World → Prop), I pre W → X (w.heap.size + 2) pre x W → (∀ a' W', KeepsFrom w.heap.size W W' → Kp W W' → I pre W' → X (w.heap.size + 2) pre x W' → Ax pre x a' W' → K a' W') →
      assign.wpIn (F.inRound l) (n - 1 - 1) P (Exit.then K (fun _ _ _ => False)) { tmps := (ps.zip (encs x)).foldl (fun t (p, v) => t.setIfInBounds p v) a.tmps, defers := [] } W)
    (hbody : ∀ (l : Nat) (pre : List α) (x : α) (a' : Act) (W : World), w.heap.size + 1 ≤ l → (∃ r, W.heap[l]? = some (.loop r)) → I pre W → X (w.heap.size + 2) pre x W → Ax pre x a' W → body.wpIn (F.inRound l) (n - 1 - 1) P (xPost w.heap.size Kp I Ir (pre ++ [x]) W) a' W)
    (hdone : ∀ (D : Nat) (xs : List α) (W : World), w.heap.size ≤ D → S xs → I xs W → W.heap[D]? = some (.deferred (some [])) → Q .normal { a with defers := { target := .collected D, args := #[] } :: a.defers } W)
    (hstop : ∀ (D : Nat) (pre : List α) (W : World), w.heap.size ≤ D → Ir pre W → W.heap[D]? = some (.deferred (some [])) → Code.ret.wpIn F n P Q { a with defers := { target := .collected D, args := #[] } :: a.defers } W) :
    (Code.rangeFunc g ps assign body).wpIn F n P Q a w := by
  refine wpIn_rangeFunc fun fn hfn => ?_
  rw [hro]
  -- the block of deferred calls is D, the record is D + 1
  obtain ⟨D, hD⟩ : ∃ z, z = w.heap.size := ⟨_, rfl⟩
  let R : LoopState → Option Code → Loop := fun st pe => { state := st, pending := pe, fn := fn, tmps := a.tmps, params := ps, assign := assign, body := body, defers := D }
  have key : ∀ (W : World), I [] W → Below w.heap.size w W → W.heap[D + 1]? = some (.loop (R .ready none)) → W.heap[D]? = some (.deferred (some [])) → W.heap.size = D + 2 →
      CallsIn F (n - 1) P gf (#[.func (.yield (D + 1)) #[] #[]] ++ lb) W (rangePost F n P (D + 1) Q { a with defers := [{ target := .collected D, args := #[] }] ++ a.defers }) := by
    intro W hIW hBW hL hDf hWs
    have hlt0 : D + 1 < W.heap.size := by omega
    refine (hseq (D + 1) (fun pre V => I pre V ∧ V.heap[D + 1]? = some (.loop (R .ready none)) ∧ V.heap[D]? = some (.deferred (some []))) (fun pre V => Ir pre V ∧ V.heap[D + 1]? = some (.loop (R .done (some .ret))) ∧ V.heap[D]? = some (.deferred (some []))) W hBW (by omega) ?_ ?_ ?_ ⟨hIW, hL, hDf⟩).mono ?_
    · intro s A B row hs hgr hr
      have keep : ∀ k, k < A.heap.size → k < W.heap.size → B.heap[k]? = A.heap[k]? := fun k h1 h2 => hgr.block k h1 (fun e => by obtain ⟨h3, _⟩ := hr k e.symm; omega)
      have q1 := (Array.getElem?_eq_some_iff.1 hs.2.1).1
      have q2 := (Array.getElem?_eq_some_iff.1 hs.2.2).1
      refine ⟨hI s A B row hs.1 hgr (fun r e => ?_), (keep _ q1 (by omega)).trans hs.2.1, (keep _ q2 (by omega)).trans hs.2.2⟩
      obtain ⟨h2, h3⟩ := hr r e
      refine ⟨by omega, h3.imp (fun h => ⟨by omega, by omega⟩) id⟩
    · intro s A B row hs hgr hr
      have keep : ∀ k, k < A.heap.size → k < W.heap.size → B.heap[k]? = A.heap[k]? := fun k h1 h2 => hgr.block k h1 (fun e => by obtain ⟨h3, _⟩ := hr k e.symm; omega)
      have q1 := (Array.getElem?_eq_some_iff.1 hs.2.1).1
      have q2 := (Array.getElem?_eq_some_iff.1 hs.2.2).1
      refine ⟨hIr s A B row hs.1 hgr (fun r e => ?_), (keep _ q1 (by omega)).trans hs.2.1, (keep _ q2 (by omega)).trans hs.2.2⟩
      obtain ⟨h2, h3⟩ := hr r e
      refine ⟨by omega, h3.imp (fun h => ⟨by omega, by omega⟩) id⟩
    · rintro pre x V ⟨hi, hl, hd⟩ hx
      rw [show W.heap.size = w.heap.size + 2 by omega] at hx
      refine ⟨fn, _, assign, body, run_yield hl (hps x), roundIn_of_wpIn hfn (hassign _ pre x V _ hi hx ?_)⟩
      intro a' Va hka hkpa hia hxa hax
      replace hl := hka.same _ _ (by omega) hl rfl
      replace hd := hka.same _ _ (by omega) hd rfl
      have hlt : D + 1 < Va.heap.size := (Array.getElem?_eq_some_iff.1 hl).1
      refine ⟨_, run_beginRound hl rfl, ?_⟩
      have hl2 : (Va.putObj (D + 1) (.loop (R .busy none))).heap[D + 1]? = some (.loop (R .busy none)) := World.putObj_heap_same hlt
      have hd2 : (Va.putObj (D + 1) (.loop (R .busy none))).heap[D]? = some (.deferred (some [])) := (World.putObj_heap_other (by omega)).trans hd
      have hk2 : Kp Va (Va.putObj (D + 1) (.loop (R .busy none))) := hKb _ _ _ _ (by omega) hl rfl rfl
      refine wpIn_mono (hbody (D + 1) pre x _ _ (by omega) ⟨_, hl2⟩ (hI.putObj _ hia (by omega) hl rfl) (hX pre x Va _ _ _ hxa (by omega) hl rfl) (hAx _ _ _ Va _ _ _ hax (by omega) hl rfl)) ?_
      rintro e b V3 hp
      have back : KeepsFrom w.heap.size (Va.putObj (D + 1) (.loop (R .busy none))) V3 → V3.heap[D + 1]? = some (.loop (R .busy none)) ∧ V3.heap[D]? = some (.deferred (some [])) := fun hk => ⟨hk.same _ _ (by omega) hl2 rfl, hk.same _ _ (by omega) hd2 rfl⟩
      cases e with
      | normal =>
        obtain ⟨hk3, hkp3, hi3⟩ := hp
        obtain ⟨hl3, hd3⟩ := back hk3
        have hlt3 : D + 1 < V3.heap.size := (Array.getElem?_eq_some_iff.1 hl3).1
        exact ⟨_, _, run_endRound none hl3, Or.inl ⟨rfl, ⟨hI.putObj _ hi3 (by omega) hl3 rfl, World.putObj_heap_same hlt3, (World.putObj_heap_other (by omega)).trans hd3⟩, hKt hkpa (hKt hk2 (hKt hkp3 (hKb _ _ _ _ (by omega) hl3 rfl rfl))), ⟨by have h7 := hk3.size; have h8 := hka.size; simp at h7 ⊢; omega, fun k o hB ho hc => (World.putObj_heap_other (by omega)).trans (hk3.same k o (by omega) ((World.putObj_heap_other (by omega)).trans (hka.same k o (by omega) ho hc)) hc)⟩⟩⟩
      | ret =>
        obtain ⟨hk3, hi3⟩ := hp
        obtain ⟨hl3, hd3⟩ := back hk3
        have hlt3 : D + 1 < V3.heap.size := (Array.getElem?_eq_some_iff.1 hl3).1
        exact ⟨_, _, run_endRound (some .ret) hl3, Or.inr ⟨rfl, ⟨hIr.putObj _ hi3 (by omega) hl3 rfl, World.putObj_heap_same hlt3, (World.putObj_heap_other (by omega)).trans hd3⟩, ⟨by have h7 := hk3.size; have h8 := hka.size; simp at h7 ⊢; omega, fun k o hB ho hc => (World.putObj_heap_other (by omega)).trans (hk3.same k o (by omega) ((World.putObj_heap_other (by omega)).trans (hka.same k o (by omega) ho hc)) hc)⟩⟩⟩
      | exit id => exact hp.elim
      | goto t => exact hp.elim
      | panic ch => exact hp.elim
      | outgrown => exact hp.elim
    · rintro e V ⟨⟨v, rfl⟩, h | h⟩
      · obtain ⟨xs, hS, hi, hl, hd⟩ := h
        exact ⟨none, _, run_endLoop hl (by simp [R]), hdone D xs _ (by omega) hS (hI.putObj _ hi (by omega) hl rfl) ((World.putObj_heap_other (by omega)).trans hd)⟩
      · obtain ⟨pre, hi, hl, hd⟩ := h
        exact ⟨some .ret, _, run_endLoop hl (by simp [R]), hstop D pre _ (by omega) (hIr.putObj _ hi (by omega) hl rfl) ((World.putObj_heap_other (by omega)).trans hd)⟩
  refine ⟨D + 1, [{ target := .collected D, args := #[] }], (w.alloc (.deferred (some []))).alloc (.loop (R .ready none)), { target := .fn (.func gf) lb, args := #[.func (.yield (D + 1)) #[] #[]] }, (w.alloc (.deferred (some []))).alloc (.loop (R .ready none)), gf, #[.func (.yield (D + 1)) #[] #[]] ++ lb, (w.alloc (.deferred (some []))).alloc (.loop (R .ready none)), ?_, ?_, ?_, ?_, fun _ => h1, ?_⟩
  · have h := run_enterLoop_outer (P := P) (w := w) fn a.tmps ps assign body
    rw [hD]
    simpa [R, hD] using h
  · simp only [resolve, hg]
    simp [go_sem]
  · intro f' hf'
    simp [Target.leads] at hf'
    subst hf'
    exact hFg
  · simp [invoke, go_sem, eg]
  · refine key _ (hI.alloc _ (hI.alloc _ h0)) (((Below.refl _ w).alloc (Nat.le_refl _) _).alloc (by simp) _) ?_ ?_ (by simp [hD])
    · have h := World.alloc_heap_new (w.alloc (.deferred (some []))) (.loop (R .ready none))
      rw [World.size_alloc] at h
      rw [hD]
      exact h
    · rw [hD]
      exact (Below.heap_alloc _ _ _ (by simp)).trans (World.alloc_heap_new w _)
end
end Go.Proofs.Ytcecbohaajocfaa
