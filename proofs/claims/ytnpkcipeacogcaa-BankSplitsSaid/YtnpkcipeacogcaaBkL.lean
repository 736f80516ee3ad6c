/- slices.Clone; a range over an iterator that keeps a block of its own. -/
import Derived.Test.YtnpkcipeacogcaaBkK
import Derived.RangeFuncNested
import Derived.RangeFuncBound
import Derived.RangeFuncCalls
import Derived.RangeFuncLeaves
import Derived.RangeFuncBox
import Derived.Shelf.RegionOpen
import Derived.OwnWalkIn
import Derived.TacticsInMore
import Derived.LoopNIn
import Derived.LoopIn
import Derived.Laws.AppendOwnNone
import Derived.Lib.LazyBuf

set_option linter.unusedSimpArgs false
set_option linter.unusedVariables false
namespace Go.Proofs.Ytnpkcipeacogcaa
open Go.RowKit

theorem flatMap_inv {α : Type} {f : α → List Value} {size : Nat} : ∀ (l : List α), (∀ x ∈ l, (f x).length = size) → ∀ (j : Nat) (u : Value), (l.flatMap f)[j]? = some u → ∃ (i : Nat) (x : α) (r : Nat), l[i]? = some x ∧ (f x)[r]? = some u ∧ j = i * size + r
  | [], _, j, u, h => by simp at h
  | y :: l, hf, j, u, h => by
    rw [List.flatMap_cons] at h
    have hy := hf y (List.mem_cons_self ..)
    rcases Nat.lt_or_ge j size with hj | hj
    · rw [List.getElem?_append_left (by omega)] at h
      exact ⟨0, y, j, rfl, h, by simp⟩
    · rw [List.getElem?_append_right (by omega)] at h
      obtain ⟨i, x, r, h1, h2, h3⟩ := flatMap_inv l (fun x hx => hf x (List.mem_cons_of_mem _ hx)) _ u h
      refine ⟨i + 1, x, r, h1, h2, ?_⟩
      rw [Nat.add_mul]
      omega
theorem flatMap_size {α : Type} {f : α → List Value} {size : Nat} : ∀ (l : List α), (∀ x ∈ l, (f x).length = size) → (l.flatMap f).length = l.length * size
  | [], _ => by simp
  | y :: l, hf => by
    rw [List.flatMap_cons, List.length_append, hf y (List.mem_cons_self ..), flatMap_size l (fun x hx => hf x (List.mem_cons_of_mem _ hx)), List.length_cons, Nat.add_mul]
    omega
/-- What append reads of a list that lies at an address. -/
theorem Rd.news {α : Type} {w : World} {B size n : Nat} {f : α → List Value} {ad : Addr} {l : List α} (h : Rd w B size f (some ad) n l) (hf : ∀ x ∈ l, (f x).length = size) (j : Nat) (u : Value) (hu : (l.flatMap f)[j]? = some u) : w.cell? (ad.add j) = some u := by
  obtain ⟨i, x, r, hx, hr, rfl⟩ := flatMap_inv l hf j u hu
  have hi := (List.getElem?_eq_some_iff.1 hx).1
  have hl := h.1
  obtain ⟨b, off, e, hb, hc⟩ := h.2 (by omega)
  cases e
  have := hc i x hx r u hr
  unfold Addr.add
  split
  · rename_i h0
    rw [Nat.add_assoc, h0, Nat.add_zero] at this
    exact this
  · rw [Nat.add_assoc] at this
    exact this
/-- A row of its own reads as the list. -/
theorem one_flat {α : Type} {f : α → List Value} {l : List α} (h : ∀ x ∈ l, ∀ u ∈ f x, u.oneCell' = true) : ∀ u ∈ l.flatMap f, u.oneCell' = true := by
  intro u hu
  obtain ⟨x, hx, hux⟩ := List.mem_flatMap.1 hu
  exact h x hx u hux
theorem batInfo : (Try.prog.info? 34).map (fun i => (i.zero, i.size, i.bytes)) = some (some (.agg #[.int .i64 0, .int .i64 0, .int .i64 0, .int .i64 0]), 4, 32) := by kernel_rfl
theorem genInfo : (Try.prog.info? 66).map (fun i => (i.zero, i.size, i.bytes)) = some (some (.agg #[.int .i64 0, .int .i64 0, .int .i64 0, .int .i64 0, .int .i64 0]), 5, 40) := by kernel_rfl
theorem spnInfo : (Try.prog.info? 37).map (fun i => (i.zero, i.size, i.bytes)) = some (some (.agg #[.int .i64 0, .int .i64 0]), 2, 16) := by kernel_rfl
set_option maxRecDepth 100000 in
set_option maxHeartbeats 1000000 in
theorem clone_ints (A : Option Addr) (n c : Nat) (l : List Int) (w : World) (hr : Rd w w.heap.size 1 encI A n l) (hn : n ≤ 1000000) :
    Calls Try.prog 14 #[.slice A n c] w fun e w' => ∃ (A' : Option Addr) (c' : Nat), e = .returned (.slice A' n c') ∧ w'.ownsRow w.heap.size 3 1 (.slice A' n c') n (l.flatMap encI) ∧ Below w.heap.size w w' ∧ (A.isSome = true → A'.isSome = true) := by
  have hlen := hr.1
  have hN := fun (W : World) => Lib.run_eql_slice_nil (P := Try.prog) W 30 3 A n c 0 0 Try.underlying30
  obtain ⟨i0, hi, hz0, hz1, hz2⟩ := info_parts intInfo
  cases A with
  | none =>
    have hn0 : n = 0 := by
      rcases Nat.eq_zero_or_pos n with h | h
      · exact h
      · obtain ⟨_, _, e, _⟩ := hr.2 h
        cases e
    subst hn0
    have hl0 : l = [] := List.eq_nil_of_length_eq_zero hlen
    subst hl0
    clear hr hlen hn hi hz0 hz1 hz2
    simp only [Option.isNone_none] at hN
    go_enter Try.func14, Try.ntmps14
    go_wp2
    go_ret
    exact ⟨none, 0, rfl, World.ownsRow_nil _ _ _ _, Below.refl _ _, fun h => h⟩
  | some ad =>
    simp only [Option.isNone_some] at hN
    have hnews : Hid (∀ W, Below w.heap.size w W → ∀ j u, (l.flatMap encI)[j]? = some u → W.cell? (ad.add j) = some u) := fun W hW => (hr.below hW).news (fun _ _ => rfl)
    clear hr
    go_enter Try.func14, Try.ntmps14
    go_wp2_with (at_builtin; refine wpList_append_own_at _ rfl (.tmp 5) (.tmp 6) 30 rfl w.heap.size 3 i0 (.int .i64 0) 1 8 Try.underlying30 hi hz0 hz1 hz2 rfl (by decide) (.slice (some ⟨w.heap.size, 0, none⟩) 0 0) 0 [] rfl (World.ownsRow_made w #[] 0 (Nat.le_refl _) (by simp [maxLen]) (by simp)) ad n c (l.flatMap encI) rfl ?_ (hnews.out _ (by (repeat' (first | (with_reducible exact Below.refl _ _) | (with_reducible assumption) | (with_reducible refine below_drewN ?_ _) | (with_reducible refine below_after (by assumption) ?_ ?_) | (with_reducible refine Below.drew ?_) | (with_reducible refine Below.alloc ?_ ?_ _) | (with_reducible refine Below.setCell ?_ ?_ _) | omega | (simp; omega) | (simp; done))))) ?_ ?_ ?_ ?_ ?_)
    case _ => rw [flatMap_size l (size := 1) (fun _ _ => rfl), hlen]
    case _ =>
      refine one_flat (fun x _ u hu => ?_)
      simp only [encI, List.mem_cons, List.mem_nil_iff, or_false] at hu
      rcases hu with rfl <;> rfl
    case _ => simp only [maxLen]; omega
    case _ => omega
    case _ => simp
    intro v' w1 hown hg hnil hat
    have hB : Below w.heap.size w w1 := Below.grown (w := w.alloc (.cells #[] 3)) (by (repeat' (first | (with_reducible exact Below.refl _ _) | (with_reducible assumption) | (with_reducible refine below_drewN ?_ _) | (with_reducible refine below_after (by assumption) ?_ ?_) | (with_reducible refine Below.drew ?_) | (with_reducible refine Below.alloc ?_ ?_ _) | (with_reducible refine Below.setCell ?_ ?_ _) | omega | (simp; omega) | (simp; done)))) hg (by simp) (fun k e => by simp [Value.ownBlock] at e; omega)
    have hown : World.ownsRow w1 w.heap.size 3 1 v' n (l.flatMap encI) := by simpa using hown
    obtain ⟨A', c', rfl⟩ := row_slice hown
    have hA' : A'.isSome = true := by
      rcases hat with h | h <;> (cases A' with | none => simp [Value.ownBlock] at h | some a => rfl)
    have HO := Lib.hid hown
    clear hown hat hg hnil
    go_wp2
    go_ret
    exact ⟨A', c', rfl, HO.out, hB, fun _ => hA'⟩
set_option maxRecDepth 100000 in
set_option maxHeartbeats 1000000 in
theorem clone_bats (A : Option Addr) (n c : Nat) (l : List Bat) (w : World) (hr : Rd w w.heap.size 4 Bat.enc A n l) (hn : n ≤ 1000000) :
    Calls Try.prog 12 #[.slice A n c] w fun e w' => ∃ (A' : Option Addr) (c' : Nat), e = .returned (.slice A' n c') ∧ w'.ownsRow w.heap.size 34 4 (.slice A' n c') n (l.flatMap Bat.enc) ∧ Below w.heap.size w w' ∧ (A.isSome = true → A'.isSome = true) := by
  have hlen := hr.1
  have hN := fun (W : World) => Lib.run_eql_slice_nil (P := Try.prog) W 23 34 A n c 0 0 Try.underlying23
  obtain ⟨i0, hi, hz0, hz1, hz2⟩ := info_parts batInfo
  cases A with
  | none =>
    have hn0 : n = 0 := by
      rcases Nat.eq_zero_or_pos n with h | h
      · exact h
      · obtain ⟨_, _, e, _⟩ := hr.2 h
        cases e
    subst hn0
    have hl0 : l = [] := List.eq_nil_of_length_eq_zero hlen
    subst hl0
    clear hr hlen hn hi hz0 hz1 hz2
    simp only [Option.isNone_none] at hN
    go_enter Try.func12, Try.ntmps12
    go_wp2
    go_ret
    exact ⟨none, 0, rfl, World.ownsRow_nil _ _ _ _, Below.refl _ _, fun h => h⟩
  | some ad =>
    simp only [Option.isNone_some] at hN
    have hnews : Hid (∀ W, Below w.heap.size w W → ∀ j u, (l.flatMap Bat.enc)[j]? = some u → W.cell? (ad.add j) = some u) := fun W hW => (hr.below hW).news (fun _ _ => rfl)
    clear hr
    go_enter Try.func12, Try.ntmps12
    go_wp2_with (at_builtin; refine wpList_append_own_at _ rfl (.tmp 5) (.tmp 6) 23 rfl w.heap.size 34 i0 (.agg #[.int .i64 0, .int .i64 0, .int .i64 0, .int .i64 0]) 4 32 Try.underlying23 hi hz0 hz1 hz2 rfl (by decide) (.slice (some ⟨w.heap.size, 0, none⟩) 0 0) 0 [] rfl (World.ownsRow_made w #[] 0 (Nat.le_refl _) (by simp [maxLen]) (by simp)) ad n c (l.flatMap Bat.enc) rfl ?_ (hnews.out _ (by (repeat' (first | (with_reducible exact Below.refl _ _) | (with_reducible assumption) | (with_reducible refine below_drewN ?_ _) | (with_reducible refine below_after (by assumption) ?_ ?_) | (with_reducible refine Below.drew ?_) | (with_reducible refine Below.alloc ?_ ?_ _) | (with_reducible refine Below.setCell ?_ ?_ _) | omega | (simp; omega) | (simp; done))))) ?_ ?_ ?_ ?_ ?_)
    case _ => rw [flatMap_size l (size := 4) (fun _ _ => rfl), hlen]
    case _ =>
      refine one_flat (fun x _ u hu => ?_)
      simp only [Bat.enc, List.mem_cons, List.mem_nil_iff, or_false] at hu
      rcases hu with rfl | rfl | rfl | rfl <;> rfl
    case _ => simp only [maxLen]; omega
    case _ => omega
    case _ => simp
    intro v' w1 hown hg hnil hat
    have hB : Below w.heap.size w w1 := Below.grown (w := w.alloc (.cells #[] 34)) (by (repeat' (first | (with_reducible exact Below.refl _ _) | (with_reducible assumption) | (with_reducible refine below_drewN ?_ _) | (with_reducible refine below_after (by assumption) ?_ ?_) | (with_reducible refine Below.drew ?_) | (with_reducible refine Below.alloc ?_ ?_ _) | (with_reducible refine Below.setCell ?_ ?_ _) | omega | (simp; omega) | (simp; done)))) hg (by simp) (fun k e => by simp [Value.ownBlock] at e; omega)
    have hown : World.ownsRow w1 w.heap.size 34 4 v' n (l.flatMap Bat.enc) := by simpa using hown
    obtain ⟨A', c', rfl⟩ := row_slice hown
    have hA' : A'.isSome = true := by
      rcases hat with h | h <;> (cases A' with | none => simp [Value.ownBlock] at h | some a => rfl)
    have HO := Lib.hid hown
    clear hown hat hg hnil
    go_wp2
    go_ret
    exact ⟨A', c', rfl, HO.out, hB, fun _ => hA'⟩
set_option maxRecDepth 100000 in
set_option maxHeartbeats 1000000 in
theorem clone_spns (A : Option Addr) (n c : Nat) (l : List Spn) (w : World) (hr : Rd w w.heap.size 2 Spn.enc A n l) (hn : n ≤ 1000000) :
    Calls Try.prog 13 #[.slice A n c] w fun e w' => ∃ (A' : Option Addr) (c' : Nat), e = .returned (.slice A' n c') ∧ w'.ownsRow w.heap.size 37 2 (.slice A' n c') n (l.flatMap Spn.enc) ∧ Below w.heap.size w w' ∧ (A.isSome = true → A'.isSome = true) := by
  have hlen := hr.1
  have hN := fun (W : World) => Lib.run_eql_slice_nil (P := Try.prog) W 28 37 A n c 0 0 Try.underlying28
  obtain ⟨i0, hi, hz0, hz1, hz2⟩ := info_parts spnInfo
  cases A with
  | none =>
    have hn0 : n = 0 := by
      rcases Nat.eq_zero_or_pos n with h | h
      · exact h
      · obtain ⟨_, _, e, _⟩ := hr.2 h
        cases e
    subst hn0
    have hl0 : l = [] := List.eq_nil_of_length_eq_zero hlen
    subst hl0
    clear hr hlen hn hi hz0 hz1 hz2
    simp only [Option.isNone_none] at hN
    go_enter Try.func13, Try.ntmps13
    go_wp2
    go_ret
    exact ⟨none, 0, rfl, World.ownsRow_nil _ _ _ _, Below.refl _ _, fun h => h⟩
  | some ad =>
    simp only [Option.isNone_some] at hN
    have hnews : Hid (∀ W, Below w.heap.size w W → ∀ j u, (l.flatMap Spn.enc)[j]? = some u → W.cell? (ad.add j) = some u) := fun W hW => (hr.below hW).news (fun _ _ => rfl)
    clear hr
    go_enter Try.func13, Try.ntmps13
    go_wp2_with (at_builtin; refine wpList_append_own_at _ rfl (.tmp 5) (.tmp 6) 28 rfl w.heap.size 37 i0 (.agg #[.int .i64 0, .int .i64 0]) 2 16 Try.underlying28 hi hz0 hz1 hz2 rfl (by decide) (.slice (some ⟨w.heap.size, 0, none⟩) 0 0) 0 [] rfl (World.ownsRow_made w #[] 0 (Nat.le_refl _) (by simp [maxLen]) (by simp)) ad n c (l.flatMap Spn.enc) rfl ?_ (hnews.out _ (by (repeat' (first | (with_reducible exact Below.refl _ _) | (with_reducible assumption) | (with_reducible refine below_drewN ?_ _) | (with_reducible refine below_after (by assumption) ?_ ?_) | (with_reducible refine Below.drew ?_) | (with_reducible refine Below.alloc ?_ ?_ _) | (with_reducible refine Below.setCell ?_ ?_ _) | omega | (simp; omega) | (simp; done))))) ?_ ?_ ?_ ?_ ?_)
    case _ => rw [flatMap_size l (size := 2) (fun _ _ => rfl), hlen]
    case _ =>
      refine one_flat (fun x _ u hu => ?_)
      simp only [Spn.enc, List.mem_cons, List.mem_nil_iff, or_false] at hu
      rcases hu with rfl | rfl <;> rfl
    case _ => simp only [maxLen]; omega
    case _ => omega
    case _ => simp
    intro v' w1 hown hg hnil hat
    have hB : Below w.heap.size w w1 := Below.grown (w := w.alloc (.cells #[] 37)) (by (repeat' (first | (with_reducible exact Below.refl _ _) | (with_reducible assumption) | (with_reducible refine below_drewN ?_ _) | (with_reducible refine below_after (by assumption) ?_ ?_) | (with_reducible refine Below.drew ?_) | (with_reducible refine Below.alloc ?_ ?_ _) | (with_reducible refine Below.setCell ?_ ?_ _) | omega | (simp; omega) | (simp; done)))) hg (by simp) (fun k e => by simp [Value.ownBlock] at e; omega)
    have hown : World.ownsRow w1 w.heap.size 37 2 v' n (l.flatMap Spn.enc) := by simpa using hown
    obtain ⟨A', c', rfl⟩ := row_slice hown
    have hA' : A'.isSome = true := by
      rcases hat with h | h <;> (cases A' with | none => simp [Value.ownBlock] at h | some a => rfl)
    have HO := Lib.hid hown
    clear hown hat hg hnil
    go_wp2
    go_ret
    exact ⟨A', c', rfl, HO.out, hB, fun _ => hA'⟩
/-- What abides whatever becomes of block g, and new blocks. -/
def AbidesG {β : Type} (g : Nat) (J : β → World → Prop) : Prop := ∀ s W W', J s W → W.grownBy W' (some g) → J s W'
/-- The contract of an iterator that keeps one block of its own, the first that it makes. -/
def SeqN {α : Type} (F : Fence) (n : Nat) (P : Program) (gf : Nat) (lb : Array Value) (encs : α → Array Value) (Kp : Nat → World → World → Prop) (S Sp : List α → Prop) (X : Nat → α → World → Prop) (w : World) : Prop :=
  ∀ (l : Nat) (J Jx : List α → World → Prop) (W : World), Below w.heap.size w W → AbidesG W.heap.size J → AbidesG W.heap.size Jx →
    (∀ pre x W1, J pre W1 → X W.heap.size x W1 → YieldAt F (n - 1) P l (encs x) W1 fun e W' =>
      (e = .returned (.bool true) ∧ J (pre ++ [x]) W' ∧ Kp W.heap.size W1 W') ∨ (e = .returned (.bool false) ∧ Jx (pre ++ [x]) W')) →
    J [] W →
    CallsIn F n P gf (#[.func (.yield l) #[] #[]] ++ lb) W fun e W' => (∃ v, e = .returned v) ∧ ((∃ xs, S xs ∧ J xs W') ∨ (∃ pre, Sp pre ∧ Jx pre W'))
theorem range_block {F : Fence} {n : Nat} {P : Program} {α : Type} {g : Operand} {ps : Array Tmp} {assign body : Code} {Q : Exit → Act → World → Prop} {a : Act} {w : World}
    (hro : F.round = none) (h1 : 1 ≤ n) {gf : Nat} {lb : Array Value} (hg : a.eval g = .func (.func gf) #[] lb) (hFg : F.fn gf) (eg : ∀ args w, (callFunc gf args).run P w = .ok (.enter gf args) w)
    {encs : α → Array Value} {Kp : Nat → World → World → Prop} {S Sp : List α → Prop} {X : Nat → α → World → Prop} {w0 : World} (hseq : SeqN F (n - 1) P gf lb encs Kp S Sp X w0)
    (hKt : ∀ {A B C : World}, Kp (w.heap.size + 2) A B → Kp (w.heap.size + 2) B C → Kp (w.heap.size + 2) A C) (hKb : ∀ (W : World) (l : Nat) (o o' : Obj), w.heap.size ≤ l → W.heap[l]? = some o → o.isCells = false → o.isWalk = false → Kp (w.heap.size + 2) W (W.putObj l o')) (hb0 : Below w0.heap.size w0 w) (hps : ∀ x, (encs x).size = ps.size)
    (hX : ∀ (x : α) (W : World) (l : Nat) (o o' : Obj), X (w.heap.size + 2) x W → W.heap[l]? = some o → o.isCells = false → X (w.heap.size + 2) x (W.putObj l o'))
    (I : List α → World → Prop) (Ix : Code → List α → World → Prop) (hI : OwnFrom w.heap.size I) (hIx : ∀ c, OwnFrom w.heap.size (Ix c)) (hIg : AbidesG (w.heap.size + 2) I) (hIxg : ∀ c, AbidesG (w.heap.size + 2) (Ix c)) (h0 : I [] w) (a₁ : α → Act)
    (hassign : ∀ (l : Nat) (x : α) (W : World) (K : Act → World → Prop), K (a₁ x) W →
      assign.wpIn (F.inRound l) (n - 1 - 1) P (Exit.then K (fun _ _ _ => False)) { tmps := (ps.zip (encs x)).foldl (fun t (p, v) => t.setIfInBounds p v) a.tmps, defers := [] } W)
    (hbody : ∀ (l : Nat) (pre : List α) (x : α) (W : World), I pre W → X (w.heap.size + 2) x W → body.wpIn (F.inRound l) (n - 1 - 1) P (ownPostG w.heap.size (Kp (w.heap.size + 2)) I Ix (pre ++ [x]) W) (a₁ x) W)
    (hdone : ∀ (D : Nat) (xs : List α) (W : World), w.heap.size ≤ D → S xs → I xs W → W.heap[D]? = some (.deferred (some [])) → Q .normal { a with defers := { target := .collected D, args := #[] } :: a.defers } W)
    (hstop : ∀ (D : Nat) (c : Code) (pre : List α) (W : World), w.heap.size ≤ D → Sp pre → Ix c pre W → W.heap[D]? = some (.deferred (some [])) → c.wpIn F n P Q { a with defers := { target := .collected D, args := #[] } :: a.defers } W) :
    (Code.rangeFunc g ps assign body).wpIn F n P Q a w := by
  refine wpIn_rangeFunc ?_
  intro fn hfn
  rw [hro]
  obtain ⟨rec, hrec⟩ : ∃ rec : LoopState → Option Code → Loop, rec = fun st pe => { state := st, pending := pe, fn, tmps := a.tmps, params := ps, assign, body, defers := w.heap.size } := ⟨_, rfl⟩
  obtain ⟨W1, hW1⟩ : ∃ W1, (w.alloc (.deferred (some []))).alloc (.loop (rec .ready none)) = W1 := ⟨_, rfl⟩
  have hL1 : W1.heap[w.heap.size + 1]? = some (.loop (rec .ready none)) := by
    rw [← hW1]; have := World.alloc_heap_new (w.alloc (.deferred (some []))) (.loop (rec .ready none)); rwa [World.size_alloc] at this
  have hK1 : W1.heap[w.heap.size]? = some (.deferred (some [])) := by
    rw [← hW1]; exact (Below.heap_alloc _ _ _ (by simp)).trans (World.alloc_heap_new w _)
  have hI1 : I [] W1 := by rw [← hW1]; exact hI.alloc _ (hI.alloc _ h0)
  have hz1 : W1.heap.size = w.heap.size + 2 := by rw [← hW1]; simp
  have hb1 : Below w0.heap.size w0 W1 := by
    rw [← hW1]; exact hb0.trans ((((Below.refl _ w).alloc (Nat.le_refl _) _).alloc (by simp) _).mono hb0.size)
  refine ⟨w.heap.size + 1, [{ target := .collected w.heap.size, args := #[] }], W1, { target := .fn (.func gf) lb, args := #[.func (.yield (w.heap.size + 1)) #[] #[]] }, W1, gf,
    #[.func (.yield (w.heap.size + 1)) #[] #[]] ++ lb, W1, ?_, ?_, ?_, ?_, fun _ => h1, ?_⟩
  · rw [← hW1, hrec]; exact run_enterLoop_outer _ _ _ _ _
  · simp only [resolve, hg]
    simp [go_sem]
  · intro f' hf'; simp [Target.leads] at hf'; subst hf'; exact hFg
  · simp [invoke, go_sem, eg]
  · have keep : ∀ {A B : World} {k : Nat} {o : Obj}, A.grownBy B (some (w.heap.size + 2)) → k < w.heap.size + 2 → A.heap[k]? = some o → B.heap[k]? = some o := fun hg' hk ho =>
      (hg'.block _ (Array.getElem?_eq_some_iff.1 ho).1 (by intro e; cases e; omega)).trans ho
    refine (hseq (w.heap.size + 1)
      (fun pre W => I pre W ∧ W.heap[w.heap.size + 1]? = some (.loop (rec .ready none)) ∧ W.heap[w.heap.size]? = some (.deferred (some [])))
      (fun pre W => ∃ c, Ix c pre W ∧ W.heap[w.heap.size + 1]? = some (.loop (rec .done (some c))) ∧ W.heap[w.heap.size]? = some (.deferred (some [])))
      W1 hb1
      (fun s A B hs hg' => by rw [hz1] at hg'; exact ⟨hIg s A B hs.1 hg', keep hg' (by omega) hs.2.1, keep hg' (by omega) hs.2.2⟩)
      (fun s A B hs hg' => by
        rw [hz1] at hg'
        obtain ⟨c, hc, hl, hk⟩ := hs
        exact ⟨c, hIxg c s A B hc hg', keep hg' (by omega) hl, keep hg' (by omega) hk⟩)
      ?_ ⟨hI1, hL1, hK1⟩).mono ?_
    · rintro pre x W ⟨hi, hl, hk⟩ hx
      rw [hz1] at hx ⊢
      have hlt : w.heap.size + 1 < W.heap.size := (Array.getElem?_eq_some_iff.1 hl).1
      have hy := run_yield (P := P) (args := encs x) hl (by rw [hrec]; exact hps x)
      rw [hrec] at hy
      refine ⟨fn, _, assign, body, hy, roundIn_of_wpIn hfn (hassign _ x W _ ⟨_, run_beginRound hl (by rw [hrec]), ?_⟩)⟩
      have hl2 : (W.putObj (w.heap.size + 1) (.loop { rec .ready none with state := .busy })).heap[w.heap.size + 1]? = some (.loop { rec .ready none with state := .busy }) := World.putObj_heap_same hlt
      have hk2 : (W.putObj (w.heap.size + 1) (.loop { rec .ready none with state := .busy })).heap[w.heap.size]? = some (.deferred (some [])) := (World.putObj_heap_other (by omega)).trans hk
      have hw2 : Kp (w.heap.size + 2) W (W.putObj (w.heap.size + 1) (.loop { rec .ready none with state := .busy })) := hKb _ _ _ _ (by omega) hl rfl rfl
      refine wpIn_mono (hbody _ pre x _ (hI.putObj _ hi (by omega) hl rfl) (hX _ _ _ _ _ hx hl rfl)) ?_
      have fin : ∀ (jump : Option Code) (W3 : World), KeepsFrom w.heap.size (W.putObj (w.heap.size + 1) (.loop { rec .ready none with state := .busy })) W3 →
          (Instr.endRound (w.heap.size + 1) jump).run P W3 = .ok (.bool jump.isNone) (W3.putObj (w.heap.size + 1) (.loop (rec (if jump.isNone then .ready else .done) jump))) ∧
          W3.heap[w.heap.size + 1]? = some (.loop { rec .ready none with state := .busy }) ∧
          (W3.putObj (w.heap.size + 1) (.loop (rec (if jump.isNone then .ready else .done) jump))).heap[w.heap.size + 1]? = some (.loop (rec (if jump.isNone then .ready else .done) jump)) ∧
          (W3.putObj (w.heap.size + 1) (.loop (rec (if jump.isNone then .ready else .done) jump))).heap[w.heap.size]? = some (.deferred (some [])) := fun jump W3 hk3 => by
        have hl3 := hk3.same _ _ (by omega) hl2 rfl
        have := run_endRound (P := P) jump hl3
        rw [hrec] at this ⊢
        exact ⟨this, by rw [hrec] at hl3; exact hl3, World.putObj_heap_same (Array.getElem?_eq_some_iff.1 hl3).1, (World.putObj_heap_other (by omega)).trans (hk3.same _ _ (Nat.le_refl _) hk2 rfl)⟩
      rintro e a3 W3 hp
      cases e with
      | normal =>
        obtain ⟨hk3, hkp3, hi3⟩ := hp
        obtain ⟨hr, hl3, hl4, hk4⟩ := fin none W3 hk3
        exact ⟨_, _, hr, .inl ⟨rfl, ⟨hI.putObj _ hi3 (by omega) hl3 rfl, hl4, hk4⟩, hKt (hKt hw2 hkp3) (hKb _ _ _ _ (by omega) hl3 rfl rfl)⟩⟩
      | ret =>
        obtain ⟨hk3, hi3⟩ := hp
        obtain ⟨hr, hl3, hl4, hk4⟩ := fin (some .ret) W3 hk3
        exact ⟨_, _, hr, .inr ⟨rfl, .ret, (hIx _).putObj _ hi3 (by omega) hl3 rfl, hl4, hk4⟩⟩
      | exit id =>
        obtain ⟨hk3, hi3⟩ := hp
        obtain ⟨hr, hl3, hl4, hk4⟩ := fin (some (.exit id)) W3 hk3
        exact ⟨_, _, hr, .inr ⟨rfl, .exit id, (hIx _).putObj _ hi3 (by omega) hl3 rfl, hl4, hk4⟩⟩
      | goto t =>
        obtain ⟨hk3, hi3⟩ := hp
        obtain ⟨hr, hl3, hl4, hk4⟩ := fin (some (.goto t)) W3 hk3
        exact ⟨_, _, hr, .inr ⟨rfl, .goto t, (hIx _).putObj _ hi3 (by omega) hl3 rfl, hl4, hk4⟩⟩
      | panic ch => exact hp.elim
      | outgrown => exact hp.elim
    · rintro e W2 ⟨⟨v, rfl⟩, (⟨xs, hS, hi, hl, hk⟩ | ⟨pre, hSp, c, hi, hl, hk⟩)⟩
      · exact ⟨none, _, by have := run_endLoop (P := P) hl (by rw [hrec]; simp); rw [hrec] at this; exact this, hdone _ xs _ (Nat.le_refl _) hS (hI.putObj _ hi (by omega) hl rfl) ((World.putObj_heap_other (by omega)).trans hk)⟩
      · exact ⟨some c, _, by have := run_endLoop (P := P) hl (by rw [hrec]; simp); rw [hrec] at this; exact this, hstop _ c pre _ (Nat.le_refl _) hSp ((hIx c).putObj _ hi (by omega) hl rfl) ((World.putObj_heap_other (by omega)).trans hk)⟩
end Go.Proofs.Ytnpkcipeacogcaa
