/- Lists, rows and blocks: what serves every layer. (Written by gen/gen_kpg.py out of bank's texts.) -/
import Derived.Test.YtcecbohaajocfaaData
import Derived.Test.YtcecbohaajocfaaFreeA
import Derived.Lib.Hide
import Derived.KernelRfl
import Derived.Maps.AppendAt
import Derived.BigGuardPart
import Derived.Laws.EntriesVeiled
import Derived.WalkLawsBesides
import Derived.BigQuiet
import Derived.StillTailTactics
import Derived.Lib.LazyBuf
import Derived.Laws.AppendOwnNone
import Derived.RangeFuncNested
import Derived.RangeFuncBound
import Derived.RangeFuncCalls
import Derived.RangeFuncLeaves
import Derived.RangeFuncBox
import Derived.Shelf.RegionOpen
import Derived.OwnWalkIn
import Derived.TacticsInMore
import Derived.LoopNIn
import Derived.LoopIn
import Derived.Test.YtcecbohaajocfaaProg

set_option linter.unusedSimpArgs false
set_option linter.unusedVariables false
namespace Go.Proofs.Ytcecbohaajocfaa
open Go.RowKit

/-- All blocks but those of S are as they were. -/
structure Keep (S : Nat → Prop) (w w' : World) : Prop where
  os : w'.os = w.os
  tape : w'.tape = w.tape
  output : w'.output = w.output
  size : w.heap.size ≤ w'.heap.size
  block : ∀ k, k < w.heap.size → ¬ S k → w'.heap[k]? = w.heap[k]?
section
variable {S S' : Nat → Prop} {w w1 w2 : World}
theorem Keep.refl (S : Nat → Prop) (w : World) : Keep S w w := ⟨rfl, rfl, rfl, Nat.le_refl _, fun _ _ _ => rfl⟩
theorem Keep.trans (h : Keep S w w1) (k : Keep S w1 w2) : Keep S w w2 :=
  ⟨k.os.trans h.os, k.tape.trans h.tape, k.output.trans h.output, Nat.le_trans h.size k.size, fun i hi hs => (k.block i (Nat.lt_of_lt_of_le hi h.size) hs).trans (h.block i hi hs)⟩
theorem Keep.mono (h : Keep S w w1) (hs : ∀ b, S b → S' b) : Keep S' w w1 := ⟨h.os, h.tape, h.output, h.size, fun k hk hn => h.block k hk (fun hS => hn (hs k hS))⟩
theorem Keep.of_below (h : Below w.heap.size w w1) : Keep S w w1 := ⟨h.os, h.tape, h.output, h.size, fun k hk _ => h.block k hk⟩
theorem Keep.drew (h : Keep S w w1) : Keep S w w1.drew := ⟨h.os, h.tape, h.output, h.size, h.block⟩
theorem Keep.alloc (h : Keep S w w1) (o : Obj) : Keep S w (w1.alloc o) := h.trans (Keep.of_below ((Below.refl _ _).alloc (Nat.le_refl _) o))
theorem Keep.setCell (h : Keep S w w1) {p : Addr} (hp : S p.block) (u : Value) : Keep S w (w1.setCell p u) :=
  h.trans ⟨rfl, rfl, rfl, by simp [World.setCell], fun k hk hn => Below.heap_setCell _ _ _ _ (fun e => hn (e ▸ hp))⟩
/-- What is written lies from B on: below it all is as it was. -/
theorem Keep.below {B : Nat} (h : Keep S w w1) (hB : B ≤ w.heap.size) (hs : ∀ b, S b → B ≤ b) : Below B w w1 :=
  ⟨h.os, h.tape, h.output, h.size, fun k hk => h.block k (by omega) (fun hS => by have := hs k hS; omega)⟩
theorem Keep.cell (h : Keep S w w1) {b o : Nat} {v : Value} (hb : b < w.heap.size) (hn : ¬ S b) (hc : w.cell? ⟨b, o, none⟩ = some v) : w1.cell? ⟨b, o, none⟩ = some v :=
  (World.cell?_of_block (w := w) (h.block b hb hn)).trans hc
theorem Keep.blk (h : Keep S w w1) {b : Nat} {t : TypeId} {cs : Array Value} (hb : Blk w b t cs) (hn : ¬ S b) : Blk w1 b t cs := (h.block b hb.lt hn).trans hb
end

/-- A row of elements, one after the other at the head of a block; nothing is said of an empty one. -/
def RowW {α : Type} (w : World) (b : Nat) (T : TypeId) (f : α → List Value) (A : Option Addr) (l : List α) : Prop :=
  l = [] ∨ (A = some ⟨b, 0, none⟩ ∧ ∃ cur, Blk w b T cur ∧ ∀ (j : Nat) u, (l.flatMap f)[j]? = some u → cur[j]? = some u)
section
variable {α : Type} {w w' : World} {b size : Nat} {T : TypeId} {f : α → List Value} {A : Option Addr} {l : List α}
theorem flat_set (hf : ∀ x, (f x).length = size) : ∀ (l : List α) (i : Nat) (x x' : α) (j : Nat) (u : Value), l[i]? = some x → j < size → f x' = (f x).set j u → (l.set i x').flatMap f = (l.flatMap f).set (i * size + j) u := by
  intro l
  induction l with
  | nil => intro i x x' j u h; simp at h
  | cons a l ih =>
    intro i x x' j u h hj hx
    cases i with
    | zero =>
      simp only [List.getElem?_cons_zero, Option.some.injEq] at h
      subst h
      rw [List.set_cons_zero, List.flatMap_cons, List.flatMap_cons, hx, Nat.zero_mul, Nat.zero_add, List.set_append_left _ _ (by rw [hf]; exact hj)]
    | succ i =>
      rw [List.set_cons_succ, List.flatMap_cons, List.flatMap_cons, ih i x x' j u (by simpa using h) hj hx, List.set_append_right _ _ (by rw [hf, Nat.succ_mul]; omega), hf, Nat.succ_mul, show i * size + size + j - size = i * size + j by omega]
theorem RowW.at_ (hf : ∀ x, (f x).length = size) (h : RowW w b T f A l) {i : Nat} {x : α} (hx : l[i]? = some x) :
    A = some ⟨b, 0, none⟩ ∧ b < w.heap.size ∧ (∀ o, w.frozen? ⟨b, o, none⟩ = false) ∧ ∀ j u, (f x)[j]? = some u → w.cell? ⟨b, i * size + j, none⟩ = some u := by
  rcases h with rfl | ⟨hA, cur, hb, hc⟩
  · simp at hx
  · exact ⟨hA, hb.lt, hb.frozen, fun j u hu => (hb.cell _).trans (hc _ _ (flatMap_get l (fun x _ => hf x) i x hx j u hu))⟩
theorem RowW.set_ (hf : ∀ x, (f x).length = size) (h : RowW w b T f A l) {i : Nat} {x x' : α} {j : Nat} {u : Value} (hx : l[i]? = some x) (hj : j < size) (hu : f x' = (f x).set j u) : RowW (w.setCell ⟨b, i * size + j, none⟩ u) b T f A (l.set i x') := by
  rcases h with rfl | ⟨hA, cur, hb, hc⟩
  · simp at hx
  · refine Or.inr ⟨hA, _, hb.set_ _ u, fun k v hv => ?_⟩
    rw [flat_set hf l i x x' j u hx hj hu] at hv
    have hlt : i * size + j < (l.flatMap f).length := by
      have h1 := flatMap_get l (fun x _ => hf x) i x hx j ((f x)[j]'(by rw [hf]; exact hj)) (List.getElem?_eq_getElem (by rw [hf]; exact hj))
      exact (List.getElem?_eq_some_iff.1 h1).1
    rw [List.getElem?_set] at hv
    rw [Array.getElem?_setIfInBounds]
    split at hv
    · rename_i e
      subst e
      rw [if_pos rfl, if_pos]
      · first | exact hv | (rw [if_pos hlt] at hv; exact hv)
      · have := hc _ _ (List.getElem?_eq_getElem hlt)
        exact (Array.getElem?_eq_some_iff.1 this).1
    · rename_i e
      rw [if_neg e]
      exact hc _ _ hv
theorem RowW.kept (h : RowW w b T f A l) (hk : l ≠ [] → ∀ cur, Blk w b T cur → Blk w' b T cur) : RowW w' b T f A l := by
  rcases h with rfl | ⟨hA, cur, hb, hc⟩
  · exact Or.inl rfl
  · by_cases hl : l = []
    · exact Or.inl hl
    · exact Or.inr ⟨hA, cur, hk hl cur hb, hc⟩
end
theorem below3 {B : Nat} {w w1 w2 : World} (h : Below B w w1) (k : Below w1.heap.size w1 w2) (hB : B ≤ w.heap.size) : Below B w w2 := h.trans (k.mono (Nat.le_trans hB h.size))
theorem grown_of_below {w w' : World} (h : Below w.heap.size w w') : w.grownBy w' none := ⟨h.os, h.tape, h.output, h.size, fun k hk _ => h.block k hk⟩
theorem own_ne {W : World} {n₀ i : Nat} {e T : TypeId} {size k : Nat} {v : Value} {xs : List Value} {cs : Array Value} (h : W.ownsRow n₀ e size v k xs) (hb : Blk W i T cs) (hT : T ≠ e) : some i ≠ v.ownBlock := by
  intro eg
  rcases h.2 with ⟨rfl, _⟩ | ⟨g', cap, cur, rfl, _, hg, _⟩
  · simp [Value.ownBlock] at eg
  · obtain rfl : i = g' := by simpa [Value.ownBlock] using eg
    have h1 := hb.symm.trans hg
    simp only [Option.some.injEq, Obj.cells.injEq] at h1
    exact hT h1.2.1
theorem own_far {W : World} {m m' size size' k k' : Nat} {e e' : TypeId} {v v' : Value} {xs xs' : List Value} (h : W.ownsRow m e size v k xs) (h' : W.ownsRow m' e' size' v' k' xs') (hT : e ≠ e') : v.ownBlock = none ∨ v.ownBlock ≠ v'.ownBlock := by
  rcases h.2 with ⟨rfl, _⟩ | ⟨g, cap, cur, rfl, _, hg, _⟩
  · exact Or.inl rfl
  · exact Or.inr (fun e => own_ne h' hg hT (by simpa [Value.ownBlock] using e))
theorem blk_ne {W : World} {a b : Nat} {T U : TypeId} {cs ds : Array Value} (h : Blk W a T cs) (h' : Blk W b U ds) (hT : T ≠ U) : a ≠ b := by
  rintro rfl
  have e2 := (show W.heap[a]? = _ from h).symm.trans h'
  simp only [Option.some.injEq, Obj.cells.injEq] at e2
  exact hT e2.2.1
theorem row_next {W W' : World} {n₀ size n : Nat} {e : TypeId} {v : Value} {xs : List Value} (h : W.ownsRow n₀ e size v n xs) (hb : Below W.heap.size W W') : W'.ownsRow n₀ e size v n xs :=
  h.kept (grown_of_below hb) (by by_cases hu : v.ownBlock = none; exact .inl hu; exact .inr hu)
theorem row_slice {W : World} {n₀ size n : Nat} {e : TypeId} {v : Value} {vs : List Value} (h : W.ownsRow n₀ e size v n vs) : ∃ A c, v = .slice A n c := by
  rcases h.2 with ⟨e, h0⟩ | ⟨g, cap, cur, e, _⟩
  · exact ⟨none, 0, by rw [e, h0]⟩
  · exact ⟨_, _, e⟩
theorem add0 (B j : Nat) : (⟨B, 0, none⟩ : Addr).add j = ⟨B, j, none⟩ := by
  cases j with
  | zero => rfl
  | succ j => simp [Addr.add]
theorem Blk.kept {W W' : World} {row : Option Nat} {b : Nat} {t : TypeId} {cs : Array Value} (h : Blk W b t cs) (hg : W.grownBy W' row) (hne : some b ≠ row) : Blk W' b t cs := (hg.block b h.lt hne).trans h
theorem grown_set (W : World) (b o : Nat) (u : Value) : W.grownBy (W.setCell ⟨b, o, none⟩ u) (some b) := only_setCell (World.grownBy.refl W (some b)) rfl u
theorem RowW.of_own {α : Type} {W : World} {n₀ size : Nat} {e : TypeId} {f : α → List Value} {v : Value} {l : List α} (h : W.ownsRow n₀ e size v l.length (l.flatMap f)) : ∃ A c b, v = .slice A l.length c ∧ RowW W b e f A l ∧ (0 < l.length → n₀ ≤ b ∧ v.ownBlock = some b) := by
  rcases h.2 with ⟨rfl, h0⟩ | ⟨g, cap, cur, rfl, hb, hg, _, _, _, ht⟩
  · exact ⟨none, 0, 0, by rw [h0], Or.inl (List.length_eq_zero_iff.1 h0), fun h => by omega⟩
  · refine ⟨_, cap, g, rfl, Or.inr ⟨rfl, cur, hg, fun j u hu => ?_⟩, fun _ => ⟨hb, rfl⟩⟩
    rw [← ht, List.getElem?_take] at hu
    split at hu
    · simpa using hu
    · cases hu
theorem row_low {w : World} {base base' : Nat} {e : TypeId} {size n : Nat} {v : Value} {xs : List Value} (h : w.ownsRow base e size v n xs) (hb : base' ≤ base) : w.ownsRow base' e size v n xs := by
  refine ⟨h.1, ?_⟩
  rcases h.2 with h | ⟨g, cap, cur, hv, hg, r⟩
  · exact .inl h
  · exact .inr ⟨g, cap, cur, hv, by omega, r⟩
theorem row_rd {α : Type} {f : α → List Value} {size n : Nat} {W : World} {n₀ : Nat} {T : TypeId} {A : Option Addr} {c : Nat} {xs : List α} (hf : ∀ x, (f x).length = size) (hl : xs.length = n) (h : W.ownsRow n₀ T size (.slice A n c) n (xs.flatMap f)) : Rd W W.heap.size size f A n xs := by
  subst hl
  obtain ⟨A', c', b, e, hw, _⟩ := RowW.of_own h
  cases e
  refine ⟨rfl, fun hn => ?_⟩
  have hx0 : xs[0]? = some xs[0] := List.getElem?_eq_getElem hn
  obtain ⟨hA, hb, _, _⟩ := hw.at_ hf hx0
  refine ⟨b, 0, hA, hb, fun i x hx j u hu => ?_⟩
  rw [Nat.zero_add]
  exact (hw.at_ hf hx).2.2.2 j u hu
/-- Small numbers. -/
def encU (n : Int) : List Value := [.int .u8 n]
def U8s (l : List Int) : Prop := ∀ x ∈ l, 0 ≤ x ∧ x ≤ 255
theorem tmod_bd {x n : Int} (h : 0 ≤ x) (hn : 0 < n) : 0 ≤ x.tmod n ∧ x.tmod n < n := ⟨Int.tmod_nonneg _ h, Int.tmod_lt_of_pos _ hn⟩
theorem flatMap_inv {α : Type} {f : α → List Value} {size : Nat} : ∀ (l : List α), (∀ x ∈ l, (f x).length = size) → ∀ (j : Nat) (u : Value), (l.flatMap f)[j]? = some u → ∃ (i : Nat) (x : α) (r : Nat), l[i]? = some x ∧ (f x)[r]? = some u ∧ j = i * size + r
  | [], _, j, u, h => by simp at h
  | y :: l, hf, j, u, h => by
    rw [List.flatMap_cons] at h
    have hy := hf y (List.mem_cons_self ..)
    rcases Nat.lt_or_ge j size with hj | hj
    · rw [List.getElem?_append_left (by omega)] at h
      exact ⟨0, y, j, rfl, h, by simp⟩
    · rw [List.getElem?_append_right (by omega)] at h
      obtain ⟨i, x, r, h1, h2, h3⟩ := flatMap_inv l (fun x hx => hf x (List.mem_cons_of_mem _ hx)) _ u h
      refine ⟨i + 1, x, r, h1, h2, ?_⟩
      rw [Nat.add_mul]
      omega
theorem flatMap_size {α : Type} {f : α → List Value} {size : Nat} : ∀ (l : List α), (∀ x ∈ l, (f x).length = size) → (l.flatMap f).length = l.length * size
  | [], _ => by simp
  | y :: l, hf => by
    rw [List.flatMap_cons, List.length_append, hf y (List.mem_cons_self ..), flatMap_size l (fun x hx => hf x (List.mem_cons_of_mem _ hx)), List.length_cons, Nat.add_mul]
    omega
/-- What append reads of a list that lies at an address. -/
theorem Rd.news {α : Type} {w : World} {B size n : Nat} {f : α → List Value} {ad : Addr} {l : List α} (h : Rd w B size f (some ad) n l) (hf : ∀ x ∈ l, (f x).length = size) (j : Nat) (u : Value) (hu : (l.flatMap f)[j]? = some u) : w.cell? (ad.add j) = some u := by
  obtain ⟨i, x, r, hx, hr, rfl⟩ := flatMap_inv l hf j u hu
  have hi := (List.getElem?_eq_some_iff.1 hx).1
  have hl := h.1
  obtain ⟨b, off, e, hb, hc⟩ := h.2 (by omega)
  cases e
  have := hc i x hx r u hr
  unfold Addr.add
  split
  · rename_i h0
    rw [Nat.add_assoc, h0, Nat.add_zero] at this
    exact this
  · rw [Nat.add_assoc] at this
    exact this
/-- A row of its own reads as the list. -/
theorem one_flat {α : Type} {f : α → List Value} {l : List α} (h : ∀ x ∈ l, ∀ u ∈ f x, u.oneCell' = true) : ∀ u ∈ l.flatMap f, u.oneCell' = true := by
  intro u hu
  obtain ⟨x, hx, hux⟩ := List.mem_flatMap.1 hu
  exact h x hx u hux
/-- A list of numbers as cells. -/
def intsA (l : List Int) : Array Value := (l.map (Value.int .i64)).toArray
theorem intInfo : (Try.prog.info? 3).map (fun i => (i.zero, i.size, i.bytes)) = some (some (.int .i64 0), 1, 8) := by kernel_rfl
theorem madeCells_int (n : Nat) : madeCells (Value.int .i64 0).cells n = intsA (List.replicate n 0) := by
  unfold madeCells intsA
  apply Array.ext
  · simp
  · intro i h1 h2
    have : i % 1 = 0 := Nat.mod_one i
    simp [Value.cells, this]
/-- make([]int, n). -/
theorem run_makeInts (n : Nat) (hn : n ≤ 140737488) (w : World) : (Instr.makeSlice 22 (.int .i64 n) (.int .i64 n)).run Try.prog w = .ok (.slice (some ⟨w.heap.size, 0, none⟩) n n) (w.alloc (.cells (intsA (List.replicate n 0)) 3)) := by
  obtain ⟨i, hi, hz, hs, hb⟩ := info_parts intInfo
  have h := run_make (P := Try.prog) w 22 3 i _ Try.underlying22 hi hz .i64 .i64 n n (by omega) (by omega) (by rw [hb]; omega) (by omega)
  simp only [Int.toNat_natCast, hs, Nat.mul_one, madeCells_int] at h
  exact h
theorem intsA_set (l : List Int) (k : Nat) (x : Int) : (intsA l).setIfInBounds k (.int .i64 x) = intsA (l.set k x) := by
  unfold intsA
  rw [List.setIfInBounds_toArray, List.map_set]
theorem Blk.intAt {w : World} {g : Nat} {T : TypeId} {l : List Int} {k : Nat} {x : Int} (h : Blk w g T (intsA l)) (hx : l[k]? = some x) : w.cell? ⟨g, k, none⟩ = some (.int .i64 x) := by
  rw [h.cell]
  simp [intsA, hx]
set_option maxRecDepth 100000 in
set_option maxHeartbeats 1000000 in
theorem clone_ints (A : Option Addr) (n c : Nat) (l : List Int) (w : World) (hr : Rd w w.heap.size 1 encI A n l) (hn : n ≤ 1000000) :
    Calls Try.prog 20 #[.slice A n c] w fun e w' => ∃ (A' : Option Addr) (c' : Nat), e = .returned (.slice A' n c') ∧ w'.ownsRow w.heap.size 3 1 (.slice A' n c') n (l.flatMap encI) ∧ Below w.heap.size w w' ∧ (A.isSome = true → A'.isSome = true) := by
  have hlen := hr.1
  have hN := fun (W : World) => Lib.run_eql_slice_nil (P := Try.prog) W 22 3 A n c 0 0 Try.underlying22
  obtain ⟨i0, hi, hz0, hz1, hz2⟩ := info_parts intInfo
  cases A with
  | none =>
    have hn0 : n = 0 := by
      rcases Nat.eq_zero_or_pos n with h | h
      · exact h
      · obtain ⟨_, _, e, _⟩ := hr.2 h
        cases e
    subst hn0
    have hl0 : l = [] := List.eq_nil_of_length_eq_zero hlen
    subst hl0
    clear hr hlen hn hi hz0 hz1 hz2
    simp only [Option.isNone_none] at hN
    go_enter Try.func20, Try.ntmps20
    go_wp2
    go_ret
    exact ⟨none, 0, rfl, World.ownsRow_nil _ _ _ _, Below.refl _ _, fun h => h⟩
  | some ad =>
    simp only [Option.isNone_some] at hN
    have hnews : Hid (∀ W, Below w.heap.size w W → ∀ j u, (l.flatMap encI)[j]? = some u → W.cell? (ad.add j) = some u) := fun W hW => (hr.below hW).news (fun _ _ => rfl)
    clear hr
    go_enter Try.func20, Try.ntmps20
    go_wp2_with (at_builtin; refine wpList_append_own_at _ rfl (.tmp 5) (.tmp 6) 22 rfl w.heap.size 3 i0 (.int .i64 0) 1 8 Try.underlying22 hi hz0 hz1 hz2 rfl (by decide) (.slice (some ⟨w.heap.size, 0, none⟩) 0 0) 0 [] rfl (World.ownsRow_made w #[] 0 (Nat.le_refl _) (by simp [maxLen]) (by simp)) ad n c (l.flatMap encI) rfl ?_ (hnews.out _ (by (repeat' (first | (with_reducible exact Below.refl _ _) | (with_reducible assumption) | (with_reducible refine below_drewN ?_ _) | (with_reducible refine below_after (by assumption) ?_ ?_) | (with_reducible refine Below.drew ?_) | (with_reducible refine Below.alloc ?_ ?_ _) | (with_reducible refine Below.setCell ?_ ?_ _) | omega | (simp; omega) | (simp; done))))) ?_ ?_ ?_ ?_ ?_)
    case _ => rw [flatMap_size l (size := 1) (fun _ _ => rfl), hlen]
    case _ =>
      refine one_flat (fun x _ u hu => ?_)
      simp only [encI, List.mem_cons, List.mem_nil_iff, or_false] at hu
      rcases hu with rfl <;> rfl
    case _ => simp only [maxLen]; omega
    case _ => omega
    case _ => simp
    intro v' w1 hown hg hnil hat
    have hB : Below w.heap.size w w1 := Below.grown (w := w.alloc (.cells #[] 3)) (by (repeat' (first | (with_reducible exact Below.refl _ _) | (with_reducible assumption) | (with_reducible refine below_drewN ?_ _) | (with_reducible refine below_after (by assumption) ?_ ?_) | (with_reducible refine Below.drew ?_) | (with_reducible refine Below.alloc ?_ ?_ _) | (with_reducible refine Below.setCell ?_ ?_ _) | omega | (simp; omega) | (simp; done)))) hg (by simp) (fun k e => by simp [Value.ownBlock] at e; omega)
    have hown : World.ownsRow w1 w.heap.size 3 1 v' n (l.flatMap encI) := by simpa using hown
    obtain ⟨A', c', rfl⟩ := row_slice hown
    have hA' : A'.isSome = true := by
      rcases hat with h | h <;> (cases A' with | none => simp [Value.ownBlock] at h | some a => rfl)
    have HO := Lib.hid hown
    clear hown hat hg hnil
    go_wp2
    go_ret
    exact ⟨A', c', rfl, HO.out, hB, fun _ => hA'⟩
theorem encI_flat (l : List Int) : l.flatMap encI = l.map (Value.int .i64) := by
  induction l with
  | nil => rfl
  | cons a l ih => rw [List.flatMap_cons, ih]; rfl
theorem Blk.rdI {w : World} {g : Nat} {l : List Int} (h : Blk w g 3 (intsA l)) : Rd w w.heap.size 1 encI (some ⟨g, 0, none⟩) l.length l := by
  refine ⟨rfl, fun _ => ⟨g, 0, rfl, h.lt, fun i x hx j u hu => ?_⟩⟩
  match j, hu with
  | 0, hu =>
    simp only [encI, List.getElem?_cons_zero, Option.some.injEq] at hu
    subst hu
    rw [Nat.zero_add, Nat.mul_one, Nat.add_zero, h.cell]
    simp [intsA, hx]
theorem RowW.rd {α : Type} {w : World} {b size : Nat} {T : TypeId} {f : α → List Value} {A : Option Addr} {l : List α} {n : Nat} (hf : ∀ x, (f x).length = size) (hl : l.length = n) (h : RowW w b T f A l) : Rd w w.heap.size size f A n l := by
  refine ⟨hl, fun hn => ?_⟩
  have hx0 : l[0]? = some (l[0]'(by omega)) := List.getElem?_eq_getElem (by omega)
  obtain ⟨hA, hb, _, _⟩ := h.at_ hf hx0
  refine ⟨b, 0, hA, hb, fun i x hx j u hu => ?_⟩
  rw [Nat.zero_add]
  exact (h.at_ hf hx).2.2.2 j u hu
end Go.Proofs.Ytcecbohaajocfaa
