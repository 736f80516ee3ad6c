/- law11: a case that is made, in memory: what its regions work with. -/
import Derived.Test.YtcecbohaajocfaaMtDa
import Derived.Test.YtcecbohaajocfaaMtF
import Derived.Test.YtcecbohaajocfaaMtG

set_option linter.unusedSimpArgs false
set_option linter.unusedVariables false
namespace Go.Proofs.Ytcecbohaajocfaa
open Go.RowKit

/-- Nodes as cells. -/
def nodesA (L : List Nd) : Array Value := (L.flatMap Nd.enc).toArray
def flagsA (l : List Bool) : Array Value := (l.map Value.bool).toArray
theorem flagsA_set (l : List Bool) (k : Nat) (x : Bool) : (flagsA l).setIfInBounds k (.bool x) = flagsA (l.set k x) := by
  unfold flagsA
  rw [List.setIfInBounds_toArray, List.map_set]
theorem Blk.flagAt {w : World} {g : Nat} {T : TypeId} {l : List Bool} {k : Nat} (h : Blk w g T (flagsA l)) (hk : k < l.length) : w.cell? ⟨g, k, none⟩ = some (.bool (l.getD k false)) := by
  rw [h.cell, List.getD_eq_getElem?_getD, List.getElem?_eq_getElem hk]
  simp [flagsA, hk]
theorem Blk.intAt9 {w : World} {g : Nat} {T : TypeId} {l : List Int} {k : Nat} (h : Blk w g T (intsA l)) (hk : k < l.length) : w.cell? ⟨g, k, none⟩ = some (.int .i64 (l.getD k 0)) :=
  h.intAt (by rw [List.getD_eq_getElem?_getD, List.getElem?_eq_getElem hk]; rfl)
theorem Blk.ndAt {w : World} {g : Nat} {T : TypeId} {L : List Nd} {k : Nat} (h : Blk w g T (nodesA L)) (hk : k < L.length) : w.cell? ⟨g, k * 3, none⟩ = some (.int .i64 (ndA L k).up) ∧ w.cell? ⟨g, k * 3 + 1, none⟩ = some (.int .i64 (ndA L k).lo) ∧ w.cell? ⟨g, k * 3 + 2, none⟩ = some (.int .i64 (ndA L k).hi) := by
  have hr : RowW w g T Nd.enc (some ⟨g, 0, none⟩) L := Or.inr ⟨rfl, _, h, fun j u hu => by rw [nodesA, List.getElem?_toArray]; exact hu⟩
  have hx : L[k]? = some (ndA L k) := by unfold ndA; rw [List.getD_eq_getElem?_getD, List.getElem?_eq_getElem hk]; rfl
  have hc := (hr.at_ (size := 3) (fun _ => rfl) hx).2.2.2
  exact ⟨hc 0 _ rfl, hc 1 _ rfl, hc 2 _ rfl⟩
theorem nodesA_set (L : List Nd) (k : Nat) (x : Nd) (hk : k < L.length) : (((nodesA L).setIfInBounds (k * 3) (.int .i64 x.up)).setIfInBounds (k * 3 + 1) (.int .i64 x.lo)).setIfInBounds (k * 3 + 2) (.int .i64 x.hi) = nodesA (L.set k x) := by
  have hf : ∀ x : Nd, (Nd.enc x).length = 3 := fun _ => rfl
  have h0 : L[k]? = some L[k] := List.getElem?_eq_getElem hk
  have e1 := flat_set hf L k L[k] ⟨x.up, L[k].lo, L[k].hi⟩ 0 (.int .i64 x.up) h0 (by omega) rfl
  have h1 : (L.set k ⟨x.up, L[k].lo, L[k].hi⟩)[k]? = some ⟨x.up, L[k].lo, L[k].hi⟩ := by simp [hk]
  have e2 := flat_set hf (L.set k ⟨x.up, L[k].lo, L[k].hi⟩) k ⟨x.up, L[k].lo, L[k].hi⟩ ⟨x.up, x.lo, L[k].hi⟩ 1 (.int .i64 x.lo) h1 (by omega) rfl
  rw [List.set_set] at e2
  have h2 : (L.set k ⟨x.up, x.lo, L[k].hi⟩)[k]? = some ⟨x.up, x.lo, L[k].hi⟩ := by simp [hk]
  have e3 := flat_set hf (L.set k ⟨x.up, x.lo, L[k].hi⟩) k ⟨x.up, x.lo, L[k].hi⟩ x 2 (.int .i64 x.hi) h2 (by omega) rfl
  rw [List.set_set] at e3
  unfold nodesA
  rw [List.setIfInBounds_toArray, List.setIfInBounds_toArray, List.setIfInBounds_toArray, e3, e2, e1]
  rfl
theorem nodesA_up (L : List Nd) (k : Nat) (u lo hi : Int) (v : Int) (hk : k < L.length) : (nodesA (L.set k ⟨v, lo, hi⟩)).setIfInBounds (k * 3) (.int .i64 u) = nodesA (L.set k ⟨u, lo, hi⟩) := by
  have hf : ∀ x : Nd, (Nd.enc x).length = 3 := fun _ => rfl
  have h1 : (L.set k ⟨v, lo, hi⟩)[k]? = some ⟨v, lo, hi⟩ := by simp [hk]
  have e := flat_set hf (L.set k ⟨v, lo, hi⟩) k ⟨v, lo, hi⟩ ⟨u, lo, hi⟩ 0 (.int .i64 u) h1 (by omega) rfl
  rw [List.set_set] at e
  unfold nodesA
  rw [List.setIfInBounds_toArray, e]
  rfl
theorem nodeInfo : (Try.prog.info? 107).map (fun i => (i.zero, i.size, i.bytes)) = some (some (.agg #[.int .i64 0, .int .i64 0, .int .i64 0]), 3, 24) := by kernel_rfl
theorem flagInfo : (Try.prog.info? 4).map (fun i => (i.zero, i.size, i.bytes)) = some (some (.bool false), 1, 1) := by kernel_rfl
theorem run_makeNd (n : Nat) (hn : n ≤ 100000) (w : World) : (Instr.makeSlice 33 (.int .i64 n) (.int .i64 n)).run Try.prog w = .ok (.slice (some ⟨w.heap.size, 0, none⟩) n n) (w.alloc (.cells (nodesA (List.replicate n ⟨0, 0, 0⟩)) 107)) := by
  obtain ⟨i, hi, hz, hs, hb⟩ := info_parts nodeInfo
  have h := run_make (P := Try.prog) w 33 107 i _ Try.underlying33 hi hz .i64 .i64 n n (by omega) (by omega) (by rw [hb]; omega) (by omega)
  have e : madeCells (Value.agg #[.int .i64 0, .int .i64 0, .int .i64 0]).cells (n * 3) = nodesA (List.replicate n ⟨0, 0, 0⟩) := by
    have := madeCells_rep #[.int .i64 0, .int .i64 0, .int .i64 0] (by simp) n
    unfold nodesA
    rw [List.flatMap_replicate]
    exact this
  simp only [Int.toNat_natCast, hs, e] at h
  exact h
theorem run_makeFl (n : Nat) (hn : n ≤ 100000) (w : World) : (Instr.makeSlice 105 (.int .i64 n) (.int .i64 n)).run Try.prog w = .ok (.slice (some ⟨w.heap.size, 0, none⟩) n n) (w.alloc (.cells (flagsA (List.replicate n false)) 4)) := by
  obtain ⟨i, hi, hz, hs, hb⟩ := info_parts flagInfo
  have h := run_make (P := Try.prog) w 105 4 i _ Try.underlying105 hi hz .i64 .i64 n n (by omega) (by omega) (by rw [hb]; omega) (by omega)
  have e : madeCells (Value.bool false).cells (n * 1) = flagsA (List.replicate n false) := by
    unfold madeCells flagsA
    apply Array.ext
    · simp
    · intro i h1 h2
      have : i % 1 = 0 := Nat.mod_one i
      simp [Value.cells, this]
  simp only [Int.toNat_natCast, hs, e] at h
  exact h
/-- What the loops of Made keep. -/
structure MdS (w : World) (rb dx nb vb cb sb n : Nat) (dv : Value) (i : Nat) (N : List Nd) (V : List Int) (S : List Bool) (W : World) : Prop where
  low : Below w.heap.size w W
  r : Blk W rb 35 #[.slice none 0 0, .slice none 0 0]
  d : ∃ q, q ≤ i ∧ Blk W dx 72 #[dv, .int .i64 ((q : Nat) : Int)]
  nd : Blk W nb 107 (nodesA N)
  v : Blk W vb 3 (intsA V)
  c : Blk W cb 35 #[.slice (some ⟨nb, 0, none⟩) n n, .slice (some ⟨vb, 0, none⟩) n n]
  s : Blk W sb 4 (flagsA S)
  ge : w.heap.size ≤ rb ∧ w.heap.size ≤ dx ∧ w.heap.size ≤ nb ∧ w.heap.size ≤ vb ∧ w.heap.size ≤ cb ∧ w.heap.size ≤ sb
section
variable {w : World} {rb dx nb vb cb sb n : Nat} {dv : Value} {i : Nat} {N : List Nd} {V : List Int} {S : List Bool} {W W' : World}
theorem MdS.mono (h : MdS w rb dx nb vb cb sb n dv i N V S W) {j : Nat} (hij : i ≤ j) : MdS w rb dx nb vb cb sb n dv j N V S W := by
  obtain ⟨q, hq, hd⟩ := h.d
  exact ⟨h.low, h.r, ⟨q, by omega, hd⟩, h.nd, h.v, h.c, h.s, h.ge⟩
theorem MdS.next (h : MdS w rb dx nb vb cb sb n dv i N V S W) (hb : Below W.heap.size W W') : MdS w rb dx nb vb cb sb n dv i N V S W' := by
  obtain ⟨q, hq, hd⟩ := h.d
  exact ⟨below3 h.low hb (Nat.le_refl _), h.r.below hb h.r.lt, ⟨q, hq, hd.below hb hd.lt⟩, h.nd.below hb h.nd.lt, h.v.below hb h.v.lt, h.c.below hb h.c.lt, h.s.below hb h.s.lt, h.ge⟩
theorem MdS.setV (h : MdS w rb dx nb vb cb sb n dv i N V S W) (k : Nat) (x : Int) : MdS w rb dx nb vb cb sb n dv i N (V.set k x) S (W.setCell ⟨vb, k, none⟩ (.int .i64 x)) := by
  obtain ⟨q, hq, hd⟩ := h.d
  refine ⟨h.low.setCell (p := ⟨vb, k, none⟩) h.ge.2.2.2.1 _, h.r.far (fun e => blk_ne h.r h.v (by decide) e) _, ⟨q, hq, hd.far (fun e => blk_ne hd h.v (by decide) e) _⟩, h.nd.far (fun e => blk_ne h.nd h.v (by decide) e) _, ?_, h.c.far (fun e => blk_ne h.c h.v (by decide) e) _, h.s.far (fun e => blk_ne h.s h.v (by decide) e) _, h.ge⟩
  rw [← intsA_set]
  exact h.v.set_ k _
theorem MdS.setS (h : MdS w rb dx nb vb cb sb n dv i N V S W) (k : Nat) (x : Bool) : MdS w rb dx nb vb cb sb n dv i N V (S.set k x) (W.setCell ⟨sb, k, none⟩ (.bool x)) := by
  obtain ⟨q, hq, hd⟩ := h.d
  refine ⟨h.low.setCell (p := ⟨sb, k, none⟩) h.ge.2.2.2.2.2 _, h.r.far (fun e => blk_ne h.r h.s (by decide) e) _, ⟨q, hq, hd.far (fun e => blk_ne hd h.s (by decide) e) _⟩, h.nd.far (fun e => blk_ne h.nd h.s (by decide) e) _, h.v.far (fun e => blk_ne h.v h.s (by decide) e) _, h.c.far (fun e => blk_ne h.c h.s (by decide) e) _, ?_, h.ge⟩
  rw [← flagsA_set]
  exact h.s.set_ k _
theorem MdS.farN (h : MdS w rb dx nb vb cb sb n dv i N V S W) (o : Nat) (u : Value) (N' : List Nd) (hn : Blk (W.setCell ⟨nb, o, none⟩ u) nb 107 (nodesA N')) : MdS w rb dx nb vb cb sb n dv i N' V S (W.setCell ⟨nb, o, none⟩ u) := by
  obtain ⟨q, hq, hd⟩ := h.d
  exact ⟨h.low.setCell (p := ⟨nb, o, none⟩) h.ge.2.2.1 _, h.r.far (fun e => blk_ne h.r h.nd (by decide) e) _, ⟨q, hq, hd.far (fun e => blk_ne hd h.nd (by decide) e) _⟩, hn, h.v.far (fun e => blk_ne h.v h.nd (by decide) e) _, h.c.far (fun e => blk_ne h.c h.nd (by decide) e) _, h.s.far (fun e => blk_ne h.s h.nd (by decide) e) _, h.ge⟩
theorem MdS.setUp (u : Int) {lo hi v : Int} {k : Nat} (h : MdS w rb dx nb vb cb sb n dv i (N.set k ⟨v, lo, hi⟩) V S W) (hk : k < N.length) : MdS w rb dx nb vb cb sb n dv i (N.set k ⟨u, lo, hi⟩) V S (W.setCell ⟨nb, k * 3, none⟩ (.int .i64 u)) :=
  h.farN (k * 3) _ _ (by rw [← nodesA_up N k u lo hi v hk]; exact h.nd.set_ _ _)
theorem MdS.setN (h : MdS w rb dx nb vb cb sb n dv i N V S W) (k : Nat) (x : Nd) (hk : k < N.length) : MdS w rb dx nb vb cb sb n dv i (N.set k x) V S (((W.setCell ⟨nb, k * 3, none⟩ (.int .i64 x.up)).setCell ⟨nb, k * 3 + 1, none⟩ (.int .i64 x.lo)).setCell ⟨nb, k * 3 + 2, none⟩ (.int .i64 x.hi)) := by
  obtain ⟨q, hq, hd⟩ := h.d
  have F : ∀ {b : Nat} {T : TypeId} {cs : Array Value}, Blk W b T cs → T ≠ 107 → Blk (((W.setCell ⟨nb, k * 3, none⟩ (.int .i64 x.up)).setCell ⟨nb, k * 3 + 1, none⟩ (.int .i64 x.lo)).setCell ⟨nb, k * 3 + 2, none⟩ (.int .i64 x.hi)) b T cs := fun hb hT =>
    have hne := blk_ne hb h.nd hT
    ((hb.far hne _).far hne _).far hne _
  refine ⟨((h.low.setCell (p := ⟨nb, k * 3, none⟩) h.ge.2.2.1 _).setCell (p := ⟨nb, k * 3 + 1, none⟩) h.ge.2.2.1 _).setCell (p := ⟨nb, k * 3 + 2, none⟩) h.ge.2.2.1 _, F h.r (by decide), ⟨q, hq, F hd (by decide)⟩, ?_, F h.v (by decide), F h.c (by decide), F h.s (by decide), h.ge⟩
  rw [← nodesA_set N k x hk]
  exact ((h.nd.set_ _ _).set_ _ _).set_ _ _
/-- A number is taken. -/
theorem next_md {A : Option Addr} {l : List Int} {n0 c0 : Nat} (hl : Rd w w.heap.size 1 encU A n0 l) (hu : U8s l) (m : Int) (h : MdS w rb dx nb vb cb sb n (.slice A n0 c0) i N V S W) (hi : i ≤ 1000) (hm : 1 ≤ m ∧ m ≤ 1000) :
    Calls Try.prog 26 #[.pointer (some ⟨dx, 0, none⟩), .int .i64 m] W fun e w' => ∃ r : Int, e = .returned (.int .i64 r) ∧ (0 ≤ r ∧ r < m) ∧ MdS w rb dx nb vb cb sb n (.slice A n0 c0) (i + 1) N V S w' ∧ Keep (fun b => b = dx) W w' := by
  obtain ⟨q, hq, hd⟩ := h.d
  refine (next_int dx n0 c0 w.heap.size q m A l W hd (hl.below h.low) h.ge.2.1 hu (by omega) hm).mono ?_
  rintro e w' ⟨r, rfl, hr, hk, hd'⟩
  exact ⟨r, rfl, hr, ⟨h.low.trans (hk.below h.low.size (fun b e => by rw [e]; exact h.ge.2.1)), hk.blk h.r (fun e => blk_ne h.r hd (by decide) e), ⟨q + 1, by omega, hd'⟩, hk.blk h.nd (fun e => blk_ne h.nd hd (by decide) e), hk.blk h.v (fun e => blk_ne h.v hd (by decide) e), hk.blk h.c (fun e => blk_ne h.c hd (by decide) e), hk.blk h.s (fun e => blk_ne h.s hd (by decide) e), h.ge⟩, hk⟩
end
/-- With the copy of a node. -/
def MdX (w : World) (rb dx nb vb cb sb n : Nat) (dv : Value) (xb : Nat) (xs : Array Value) (i : Nat) (N : List Nd) (V : List Int) (S : List Bool) (W : World) : Prop := MdS w rb dx nb vb cb sb n dv i N V S W ∧ Blk W xb 107 xs
section
variable {w : World} {rb dx nb vb cb sb n xb : Nat} {dv : Value} {xs : Array Value} {i : Nat} {N : List Nd} {V : List Int} {S : List Bool} {W W' : World}
theorem MdX.next (h : MdX w rb dx nb vb cb sb n dv xb xs i N V S W) (hb : Below W.heap.size W W') : MdX w rb dx nb vb cb sb n dv xb xs i N V S W' := ⟨h.1.next hb, h.2.below hb h.2.lt⟩
theorem MdX.mono (h : MdX w rb dx nb vb cb sb n dv xb xs i N V S W) {j : Nat} (hij : i ≤ j) : MdX w rb dx nb vb cb sb n dv xb xs j N V S W := ⟨h.1.mono hij, h.2⟩
theorem MdX.setV (h : MdX w rb dx nb vb cb sb n dv xb xs i N V S W) (k : Nat) (x : Int) : MdX w rb dx nb vb cb sb n dv xb xs i N (V.set k x) S (W.setCell ⟨vb, k, none⟩ (.int .i64 x)) :=
  ⟨h.1.setV k x, h.2.far (fun e => blk_ne h.2 h.1.v (by decide) e) _⟩
theorem next_mdx {A : Option Addr} {l : List Int} {n0 c0 : Nat} (hl : Rd w w.heap.size 1 encU A n0 l) (hu : U8s l) (m : Int) (h : MdX w rb dx nb vb cb sb n (.slice A n0 c0) xb xs i N V S W) (hi : i ≤ 1000) (hm : 1 ≤ m ∧ m ≤ 1000) :
    Calls Try.prog 26 #[.pointer (some ⟨dx, 0, none⟩), .int .i64 m] W fun e w' => ∃ r : Int, e = .returned (.int .i64 r) ∧ (0 ≤ r ∧ r < m) ∧ MdX w rb dx nb vb cb sb n (.slice A n0 c0) xb xs (i + 1) N V S w' := by
  refine (next_md hl hu m h.1 hi hm).mono ?_
  rintro e w' ⟨r, rfl, hr, hS, hk⟩
  obtain ⟨q, hq, hd⟩ := h.1.d
  exact ⟨r, rfl, hr, hS, hk.blk h.2 (fun e => blk_ne h.2 hd (by decide) e)⟩
end
/-- What an operation of a region leaves that calls next at most once and stores at its end. -/
inductive Pk where
  | eq (v : Value)
  | num (f : Int → Value)
def pkAt : List Pk → Nat → Option Pk
  | [], _ => none
  | x :: _, 0 => some x
  | _ :: l, k + 1 => pkAt l k
def pkIs (P : Int → Prop) : Option Pk → Value → Prop
  | some (.eq u), v => v = u
  | some (.num f), v => ∃ r, P r ∧ v = f r
  | none, _ => True
def mdPhi (P : Int → Prop) (F : Int → World → Prop) (m : Nat) (t : List Pk) (j : Nat) (v : Value) (W : World) (γ : Nat → Nat) : Prop := if j = m then γ 0 = 1 ∧ ∃ r, P r ∧ F r W else pkIs P (pkAt t j) v
def mdR (I : Nat → World → Prop) (i : Nat) (W : World) (γ : Nat → Nat) : Prop := γ 2 ≤ 1 ∧ (γ 0 = 0 → I (i + γ 2) W)
def mdPsi (c : Nat) (j : Nat) (_ : World) (γ : Nat → Nat) : Prop := γ 0 = 0 ∧ (j = c → γ 2 = 0)
theorem mdPhi_w {P : Int → Prop} {F : Int → World → Prop} {m : Nat} {t : List Pk} {j : Nat} {v : Value} {W W' : World} {γ γ' : Nat → Nat} (h0 : γ 0 = 0) (h : mdPhi P F m t j v W γ) : mdPhi P F m t j v W' γ' := by
  unfold mdPhi at h ⊢
  split
  · rename_i e
    rw [if_pos e] at h
    exact absurd h.1 (by omega)
  · rename_i e
    rw [if_neg e] at h
    exact h
theorem mdPhi_n {P : Int → Prop} {F : Int → World → Prop} {m : Nat} {t : List Pk} {j : Nat} {v : Value} {W W' : World} {γ γ' : Nat → Nat} (hj : j ≠ m) (h : mdPhi P F m t j v W γ) : mdPhi P F m t j v W' γ' := by
  unfold mdPhi at h ⊢
  rw [if_neg hj] at h ⊢
  exact h
end Go.Proofs.Ytcecbohaajocfaa
