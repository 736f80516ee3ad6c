/- law07: halls under way. -/
import Derived.Test.YtldbciflpnhfpaaHtN

set_option linter.unusedSimpArgs false
set_option linter.unusedVariables false
namespace Go.Proofs.Ytldbciflpnhfpaa
open Go.RowKit

/-- A hall under way: its lists, but for the rooms. -/
structure MdH (n : Nat) (h : Hl) : Prop where
  wal : ∀ x ∈ h.walls, (0 ≤ x.a ∧ x.a < n) ∧ (x.b = -1 ∨ ((0 ≤ x.b ∧ x.b < n) ∧ x.b ≠ x.a)) ∧ 0 ≤ x.p ∧ x.p ≤ 39
  brn : ∀ i < h.brs.length, ((i = 0 ∧ (h.br i).up = -1) ∨ (0 ≤ (h.br i).up ∧ (h.br i).up < i)) ∧ (0 ≤ (h.br i).op ∧ (h.br i).op ≤ 100) ∧ 0 ≤ (h.br i).lk ∧ (h.br i).lk ≤ 29
  clr : ∀ x ∈ h.crs, (0 ≤ x.rm ∧ x.rm < n) ∧ (0 ≤ x.br ∧ x.br < h.brs.length) ∧ (0 ≤ x.gn ∧ x.gn ≤ 59) ∧ (0 ≤ x.cr ∧ x.cr ≤ 199) ∧ 10000 ≤ x.sp ∧ x.sp ≤ 20200
def slL (n : Nat) (h : Hl) : List Int := (List.range n).map (fun i : Nat => slopeF h (i : Int))
theorem slL_len (n : Nat) (h : Hl) : (slL n h).length = n := by simp [slL]
theorem slL_get {n i : Nat} {h : Hl} (hi : i < n) : (slL n h)[i]? = some (slopeF h (i : Int)) := by simp [slL, hi]
theorem slL_none (n : Nat) : slL n ⟨[], [], [], []⟩ = List.replicate n 0 := by
  apply List.ext_getElem?
  intro i
  by_cases h : i < n
  · rw [slL_get h]; simp [slopeF, slW, slC, h]
  · rw [List.getElem?_eq_none (by rw [slL_len]; omega), List.getElem?_eq_none (by simp; omega)]
def Hl.addW (h : Hl) (x : Wal) : Hl := ⟨h.rooms, h.walls ++ [x], h.brs, h.crs⟩
def Hl.addB (h : Hl) (x : Brn) : Hl := ⟨h.rooms, h.walls, h.brs ++ [x], h.crs⟩
def Hl.addC (h : Hl) (x : Clr) : Hl := ⟨h.rooms, h.walls, h.brs, h.crs ++ [x]⟩
def Hl.addR (h : Hl) (x : Rom) : Hl := ⟨h.rooms ++ [x], h.walls, h.brs, h.crs⟩
theorem sl_addW (h : Hl) (x : Wal) (i : Int) : slopeF (h.addW x) i = slopeF h i + if x.a = i ∨ x.b = i then x.p else 0 := by
  show slW i (h.walls ++ [x]) + slC i h.crs = (slW i h.walls + slC i h.crs) + _
  rw [slW_snoc]
  omega
theorem sl_addC (h : Hl) (x : Clr) (i : Int) : slopeF (h.addC x) i = slopeF h i + if x.rm = i then x.gn else 0 := by
  show slW i h.walls + slC i (h.crs ++ [x]) = (slW i h.walls + slC i h.crs) + _
  rw [slC_snoc]
  omega
theorem slL_wall1 {n a : Nat} {h : Hl} {p : Int} (ha : a < n) : (slL n h).set a (slopeF h (a : Int) + p) = slL n (h.addW ⟨(a : Int), -1, p⟩) := by
  apply List.ext_getElem?
  intro i
  by_cases hi : i < n
  · rw [slL_get hi, List.getElem?_set, sl_addW]
    by_cases e : a = i
    · subst e
      rw [if_pos rfl, if_pos (show a < (slL n h).length by rw [slL_len]; exact hi), if_pos (show ((a : Int) = (a : Int) ∨ (-1 : Int) = (a : Int)) from Or.inl rfl)]
    · rw [if_neg e, slL_get hi, if_neg (show ¬ ((a : Int) = (i : Int) ∨ (-1 : Int) = (i : Int)) by omega), Int.add_zero]
  · rw [List.getElem?_eq_none (by rw [List.length_set, slL_len]; omega), List.getElem?_eq_none (by rw [slL_len]; omega)]
theorem slL_wall2 {n a b : Nat} {h : Hl} {p : Int} (ha : a < n) (hb : b < n) (hab : b ≠ a) : ((slL n h).set a (slopeF h (a : Int) + p)).set b (slopeF h (b : Int) + p) = slL n (h.addW ⟨(a : Int), (b : Int), p⟩) := by
  apply List.ext_getElem?
  intro i
  by_cases hi : i < n
  · rw [slL_get hi, List.getElem?_set, sl_addW]
    by_cases e : b = i
    · subst e
      rw [if_pos rfl, if_pos (show b < ((slL n h).set a (slopeF h (a : Int) + p)).length by rw [List.length_set, slL_len]; exact hi), if_pos (show ((a : Int) = (b : Int) ∨ (b : Int) = (b : Int)) from Or.inr rfl)]
    · rw [if_neg e, List.getElem?_set]
      by_cases e2 : a = i
      · subst e2
        rw [if_pos rfl, if_pos (show a < (slL n h).length by rw [slL_len]; exact hi), if_pos (show ((a : Int) = (a : Int) ∨ (b : Int) = (a : Int)) from Or.inl rfl)]
      · rw [if_neg e2, slL_get hi, if_neg (show ¬ ((a : Int) = (i : Int) ∨ (b : Int) = (i : Int)) by omega), Int.add_zero]
  · rw [List.getElem?_eq_none (by rw [List.length_set, List.length_set, slL_len]; omega), List.getElem?_eq_none (by rw [slL_len]; omega)]
theorem slL_mid {n a b : Nat} {h : Hl} {p : Int} (hb : b < n) (hab : b ≠ a) : ((slL n h).set a (slopeF h (a : Int) + p))[b]? = some (slopeF h (b : Int)) := by
  rw [List.getElem?_set, if_neg (by omega), slL_get hb]
theorem slL_clr {n a : Nat} {h : Hl} {x : Clr} (hx : x.rm = (a : Int)) (ha : a < n) : (slL n h).set a (slopeF h (a : Int) + x.gn) = slL n (h.addC x) := by
  apply List.ext_getElem?
  intro i
  by_cases hi : i < n
  · rw [slL_get hi, List.getElem?_set, sl_addC]
    by_cases e : a = i
    · subst e
      rw [if_pos rfl, if_pos (show a < (slL n h).length by rw [slL_len]; exact hi), if_pos hx]
    · rw [if_neg e, slL_get hi, if_neg (show ¬ (x.rm = (i : Int)) by omega), Int.add_zero]
  · rw [List.getElem?_eq_none (by rw [List.length_set, slL_len]; omega), List.getElem?_eq_none (by rw [slL_len]; omega)]
theorem slW_b9 {i : Int} {l : List Wal} (h : ∀ x ∈ l, 0 ≤ x.p ∧ x.p ≤ 39) : 0 ≤ slW i l ∧ slW i l ≤ 39 * l.length := by
  induction l with
  | nil => simp [slW]
  | cons a l ih =>
    have h1 := ih (fun x hx => h x (List.mem_cons_of_mem _ hx))
    have h2 := h a List.mem_cons_self
    simp only [slW, List.length_cons]
    split <;> omega
theorem slC_b9 {i : Int} {l : List Clr} (h : ∀ x ∈ l, 0 ≤ x.gn ∧ x.gn ≤ 59) : 0 ≤ slC i l ∧ slC i l ≤ 59 * l.length := by
  induction l with
  | nil => simp [slC]
  | cons a l ih =>
    have h1 := ih (fun x hx => h x (List.mem_cons_of_mem _ hx))
    have h2 := h a List.mem_cons_self
    simp only [slC, List.length_cons]
    split <;> omega
theorem MdH.slope {n : Nat} {h : Hl} (md : MdH n h) (hw : h.walls.length ≤ 6) (hc : h.crs.length ≤ 6) (i : Int) : 0 ≤ slopeF h i ∧ slopeF h i ≤ 600 := by
  have h1 := slW_b9 (i := i) (fun x hx => (md.wal x hx).2.2)
  have h2 := slC_b9 (i := i) (fun x hx => (md.clr x hx).2.2.1)
  unfold slopeF
  omega
theorem MdH.addW {n : Nat} {h : Hl} {x : Wal} (md : MdH n h) (hx : (0 ≤ x.a ∧ x.a < n) ∧ (x.b = -1 ∨ ((0 ≤ x.b ∧ x.b < n) ∧ x.b ≠ x.a)) ∧ 0 ≤ x.p ∧ x.p ≤ 39) : MdH n (h.addW x) := ⟨all_snoc2 md.wal hx, md.brn, md.clr⟩
theorem MdH.addC {n : Nat} {h : Hl} {x : Clr} (md : MdH n h) (hx : (0 ≤ x.rm ∧ x.rm < n) ∧ (0 ≤ x.br ∧ x.br < h.brs.length) ∧ (0 ≤ x.gn ∧ x.gn ≤ 59) ∧ (0 ≤ x.cr ∧ x.cr ≤ 199) ∧ 10000 ≤ x.sp ∧ x.sp ≤ 20200) : MdH n (h.addC x) := ⟨md.wal, md.brn, all_snoc2 md.clr hx⟩
theorem br_addB {h : Hl} {x : Brn} {i : Nat} : (h.addB x).br i = if i < h.brs.length then h.br i else if i = h.brs.length then x else br0 := by
  unfold Hl.br Hl.addB
  simp only [List.getD_eq_getElem?_getD, List.getElem?_append]
  by_cases h1 : i < h.brs.length
  · rw [if_pos h1, if_pos h1]
  · rw [if_neg h1, if_neg h1]
    by_cases h2 : i = h.brs.length
    · subst h2; simp
    · rw [if_neg h2, List.getElem?_eq_none (by simp; omega)]; rfl
theorem MdH.addB {n : Nat} {h : Hl} {x : Brn} (md : MdH n h) (hc : h.crs = []) (hx : ((h.brs.length = 0 ∧ x.up = -1) ∨ (0 ≤ x.up ∧ x.up < h.brs.length)) ∧ (0 ≤ x.op ∧ x.op ≤ 100) ∧ 0 ≤ x.lk ∧ x.lk ≤ 29) : MdH n (h.addB x) := by
  refine ⟨md.wal, fun i hi => ?_, fun y hy => ?_⟩
  · have hi2 : i < h.brs.length + 1 := by simpa [Hl.addB] using hi
    rw [br_addB]
    by_cases h1 : i < h.brs.length
    · rw [if_pos h1]; exact md.brn i h1
    · obtain rfl : i = h.brs.length := by omega
      rw [if_neg h1, if_pos rfl]
      exact hx
  · have e : (h.addB x).crs = h.crs := rfl
    rw [e, hc] at hy
    simp at hy
theorem MdH.addR {n : Nat} {h : Hl} {x : Rom} (md : MdH n h) : MdH n (h.addR x) := ⟨md.wal, md.brn, md.clr⟩
/-- Rooms under way. -/
def RmOk (h : Hl) : Prop := ∀ j < h.rooms.length, (slopeF h (j : Int) + 1 ≤ (h.rooms.getD j ⟨0, 0⟩).st ∧ (h.rooms.getD j ⟨0, 0⟩).st ≤ slopeF h (j : Int) + 511) ∧ 20000 ≤ (h.rooms.getD j ⟨0, 0⟩).lim ∧ (h.rooms.getD j ⟨0, 0⟩).lim ≤ 40400
theorem RmOk.addR {h : Hl} {x : Rom} (ro : RmOk h) (hx : (slopeF h (h.rooms.length : Int) + 1 ≤ x.st ∧ x.st ≤ slopeF h (h.rooms.length : Int) + 511) ∧ 20000 ≤ x.lim ∧ x.lim ≤ 40400) : RmOk (h.addR x) := by
  intro j hj
  have hj2 : j < h.rooms.length + 1 := by simpa [Hl.addR] using hj
  have e : slopeF (h.addR x) (j : Int) = slopeF h (j : Int) := rfl
  rw [e]
  have e2 : (h.addR x).rooms = h.rooms ++ [x] := rfl
  rw [e2]
  simp only [List.getD_eq_getElem?_getD, List.getElem?_append]
  by_cases h1 : j < h.rooms.length
  · rw [if_pos h1]
    have h2 := ro j h1
    simp only [List.getD_eq_getElem?_getD] at h2
    exact h2
  · obtain rfl : j = h.rooms.length := by omega
    rw [if_neg h1]
    simpa using hx
theorem made_ok {n : Nat} {h : Hl} (md : MdH n h) (ro : RmOk h) (hn : h.rooms.length = n) (h1 : 1 ≤ n) (h4 : n ≤ 4) (hw : h.walls.length ≤ 6) (hb : h.brs.length ≤ 6) (hc : h.crs.length ≤ 6) : HlOk h := by
  have hs := md.slope hw hc
  refine ⟨by omega, by omega, by omega, by omega, by omega, fun x hx => ?_, fun x hx => ?_, fun i hi => ?_, fun x hx => ?_, fun i hi => ?_⟩
  · obtain ⟨j, hj, e⟩ := List.mem_iff_getElem.1 hx
    have h2 := ro j hj
    rw [List.getD_eq_getElem?_getD, List.getElem?_eq_getElem hj, Option.getD_some, e] at h2
    have h3 := hs (j : Int)
    omega
  · have h2 := md.wal x hx
    rw [hn]
    omega
  · have h2 := md.brn i hi
    omega
  · have h2 := md.clr x hx
    rw [hn]
    omega
  · have h2 := ro i hi
    omega
/-- While a hall is made: its box, its lists, the numbers; vr .. vc are the lists, h what is in them. -/
structure MhI (w : World) (dB pb rb : Nat) (dv vr vw vb vc : Value) (h : Hl) (W : World) : Prop where
  low : Below w.heap.size w W
  res : Blk W rb 28 #[.slice none 0 0, .slice none 0 0, .slice none 0 0, .slice none 0 0]
  box : Blk W pb 28 #[vr, vw, vb, vc]
  rR : W.ownsRow w.heap.size 61 2 vr h.rooms.length (h.rooms.flatMap Rom.enc)
  wR : W.ownsRow w.heap.size 75 3 vw h.walls.length (h.walls.flatMap Wal.enc)
  bR : W.ownsRow w.heap.size 71 3 vb h.brs.length (h.brs.flatMap Brn.enc)
  cR : W.ownsRow w.heap.size 77 5 vc h.crs.length (h.crs.flatMap Clr.enc)
section
variable {w W W' : World} {dB pb rb b : Nat} {dv vr vw vb vc : Value} {h : Hl} {T : TypeId} {cs : Array Value}
theorem MhI.next (m : MhI w dB pb rb dv vr vw vb vc h W) (hb : Below W.heap.size W W') : MhI w dB pb rb dv vr vw vb vc h W' :=
  ⟨below3 m.low hb (Nat.le_refl _), m.res.below hb m.res.lt, m.box.below hb m.box.lt, row_next m.rR hb, row_next m.wR hb, row_next m.bR hb, row_next m.cR hb⟩
/-- A block of another type is written. -/
theorem MhI.other (m : MhI w dB pb rb dv vr vw vb vc h W) (hk : Keep (fun z => z = b) W W') (hb : Blk W b T cs) (hw : w.heap.size ≤ b) (hT : T ≠ 28 ∧ T ≠ 61 ∧ T ≠ 75 ∧ T ≠ 71 ∧ T ≠ 77) : MhI w dB pb rb dv vr vw vb vc h W' :=
  ⟨m.low.trans (hk.below m.low.size (fun z e => by rw [e]; exact hw)), hk.blk m.res (fun e => blk_ne m.res hb hT.1.symm e), hk.blk m.box (fun e => blk_ne m.box hb hT.1.symm e), m.rR.kept (keep_grown hk) (Or.inr (own_ne m.rR hb hT.2.1).symm), m.wR.kept (keep_grown hk) (Or.inr (own_ne m.wR hb hT.2.2.1).symm), m.bR.kept (keep_grown hk) (Or.inr (own_ne m.bR hb hT.2.2.2.1).symm), m.cR.kept (keep_grown hk) (Or.inr (own_ne m.cR hb hT.2.2.2.2).symm)⟩
/-- A block that is newer than a world X in which all of ours lay is written. -/
theorem MhI.newer {X : World} (m : MhI w dB pb rb dv vr vw vb vc h W) (m0 : MhI w dB pb rb dv vr vw vb vc h X) (hk : Keep (fun z => z = b) W W') (hb : X.heap.size ≤ b) : MhI w dB pb rb dv vr vw vb vc h W' :=
  ⟨m.low.trans (hk.below m.low.size (fun z e => by rw [e]; exact Nat.le_trans m0.low.size hb)), hk.blk m.res (fun e => by have := m0.res.lt; omega), hk.blk m.box (fun e => by have := m0.box.lt; omega), m.rR.kept (keep_grown hk) (Or.inr (fun e => by have := (m0.rR.lt b e).2; omega)), m.wR.kept (keep_grown hk) (Or.inr (fun e => by have := (m0.wR.lt b e).2; omega)), m.bR.kept (keep_grown hk) (Or.inr (fun e => by have := (m0.bR.lt b e).2; omega)), m.cR.kept (keep_grown hk) (Or.inr (fun e => by have := (m0.cR.lt b e).2; omega))⟩
theorem MhI.grownR {nv : Value} {k : Nat} {x : Rom} (m : MhI w dB pb rb dv vr vw vb vc h W) (hg : W.grownBy W' vr.ownBlock) (ho : W'.ownsRow w.heap.size 61 2 nv k (h.rooms.flatMap Rom.enc ++ x.enc)) (hk : k = h.rooms.length + 1) (hp : w.heap.size ≤ pb) (hrp : rb ≠ pb) : MhI w dB pb rb dv nv vw vb vc (h.addR x) (W'.setCell ⟨pb, 0, none⟩ nv) := by
  have hbl : Below w.heap.size W W' := (Below.refl _ _).grown hg m.low.size (fun r e => (World.ownsRow.lt m.rR r e).1)
  have b := m.box.kept hg (own_ne m.rR m.box (by decide))
  have e := m.res.kept hg (own_ne m.rR m.res (by decide))
  have gW := m.wR.kept hg (own_far m.wR m.rR (by decide))
  have gB := m.bR.kept hg (own_far m.bR m.rR (by decide))
  have gC := m.cR.kept hg (own_far m.cR m.rR (by decide))
  subst hk
  refine ⟨(m.low.trans hbl).setCell hp _, e.far hrp _, ?_, ?_, gW.kept (grown_set W' pb 0 _) (Or.inr (own_ne gW b (by decide)).symm), gB.kept (grown_set W' pb 0 _) (Or.inr (own_ne gB b (by decide)).symm), gC.kept (grown_set W' pb 0 _) (Or.inr (own_ne gC b (by decide)).symm)⟩
  · have h := b.set_ 0 nv
    simpa using h
  · have h9 := ho.kept (grown_set W' pb 0 nv) (Or.inr (own_ne ho b (by decide)).symm)
    rw [show (h.addR x).rooms = h.rooms ++ [x] from rfl, show (h.rooms ++ [x]).length = h.rooms.length + 1 by simp, List.flatMap_append]
    simpa using h9
theorem MhI.grownW {nv : Value} {k : Nat} {x : Wal} (m : MhI w dB pb rb dv vr vw vb vc h W) (hg : W.grownBy W' vw.ownBlock) (ho : W'.ownsRow w.heap.size 75 3 nv k (h.walls.flatMap Wal.enc ++ x.enc)) (hk : k = h.walls.length + 1) (hp : w.heap.size ≤ pb) (hrp : rb ≠ pb) : MhI w dB pb rb dv vr nv vb vc (h.addW x) (W'.setCell ⟨pb, 1, none⟩ nv) := by
  have hbl : Below w.heap.size W W' := (Below.refl _ _).grown hg m.low.size (fun r e => (World.ownsRow.lt m.wR r e).1)
  have b := m.box.kept hg (own_ne m.wR m.box (by decide))
  have e := m.res.kept hg (own_ne m.wR m.res (by decide))
  have gR := m.rR.kept hg (own_far m.rR m.wR (by decide))
  have gB := m.bR.kept hg (own_far m.bR m.wR (by decide))
  have gC := m.cR.kept hg (own_far m.cR m.wR (by decide))
  subst hk
  refine ⟨(m.low.trans hbl).setCell hp _, e.far hrp _, ?_, gR.kept (grown_set W' pb 1 _) (Or.inr (own_ne gR b (by decide)).symm), ?_, gB.kept (grown_set W' pb 1 _) (Or.inr (own_ne gB b (by decide)).symm), gC.kept (grown_set W' pb 1 _) (Or.inr (own_ne gC b (by decide)).symm)⟩
  · have h := b.set_ 1 nv
    simpa using h
  · have h9 := ho.kept (grown_set W' pb 1 nv) (Or.inr (own_ne ho b (by decide)).symm)
    rw [show (h.addW x).walls = h.walls ++ [x] from rfl, show (h.walls ++ [x]).length = h.walls.length + 1 by simp, List.flatMap_append]
    simpa using h9
theorem MhI.grownB {nv : Value} {k : Nat} {x : Brn} (m : MhI w dB pb rb dv vr vw vb vc h W) (hg : W.grownBy W' vb.ownBlock) (ho : W'.ownsRow w.heap.size 71 3 nv k (h.brs.flatMap Brn.enc ++ x.enc)) (hk : k = h.brs.length + 1) (hp : w.heap.size ≤ pb) (hrp : rb ≠ pb) : MhI w dB pb rb dv vr vw nv vc (h.addB x) (W'.setCell ⟨pb, 2, none⟩ nv) := by
  have hbl : Below w.heap.size W W' := (Below.refl _ _).grown hg m.low.size (fun r e => (World.ownsRow.lt m.bR r e).1)
  have b := m.box.kept hg (own_ne m.bR m.box (by decide))
  have e := m.res.kept hg (own_ne m.bR m.res (by decide))
  have gR := m.rR.kept hg (own_far m.rR m.bR (by decide))
  have gW := m.wR.kept hg (own_far m.wR m.bR (by decide))
  have gC := m.cR.kept hg (own_far m.cR m.bR (by decide))
  subst hk
  refine ⟨(m.low.trans hbl).setCell hp _, e.far hrp _, ?_, gR.kept (grown_set W' pb 2 _) (Or.inr (own_ne gR b (by decide)).symm), gW.kept (grown_set W' pb 2 _) (Or.inr (own_ne gW b (by decide)).symm), ?_, gC.kept (grown_set W' pb 2 _) (Or.inr (own_ne gC b (by decide)).symm)⟩
  · have h := b.set_ 2 nv
    simpa using h
  · have h9 := ho.kept (grown_set W' pb 2 nv) (Or.inr (own_ne ho b (by decide)).symm)
    rw [show (h.addB x).brs = h.brs ++ [x] from rfl, show (h.brs ++ [x]).length = h.brs.length + 1 by simp, List.flatMap_append]
    simpa using h9
theorem MhI.grownC {nv : Value} {k : Nat} {x : Clr} (m : MhI w dB pb rb dv vr vw vb vc h W) (hg : W.grownBy W' vc.ownBlock) (ho : W'.ownsRow w.heap.size 77 5 nv k (h.crs.flatMap Clr.enc ++ x.enc)) (hk : k = h.crs.length + 1) (hp : w.heap.size ≤ pb) (hrp : rb ≠ pb) : MhI w dB pb rb dv vr vw vb nv (h.addC x) (W'.setCell ⟨pb, 3, none⟩ nv) := by
  have hbl : Below w.heap.size W W' := (Below.refl _ _).grown hg m.low.size (fun r e => (World.ownsRow.lt m.cR r e).1)
  have b := m.box.kept hg (own_ne m.cR m.box (by decide))
  have e := m.res.kept hg (own_ne m.cR m.res (by decide))
  have gR := m.rR.kept hg (own_far m.rR m.cR (by decide))
  have gW := m.wR.kept hg (own_far m.wR m.cR (by decide))
  have gB := m.bR.kept hg (own_far m.bR m.cR (by decide))
  subst hk
  refine ⟨(m.low.trans hbl).setCell hp _, e.far hrp _, ?_, gR.kept (grown_set W' pb 3 _) (Or.inr (own_ne gR b (by decide)).symm), gW.kept (grown_set W' pb 3 _) (Or.inr (own_ne gW b (by decide)).symm), gB.kept (grown_set W' pb 3 _) (Or.inr (own_ne gB b (by decide)).symm), ?_⟩
  · have h := b.set_ 3 nv
    simpa using h
  · have h9 := ho.kept (grown_set W' pb 3 nv) (Or.inr (own_ne ho b (by decide)).symm)
    rw [show (h.addC x).crs = h.crs ++ [x] from rfl, show (h.crs ++ [x]).length = h.crs.length + 1 by simp, List.flatMap_append]
    simpa using h9
end
/-- A hall under way with the digits and the slopes. -/
structure MhS (w : World) (dB pb rb sb : Nat) (dv vr vw vb vc : Value) (h : Hl) (sl : List Int) (i : Nat) (W : World) : Prop where
  m : MhI w dB pb rb dv vr vw vb vc h W
  dig : Blk W dB 81 #[dv, .int .i64 (i : Int)]
  slo : Blk W sb 3 (intsA sl)
section
variable {w W W' : World} {dB pb rb sb b i i' : Nat} {dv vr vw vb vc : Value} {h : Hl} {sl : List Int}
theorem MhS.next (s : MhS w dB pb rb sb dv vr vw vb vc h sl i W) (hb : Below W.heap.size W W') : MhS w dB pb rb sb dv vr vw vb vc h sl i W' :=
  ⟨s.m.next hb, s.dig.below hb s.dig.lt, s.slo.below hb s.slo.lt⟩
theorem MhS.turn (s : MhS w dB pb rb sb dv vr vw vb vc h sl i W) (hd : w.heap.size ≤ dB) (hk : Keep (fun b => b = dB) W W') (hb : Blk W' dB 81 #[dv, .int .i64 (i' : Int)]) : MhS w dB pb rb sb dv vr vw vb vc h sl i' W' :=
  ⟨s.m.other hk s.dig hd (by decide), hb, hk.blk s.slo (fun e => blk_ne s.slo s.dig (by decide) e)⟩
theorem MhS.slope {x : Int} {j : Nat} (s : MhS w dB pb rb sb dv vr vw vb vc h sl i W) (hd : w.heap.size ≤ sb) : MhS w dB pb rb sb dv vr vw vb vc h (sl.set j x) i (W.setCell ⟨sb, j, none⟩ (.int .i64 x)) :=
  ⟨s.m.other ((Keep.refl (fun z => z = sb) W).setCell rfl _) s.slo hd (by decide), s.dig.far (fun e => blk_ne s.dig s.slo (by decide) e) _, by
    have h9 := s.slo.set_ j (.int .i64 x)
    rw [intsA_set] at h9
    exact h9⟩
theorem MhS.newer {X : World} {i0 : Nat} {sl0 : List Int} (s : MhS w dB pb rb sb dv vr vw vb vc h sl i W) (s0 : MhS w dB pb rb sb dv vr vw vb vc h sl0 i0 X) (hk : Keep (fun z => z = b) W W') (hb : X.heap.size ≤ b) : MhS w dB pb rb sb dv vr vw vb vc h sl i W' :=
  ⟨s.m.newer s0.m hk hb, hk.blk s.dig (fun e => by have := s0.dig.lt; omega), hk.blk s.slo (fun e => by have := s0.slo.lt; omega)⟩
theorem MhS.pushR {nv : Value} {k : Nat} {x : Rom} (s : MhS w dB pb rb sb dv vr vw vb vc h sl i W) (hg : W.grownBy W' vr.ownBlock) (ho : W'.ownsRow w.heap.size 61 2 nv k (h.rooms.flatMap Rom.enc ++ x.enc)) (hk : k = h.rooms.length + 1) (hp : w.heap.size ≤ pb) (hrp : rb ≠ pb) : MhS w dB pb rb sb dv nv vw vb vc (h.addR x) sl i (W'.setCell ⟨pb, 0, none⟩ nv) := by
  have b := s.m.box.kept hg (own_ne s.m.rR s.m.box (by decide))
  have d := s.dig.kept hg (own_ne s.m.rR s.dig (by decide))
  have l := s.slo.kept hg (own_ne s.m.rR s.slo (by decide))
  exact ⟨s.m.grownR hg ho hk hp hrp, d.far (fun e' => blk_ne d b (by decide) e') _, l.far (fun e' => blk_ne l b (by decide) e') _⟩
theorem MhS.pushW {nv : Value} {k : Nat} {x : Wal} (s : MhS w dB pb rb sb dv vr vw vb vc h sl i W) (hg : W.grownBy W' vw.ownBlock) (ho : W'.ownsRow w.heap.size 75 3 nv k (h.walls.flatMap Wal.enc ++ x.enc)) (hk : k = h.walls.length + 1) (hp : w.heap.size ≤ pb) (hrp : rb ≠ pb) : MhS w dB pb rb sb dv vr nv vb vc (h.addW x) sl i (W'.setCell ⟨pb, 1, none⟩ nv) := by
  have b := s.m.box.kept hg (own_ne s.m.wR s.m.box (by decide))
  have d := s.dig.kept hg (own_ne s.m.wR s.dig (by decide))
  have l := s.slo.kept hg (own_ne s.m.wR s.slo (by decide))
  exact ⟨s.m.grownW hg ho hk hp hrp, d.far (fun e' => blk_ne d b (by decide) e') _, l.far (fun e' => blk_ne l b (by decide) e') _⟩
theorem MhS.pushB {nv : Value} {k : Nat} {x : Brn} (s : MhS w dB pb rb sb dv vr vw vb vc h sl i W) (hg : W.grownBy W' vb.ownBlock) (ho : W'.ownsRow w.heap.size 71 3 nv k (h.brs.flatMap Brn.enc ++ x.enc)) (hk : k = h.brs.length + 1) (hp : w.heap.size ≤ pb) (hrp : rb ≠ pb) : MhS w dB pb rb sb dv vr vw nv vc (h.addB x) sl i (W'.setCell ⟨pb, 2, none⟩ nv) := by
  have b := s.m.box.kept hg (own_ne s.m.bR s.m.box (by decide))
  have d := s.dig.kept hg (own_ne s.m.bR s.dig (by decide))
  have l := s.slo.kept hg (own_ne s.m.bR s.slo (by decide))
  exact ⟨s.m.grownB hg ho hk hp hrp, d.far (fun e' => blk_ne d b (by decide) e') _, l.far (fun e' => blk_ne l b (by decide) e') _⟩
theorem MhS.pushC {nv : Value} {k : Nat} {x : Clr} (s : MhS w dB pb rb sb dv vr vw vb vc h sl i W) (hg : W.grownBy W' vc.ownBlock) (ho : W'.ownsRow w.heap.size 77 5 nv k (h.crs.flatMap Clr.enc ++ x.enc)) (hk : k = h.crs.length + 1) (hp : w.heap.size ≤ pb) (hrp : rb ≠ pb) : MhS w dB pb rb sb dv vr vw vb nv (h.addC x) sl i (W'.setCell ⟨pb, 3, none⟩ nv) := by
  have b := s.m.box.kept hg (own_ne s.m.cR s.m.box (by decide))
  have d := s.dig.kept hg (own_ne s.m.cR s.dig (by decide))
  have l := s.slo.kept hg (own_ne s.m.cR s.slo (by decide))
  exact ⟨s.m.grownC hg ho hk hp hrp, d.far (fun e' => blk_ne d b (by decide) e') _, l.far (fun e' => blk_ne l b (by decide) e') _⟩
end
theorem roomInfo : (Try.prog.info? 61).map (fun i => (i.zero, i.size, i.bytes)) = some (some (.agg #[.int .i64 0, .int .i64 0]), 2, 16) := by kernel_rfl
theorem wallInfo : (Try.prog.info? 75).map (fun i => (i.zero, i.size, i.bytes)) = some (some (.agg #[.int .i64 0, .int .i64 0, .int .i64 0]), 3, 24) := by kernel_rfl
theorem branchInfo : (Try.prog.info? 71).map (fun i => (i.zero, i.size, i.bytes)) = some (some (.agg #[.int .i64 0, .int .i64 0, .int .i64 0]), 3, 24) := by kernel_rfl
theorem coolerInfo : (Try.prog.info? 77).map (fun i => (i.zero, i.size, i.bytes)) = some (some (.agg #[.int .i64 0, .int .i64 0, .int .i64 0, .int .i64 0, .int .i64 0]), 5, 40) := by kernel_rfl
/-- What Made makes: the hall and its lists, owned. -/
structure MadeI (w w' : World) (rA wA bA cA : Option Addr) (rc wc bc cc : Nat) (h : Hl) : Prop where
  ok : HlOk h
  md : MdH h.rooms.length h
  ro : RmOk h
  n4 : h.rooms.length ≤ 4
  w6 : h.walls.length ≤ 6
  b6 : h.brs.length ≤ 6
  c6 : h.crs.length ≤ 6
  rR : w'.ownsRow w.heap.size 61 2 (.slice rA h.rooms.length rc) h.rooms.length (h.rooms.flatMap Rom.enc)
  wR : w'.ownsRow w.heap.size 75 3 (.slice wA h.walls.length wc) h.walls.length (h.walls.flatMap Wal.enc)
  bR : w'.ownsRow w.heap.size 71 3 (.slice bA h.brs.length bc) h.brs.length (h.brs.flatMap Brn.enc)
  cR : w'.ownsRow w.heap.size 77 5 (.slice cA h.crs.length cc) h.crs.length (h.crs.flatMap Clr.enc)
  low : Below w.heap.size w w'
theorem MadeI.inn {w w' : World} {rA wA bA cA : Option Addr} {rc wc bc cc : Nat} {h : Hl} (m : MadeI w w' rA wA bA cA rc wc bc cc h) : HlIn w' w'.heap.size ⟨rA, wA, bA, cA, h.rooms.length, h.walls.length, h.brs.length, h.crs.length⟩ h :=
  ⟨row_rd (fun _ => rfl) rfl m.rR, row_rd (fun _ => rfl) rfl m.wR, row_rd (fun _ => rfl) rfl m.bR, row_rd (fun _ => rfl) rfl m.cR⟩
end Go.Proofs.Ytldbciflpnhfpaa
