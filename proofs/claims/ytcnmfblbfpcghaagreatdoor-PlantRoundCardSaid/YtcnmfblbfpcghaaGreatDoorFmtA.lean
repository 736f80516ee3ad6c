/- plant.Format: the texts of its lines. -/
import Derived.Test.YtcnmfblbfpcghaaGreatDoorWords
import Derived.Test.YtcnmfblbfpcghaaGreatDoorFree2
import Derived.Test.YtcnmfblbfpcghaaGreatDoorInit

set_option linter.unusedSimpArgs false
set_option linter.unusedVariables false
namespace Go.Proofs.YtcnmfblbfpcghaaGreatDoor
open Go.RowKit Go.Shelf

theorem ba_app (a b : List UInt8) : ba a ++ ba b = ba (a ++ b) := by
  apply ByteArray.ext
  simp [ba]
theorem ba_size (a : List UInt8) : (ba a).size = a.length := by
  show a.toArray.size = _
  simp
def wPlant : List UInt8 := [112, 108, 97, 110, 116]
def wSource : List UInt8 := [115, 111, 117, 114, 99, 101]
def wLink : List UInt8 := [108, 105, 110, 107]
def wRack : List UInt8 := [114, 97, 99, 107]
def srcWord (k : Int) : List UInt8 := if k = 1 then [103, 114, 105, 100] else if k = 2 then [103, 101, 110, 101, 114, 97, 116, 111, 114] else [98, 97, 116, 116, 101, 114, 121]
def lnkWord (k : Int) : List UInt8 := if k = 1 then [99, 97, 98, 108, 101] else if k = 2 then [115, 119, 105, 116, 99, 104] else [98, 114, 101, 97, 107, 101, 114]
def srcWs (x : Src) : List (List UInt8) := [wSource, spacedL [x.bus], srcWord x.kind, spacedL [x.power, x.sync, x.ohm]]
def tripW (t : Trp) : List UInt8 := Lib.itoa t.amps ++ [58] ++ Lib.itoa t.millis
def lnkWs (x : Lnk) : List (List UInt8) := [wLink, spacedL [x.a, x.b], lnkWord x.kind, spacedL [x.most, x.ohm]] ++ x.trip.map tripW
def rckWs (x : Rck) : List (List UInt8) := [wRack, spacedL [x.f0, x.f1, x.power, x.paths]]
def headL (p : Plt) : List UInt8 := lineOf [wPlant, spacedL [p.buses]]
def formatL (p : Plt) : List UInt8 := headL p ++ p.srcs.flatMap (fun x => lineOf (srcWs x)) ++ p.lnks.flatMap (fun x => lineOf (lnkWs x)) ++ p.rcks.flatMap (fun x => lineOf (rckWs x))
theorem spacedL_length (l : List Int) (h : ∀ x ∈ l, Int64 x) : (spacedL l).length ≤ l.length * 22 := by
  have h1 := join_length_le (l.map Lib.itoa) 21 (fun y hy => by
    obtain ⟨z, hz, rfl⟩ := List.mem_map.1 hy
    exact Lib.itoa_length_le z (h z hz).1 (h z hz).2)
  rwa [List.length_map] at h1
theorem lineOf_length (ws : List (List UInt8)) (h : ∀ x ∈ ws, x.length ≤ 100) : (Lib.join ws [32]).length ≤ ws.length * 101 ∧ (lineOf ws).length ≤ ws.length * 101 + 1 := by
  have h1 := join_length_le ws 100 h
  refine ⟨h1, ?_⟩
  unfold lineOf
  rw [List.length_append]
  simp
  exact h1
theorem srcWord_length (k : Int) : (srcWord k).length ≤ 100 := by
  unfold srcWord
  repeat' split
  all_goals decide
theorem lnkWord_length (k : Int) : (lnkWord k).length ≤ 100 := by
  unfold lnkWord
  repeat' split
  all_goals decide
theorem look_src {w : World} {r : Nat} (h : w.heap[r]? = some (.map srcMap 3)) (k : Int) (h1 : 1 ≤ k) (h3 : k ≤ 3) : (Instr.lookup 104 (.map (some r)) (.int .i64 k) false).run Tryz.prog w = .ok (.string (ba (srcWord k))) w := by
  have hk : k = 1 ∨ k = 2 ∨ k = 3 := by omega
  rcases hk with rfl | rfl | rfl
  · exact run_look _ _ _ r 3 0 1 _ _ Tryz.underlying104 Tryz.underlying108 h rfl
  · exact run_look _ _ _ r 3 1 2 _ _ Tryz.underlying104 Tryz.underlying108 h rfl
  · exact run_look _ _ _ r 3 2 3 _ _ Tryz.underlying104 Tryz.underlying108 h rfl
theorem look_lnk {w : World} {r : Nat} (h : w.heap[r]? = some (.map lnkMap 3)) (k : Int) (h1 : 1 ≤ k) (h3 : k ≤ 3) : (Instr.lookup 106 (.map (some r)) (.int .i64 k) false).run Tryz.prog w = .ok (.string (ba (lnkWord k))) w := by
  have hk : k = 1 ∨ k = 2 ∨ k = 3 := by omega
  rcases hk with rfl | rfl | rfl
  · exact run_look _ _ _ r 3 0 1 _ _ Tryz.underlying106 Tryz.underlying76 h rfl
  · exact run_look _ _ _ r 3 1 2 _ _ Tryz.underlying106 Tryz.underlying76 h rfl
  · exact run_look _ _ _ r 3 2 3 _ _ Tryz.underlying106 Tryz.underlying76 h rfl

/-- A row keeps where other blocks are kept. -/
theorem own_others {w w' : World} {base n size b : Nat} {e u : TypeId} {v : Value} {xs : List Value} (h : w.ownsRow base e size v n xs) (ho : Lib.OthersKept u (some b) w w') (he : e ≠ u) (hb : v.ownBlock ≠ some b) : w'.ownsRow base e size v n xs := by
  rcases h.2 with ⟨rfl, h0⟩ | ⟨g, cap, cur, rfl, h1, h2, h3⟩
  · exact ⟨h.1, .inl ⟨rfl, h0⟩⟩
  · refine ⟨h.1, .inr ⟨g, cap, cur, rfl, h1, ho g _ h2 (fun e2 => hb (by cases e2; rfl)) ?_, h3⟩⟩
    intro c fz e3
    simp only [Obj.cells.injEq] at e3
    exact he e3.2.1
theorem blk_others {w w' : World} {b k : Nat} {T u : TypeId} {cs : Array Value} (h : Blk w k T cs) (ho : Lib.OthersKept u (some b) w w') (hT : T ≠ u) (hk : k ≠ b) : Blk w' k T cs :=
  ho k _ h (fun e => hk (by cases e; rfl)) (fun c fz e => by simp only [Obj.cells.injEq] at e; exact hT e.2.1)
/-- A new row. -/
theorem own_new (w : World) (base n : Nat) (e : TypeId) (xs : List Value) (hb : base ≤ w.heap.size) (hn : xs.length = n) (hm : n ≤ maxLen) : (w.alloc (.cells xs.toArray e)).ownsRow base e 1 (.slice (some ⟨w.heap.size, 0, none⟩) n n) n xs :=
  ⟨by omega, .inr ⟨w.heap.size, n, xs.toArray, rfl, hb, heap_alloc_new w _, Nat.le_refl _, hm, by simp [hn], by simp [← hn]⟩⟩
/-- What operations of a line leave. -/
inductive Lg where
  | is (v : Value)
  | ints (l : List Int)
  | strs (ws : List (List UInt8))
  | low (n : Nat) (ws : List (List UInt8))
  | any
def Lg.ok (base : Nat) (v : Value) (w : World) : Lg → Prop
  | .is u => v = u
  | .ints l => w.ownsRow base 3 1 v l.length (l.map (Value.int .i64))
  | .strs ws => w.ownsRow base 9 1 v ws.length (strVals ws)
  | .low n ws => w.ownsRow n 9 1 v ws.length (strVals ws)
  | .any => True
def lgs (base : Nat) (fs : List Lg) (i : Nat) (v : Value) (w : World) : Prop := match fs[i]? with | some f => f.ok base v w | none => True
theorem lgs_grown {base : Nat} {fs : List Lg} {w w' : World} (hg : w.grownBy w' none) : ∀ j u, lgs base fs j u w → lgs base fs j u w' := by
  intro j u h
  unfold lgs at h ⊢
  split
  · rename_i f hf
    rw [hf] at h
    have hk : u.ownBlock = none ∨ u.ownBlock ≠ none := by by_cases hu : u.ownBlock = none; exact .inl hu; exact .inr hu
    cases f with
    | is _ => exact h
    | ints l => exact World.ownsRow.kept h hg hk
    | strs ws => exact World.ownsRow.kept h hg hk
    | low n ws => exact World.ownsRow.kept h hg hk
    | any => trivial
  · trivial
theorem lgs_others {base b : Nat} {fs : List Lg} {w w' : World} (ho : Lib.OthersKept 5 (some b) w w') (hb : b < base) (hf : ∀ n ws, Lg.low n ws ∉ fs) : ∀ j u, lgs base fs j u w → lgs base fs j u w' := by
  intro j u h
  unfold lgs at h ⊢
  split
  · rename_i f hf'
    rw [hf'] at h
    cases f with
    | is _ => exact h
    | ints l => exact own_others h ho (by decide) (fun e => by have := (World.ownsRow.lt h b e).1; omega)
    | strs ws => exact own_others h ho (by decide) (fun e => by have := (World.ownsRow.lt h b e).1; omega)
    | low n ws => exact absurd (List.mem_of_getElem? hf') (hf n ws)
    | any => trivial
  · trivial
/-- Where an older row is written. -/
theorem lgs_row {base : Nat} {fs : List Lg} {w w' : World} {row : Option Nat} {t : Nat} (hg : w.grownBy w' row) (hr : ∀ g, row = some g → g < base) (hf : ∀ j n ws, fs[j]? = some (Lg.low n ws) → t ≤ j) : ∀ j u, j < t → lgs base fs j u w → lgs base fs j u w' := by
  intro j u hj h
  unfold lgs at h ⊢
  have hk : ∀ {e : TypeId} {n : Nat} {xs : List Value}, w.ownsRow base e 1 u n xs → u.ownBlock = none ∨ u.ownBlock ≠ row := fun {e n xs} ho => by
    by_cases hu : u.ownBlock = none
    · exact .inl hu
    · refine .inr fun e' => ?_
      cases hub : u.ownBlock with
      | none => exact hu hub
      | some g =>
        rw [hub] at e'
        have h1 := (ho.lt g hub).1
        have h2 := hr g e'.symm
        omega
  split
  · rename_i f hf'
    rw [hf'] at h
    cases f with
    | is _ => exact h
    | ints l => exact World.ownsRow.kept h hg (hk h)
    | strs ws => exact World.ownsRow.kept h hg (hk h)
    | low n ws => exact absurd (hf j n ws hf') (by omega)
    | any => trivial
  · trivial
theorem ints_rd {w : World} {base n : Nat} {v : Value} {l : List Int} (h : w.ownsRow base 3 1 v l.length (l.map (Value.int .i64))) (hn : l.length = n) : ∃ A c, v = .slice A n c ∧ Rd w w.heap.size 1 encI A n l := by
  subst hn
  exact row_rd h
/-- While a line is made: what was there is there; the text is as it was, or longer by the line. -/
def LineR (w0 wa : World) (b : Nat) (l l' : List UInt8) (c : Bool) (W : World) : Prop := (Below w0.heap.size w0 W ∧ Lib.OthersKept 5 (some b) wa W ∧ wa.heap.size ≤ W.heap.size) ∧ Bld w0.heap.size b (if c then l' else l) W
theorem LineR.next {w0 wa : World} {b : Nat} {l l' : List UInt8} {c : Bool} {W W' : World} (h : LineR w0 wa b l l' c W) (hb : Below W.heap.size W W') : LineR w0 wa b l l' c W' :=
  ⟨⟨h.1.1.trans (hb.mono h.1.1.size), h.1.2.1.trans (others_below hb), Nat.le_trans h.1.2.2 hb.size⟩, h.2.below hb⟩
theorem LineR.line {w0 wa : World} {b : Nat} {l l' : List UInt8} {W W' : World} (h : LineR w0 wa b l l' false W) (hB : Below w0.heap.size W W') (ho : Lib.OthersKept 5 (some b) W W') (hl : Bld w0.heap.size b l' W') : LineR w0 wa b l l' true W' :=
  ⟨⟨h.1.1.trans hB, h.1.2.1.trans ho, Nat.le_trans h.1.2.2 hB.size⟩, hl⟩
/-- Between the lines. -/
structure FmtW (w0 : World) (b m1 m2 : Nat) (p : Plt) (l : List UInt8) (w : World) : Prop where
  below : Below w0.heap.size w0 w
  plant : Blk w w0.heap.size 26 #[.int .i64 p.buses, .slice p.sA p.sn p.sc, .slice p.lA p.ln p.lc, .slice p.rA p.rn p.rc]
  m1 : w.heap[m1]? = some (.map srcMap 3)
  m2 : w.heap[m2]? = some (.map lnkMap 3)
  text : Bld w0.heap.size b l w
theorem FmtW.next {w0 : World} {b m1 m2 : Nat} {p : Plt} {l : List UInt8} {w w' : World} (h : FmtW w0 b m1 m2 p l w) (hb : Below w.heap.size w w') : FmtW w0 b m1 m2 p l w' :=
  ⟨h.below.trans (hb.mono h.below.size), h.plant.below hb h.plant.lt, (hb.block _ (Array.getElem?_eq_some_iff.1 h.m1).1).trans h.m1, (hb.block _ (Array.getElem?_eq_some_iff.1 h.m2).1).trans h.m2, h.text.below hb⟩
theorem FmtW.line {w0 : World} {b m1 m2 : Nat} {p : Plt} {l l' l2 : List UInt8} {w w' : World} (h : FmtW w0 b m1 m2 p l w) (hb1 : w0.heap.size ≠ b) (h1 : m1 ≠ b) (h2 : m2 ≠ b) (hR : LineR w0 w b l2 l' true w') : FmtW w0 b m1 m2 p l' w' :=
  ⟨hR.1.1, blk_others h.plant hR.1.2.1 (by decide) hb1, hR.1.2.1 _ _ h.m1 (fun e => h1 (by cases e; rfl)) (fun c fz e => by cases e), hR.1.2.1 _ _ h.m2 (fun e => h2 (by cases e; rfl)) (fun c fz e => by cases e), hR.2⟩
theorem LineR.same {w0 wa : World} {b : Nat} {l : List UInt8} {c : Bool} {W : World} (h : LineR w0 wa b l l c W) : LineR w0 wa b l l true W := by
  refine ⟨h.1, ?_⟩
  have := h.2
  rw [ite_self] at this
  simpa using this
/-- Where a row of words gets longer, the text stays. -/
theorem Bld.row {B b n₀ k : Nat} {l : List UInt8} {v : Value} {xs : List Value} {w w' : World} (h : Bld B b l w) (hr : w.ownsRow n₀ 9 1 v k xs) (hg : w.grownBy w' v.ownBlock) : Bld B b l w' := by
  have key : ∀ p, Lib.BuilderAtF 95 5 B b p (Lib.byteCells l) w → Lib.BuilderAtF 95 5 B b p (Lib.byteCells l) w' := by
    rintro p ⟨h1, u, h2, h3, h4⟩
    have hb : some b ≠ v.ownBlock := own_ne hr (show Blk w b 95 _ from h2) (by decide)
    refine ⟨h1, u, (show Blk w b 95 _ from h2).kept hg hb, h3.kept hg ?_, h4⟩
    rcases h3.2 with ⟨rfl, _⟩ | ⟨g, cap, cur, fz, rfl, _, hgb, _⟩
    · exact .inl rfl
    · refine .inr fun e => ?_
      rcases hr.2 with ⟨rfl, _⟩ | ⟨g', cap', cur', rfl, _, hgb', _⟩
      · simp [Value.ownBlock] at e
      · simp only [Value.ownBlock, Option.some.injEq] at e
        subst e
        have h5 := hgb.symm.trans hgb'
        simp at h5
  rcases h with h | h
  · exact .inl (key _ h)
  · exact .inr (key _ h)
theorem FmtW.row {w0 : World} {b m1 m2 n₀ k : Nat} {p : Plt} {l : List UInt8} {v : Value} {xs : List Value} {w w' : World} (h : FmtW w0 b m1 m2 p l w) (hr : w.ownsRow n₀ 9 1 v k xs) (hn : w0.heap.size < n₀) (hg : w.grownBy w' v.ownBlock) : FmtW w0 b m1 m2 p l w' := by
  have hm : ∀ m es c, w.heap[m]? = some (Obj.map es c) → w'.heap[m]? = some (Obj.map es c) := fun m es c hm => by
    refine (hg.block m (Array.getElem?_eq_some_iff.1 hm).1 fun e => ?_).trans hm
    rcases hr.2 with ⟨rfl, _⟩ | ⟨g', cap', cur', rfl, _, hgb', _⟩
    · simp [Value.ownBlock] at e
    · simp only [Value.ownBlock, Option.some.injEq] at e
      subst e
      rw [hm] at hgb'
      cases hgb'
  exact ⟨h.below.grown hg h.below.size (fun j e => by have := (hr.lt j e).1; omega), h.plant.kept hg (own_ge hr hn), hm _ _ _ h.m1, hm _ _ _ h.m2, h.text.row hr hg⟩
def lnkHead (x : Lnk) : List (List UInt8) := [wLink, spacedL [x.a, x.b], lnkWord x.kind, spacedL [x.most, x.ohm]]
/-- While a trip's word is made. -/
def TripR (w0 : World) (b m1 m2 : Nat) (p : Plt) (l : List UInt8) (n₀ : Nat) (v : Value) (ws : List (List UInt8)) (bx : Nat) (t : Trp) (n : Nat) (c : Bool) (W : World) : Prop :=
  (FmtW w0 b m1 m2 p l W ∧ Blk W bx 112 #[.int .i64 t.amps, .int .i64 t.millis] ∧ n ≤ W.heap.size) ∧ (c = false → W.ownsRow n₀ 9 1 v ws.length (strVals ws))
theorem TripR.next {w0 : World} {b m1 m2 : Nat} {p : Plt} {l : List UInt8} {n₀ : Nat} {v : Value} {ws : List (List UInt8)} {bx : Nat} {t : Trp} {n : Nat} {c : Bool} {W W' : World} (h : TripR w0 b m1 m2 p l n₀ v ws bx t n c W) (hb : Below W.heap.size W W') : TripR w0 b m1 m2 p l n₀ v ws bx t n c W' :=
  ⟨⟨h.1.1.next hb, h.1.2.1.below hb h.1.2.1.lt, Nat.le_trans h.1.2.2 hb.size⟩, fun e => (h.2 e).kept (grown_of_below hb) (by by_cases hu : v.ownBlock = none; exact .inl hu; exact .inr hu)⟩
end Go.Proofs.YtcnmfblbfpcghaaGreatDoor
