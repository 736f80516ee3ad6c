/- What the walk of the reference's Islands keeps: the islands so far, and the one at hand. Nothing here walks. -/
import Derived.Test.YtnngdcidopaabaaGreatDoorRefW
import Derived.Test.YtnngdcidopaabaaGreatDoorRefLv

set_option linter.unusedSimpArgs false
set_option linter.unusedVariables false
namespace Go.Proofs.YtnngdcidopaabaaGreatDoor
open Go.RowKit

theorem row_heap {W : World} {n₀ size n : Nat} {e : TypeId} {v : Value} {xs : List Value} (h : W.ownsRow n₀ e size v n xs) {g : Nat} (hg : v.ownBlock = some g) : ∃ cur, W.heap[g]? = some (.cells cur e (0, 0)) := by
  rcases h.2 with ⟨rfl, _⟩ | ⟨g', cap, cur, rfl, _, hh, _⟩
  · simp [Value.ownBlock] at hg
  · simp only [Value.ownBlock, Option.some.injEq] at hg
    subst hg
    exact ⟨cur, hh⟩
theorem row_apart {W : World} {n₀ n₁ size size' n n' : Nat} {e e' : TypeId} {v v' : Value} {xs xs' : List Value} (h : W.ownsRow n₀ e size v n xs) (k : W.ownsRow n₁ e' size' v' n' xs') (he : e ≠ e') : v.ownBlock = none ∨ v.ownBlock ≠ v'.ownBlock := by
  cases hv : v.ownBlock with
  | none => exact .inl rfl
  | some g =>
    refine .inr fun e0 => he ?_
    obtain ⟨c1, h1⟩ := row_heap h hv
    obtain ⟨c2, h2⟩ := row_heap k e0.symm
    rw [h1] at h2
    simp only [Option.some.injEq, Obj.cells.injEq] at h2
    exact h2.2.1
theorem blk_apart {W : World} {i j : Nat} {T T' : TypeId} {cs cs' : Array Value} (h : Blk W i T cs) (k : Blk W j T' cs') (hT : T ≠ T') : i ≠ j := fun e => by
  subst e
  have h' : W.heap[i]? = _ := h
  have k' : W.heap[i]? = _ := k
  rw [h'] at k'
  simp only [Option.some.injEq, Obj.cells.injEq] at k'
  exact hT k'.2.1
theorem set_mid {α : Type} (l : List α) (a b x : α) (k : Nat) (hk : k = l.length) : (l ++ [a, b]).set k x = l ++ [x, b] := by
  subst hk
  simp
theorem set_end {α : Type} (l : List α) (a b x : α) (k : Nat) (hk : k = l.length + 1) : (l ++ [a, b]).set k x = l ++ [a, x] := by
  subst hk
  rw [List.set_append_right _ _ (by omega)]
  simp
theorem at_mid {α : Type} (l : List α) (a b : α) (k : Nat) (hk : k = l.length) : (l ++ [a, b])[k]? = some a := by
  subst hk
  simp
theorem at_end {α : Type} (l : List α) (a b : α) (k : Nat) (hk : k = l.length + 1) : (l ++ [a, b])[k]? = some b := by
  subst hk
  rw [List.getElem?_append_right (by omega)]
  simp
def isleTwo (y : Isle) : List (List Int) := [y.bl, y.sl]
theorem isle_flat (l : List Isle) : (l.flatMap Isle.enc).length = 2 * l.length := by
  induction l with
  | nil => rfl
  | cons y l ih => rw [List.flatMap_cons, List.length_append, ih]; simp [Isle.enc]; omega
theorem isle_flat2 (l : List Isle) : (l.flatMap isleTwo).length = 2 * l.length := by
  induction l with
  | nil => rfl
  | cons y l ih => rw [List.flatMap_cons, List.length_append, ih]; simp [isleTwo]; omega
theorem Rows.front {w : World} {n₀ : Nat} {vs us : List Value} {fl gl : List (List Int)} (h : Rows w n₀ (vs ++ us) (fl ++ gl)) (hl : vs.length = fl.length) : Rows w n₀ vs fl := by
  have hv : ∀ (k : Nat) v, vs[k]? = some v → (vs ++ us)[k]? = some v := fun k v hk => by
    rw [List.getElem?_append_left (List.getElem?_eq_some_iff.1 hk).1]; exact hk
  have hf : ∀ (k : Nat) v, fl[k]? = some v → (fl ++ gl)[k]? = some v := fun k v hk => by
    rw [List.getElem?_append_left (List.getElem?_eq_some_iff.1 hk).1]; exact hk
  exact ⟨hl, fun k v xs h1 h2 => h.own k v xs (hv k v h1) (hf k xs h2), fun j k u v h1 h2 => h.apart j k u v (hv j u h1) (hv k v h2)⟩
/-- The islands so far. -/
structure IslW (w1 : World) (v : Value) (l : List Isle) (W : World) : Prop where
  low : Below w1.heap.size w1 W
  out : W.ownsRow w1.heap.size 78 2 v l.length (l.flatMap Isle.enc)
  rows : Rows W w1.heap.size (l.flatMap Isle.enc) (l.flatMap isleTwo)
theorem IslW.next {w1 W W' : World} {v : Value} {l : List Isle} (h : IslW w1 v l W) (hb : Below W.heap.size W W') : IslW w1 v l W' :=
  ⟨below_after hb (Nat.le_refl _) h.low, h.out.kept (grown_of_below hb) (by by_cases hu : v.ownBlock = none; exact .inl hu; exact .inr hu), h.rows.still (grown_of_below hb)⟩
/-- And the one at hand. -/
structure CurW (w1 : World) (v : Value) (l : List Isle) (gl : Nat) (Rl : List Bool) (bx : Nat) (v1 : Value) (xs1 : List Int) (v2 : Value) (xs2 : List Int) (W : World) : Prop where
  low : Below w1.heap.size w1 W
  out : W.ownsRow w1.heap.size 78 2 v l.length (l.flatMap Isle.enc)
  rows : Rows W w1.heap.size (l.flatMap Isle.enc ++ [v1, v2]) (l.flatMap isleTwo ++ [xs1, xs2])
  marks : BoolB W gl Rl
  box : Blk W bx 78 #[v1, v2]
  hbx : w1.heap.size ≤ bx
  obx : v.ownBlock ≠ some bx
section
variable {w1 W W' w2 : World} {v v1 v2 v' : Value} {l : List Isle} {gl bx : Nat} {Rl : List Bool} {xs1 xs2 : List Int}
theorem CurW.next (h : CurW w1 v l gl Rl bx v1 xs1 v2 xs2 W) (hb : Below W.heap.size W W') : CurW w1 v l gl Rl bx v1 xs1 v2 xs2 W' :=
  ⟨below_after hb (Nat.le_refl _) h.low, h.out.kept (grown_of_below hb) (by by_cases hu : v.ownBlock = none; exact .inl hu; exact .inr hu), h.rows.still (grown_of_below hb), BoolB.below h.marks hb, Blk.below h.box hb (Blk.lt h.box), h.hbx, h.obx⟩
theorem CurW.isles (h : CurW w1 v l gl Rl bx v1 xs1 v2 xs2 W) : IslW w1 v l W := ⟨h.low, h.out, h.rows.front (by rw [isle_flat, isle_flat2])⟩
theorem CurW.row1 (h : CurW w1 v l gl Rl bx v1 xs1 v2 xs2 W) : W.ownsRow w1.heap.size 3 1 v1 xs1.length (xs1.map (Value.int .i64)) :=
  h.rows.own (2 * l.length) v1 xs1 (at_mid _ _ _ _ (isle_flat l).symm) (at_mid _ _ _ _ (isle_flat2 l).symm)
theorem CurW.row2 (h : CurW w1 v l gl Rl bx v1 xs1 v2 xs2 W) : W.ownsRow w1.heap.size 3 1 v2 xs2.length (xs2.map (Value.int .i64)) :=
  h.rows.own (2 * l.length + 1) v2 xs2 (at_end _ _ _ _ (by rw [isle_flat])) (at_end _ _ _ _ (by rw [isle_flat2]))
theorem IslW.start (h : IslW w1 v l W) (hm : BoolB W gl Rl) : CurW w1 v l gl Rl W.heap.size (.slice none 0 0) [] (.slice none 0 0) [] (W.alloc (.cells #[.slice none 0 0, .slice none 0 0] 78)) := by
  have hz := h.low.size
  refine ⟨h.low.alloc hz _, h.out.alloc _, (h.rows.still (World.grownBy_alloc W _ none)).push2, hm.below ((Below.refl _ _).alloc (Nat.le_refl _) _), heap_alloc_new W _, hz, fun e => ?_⟩
  have := (h.out.lt _ e).2
  omega
theorem CurW.put1 (h : CurW w1 v l gl Rl bx v1 xs1 v2 xs2 W) {o : Obj} {c : Int} (hown : w2.ownsRow w1.heap.size 3 1 v' (xs1.length + 1) (xs1.map (Value.int .i64) ++ [.int .i64 c])) (hg : (W.alloc o).grownBy w2 v1.ownBlock) (hat : v'.ownBlock = v1.ownBlock ∨ v'.ownBlock = some (W.alloc o).heap.size) :
    Blk w2 bx 78 #[v1, v2] ∧ CurW w1 v l gl Rl bx v' (xs1 ++ [c]) v2 xs2 (w2.setCell ⟨bx, 0, none⟩ v') := by
  have hz := h.low.size
  have hr1 := h.row1
  have nbx : some bx ≠ v1.ownBlock := own_ne hr1 h.box (by decide)
  have box1 : Blk w2 bx 78 #[v1, v2] := (h.box.alloc o).kept hg nbx
  have rows1 := (h.rows.still (World.grownBy_alloc W o none)).put (k := 2 * l.length) (v := v1) (v' := v') (ys := xs1 ++ [c]) (n := (W.alloc o).heap.size) (at_mid _ _ _ _ (isle_flat l).symm) hg (by simpa using hown) (Nat.le_refl _) hat
  rw [set_mid _ _ _ _ _ (isle_flat l).symm, set_mid _ _ _ _ _ (isle_flat2 l).symm] at rows1
  have ngl : some gl ≠ v1.ownBlock := own_ne hr1 h.marks (by decide)
  have mk1 : BoolB w2 gl Rl := Blk.kept (Blk.alloc h.marks o) hg ngl
  have out1 := (h.out.alloc o).kept hg (row_apart h.out hr1 (by decide))
  refine ⟨box1, ?_, ?_, ?_, ?_, ?_, h.hbx, h.obx⟩
  · exact ((h.low.alloc hz o).grown hg (by simp; omega) (fun k e => (hr1.lt k e).1)).setCell h.hbx _
  · exact out1.kept (grownBy_setAt w2 bx 0 v') (.inr h.obx)
  · refine rows1.kept (grownBy_setAt w2 bx 0 v') fun k u hu => ?_
    obtain ⟨zs, hz⟩ := rows1.get hu
    exact .inr fun e => own_ne (rows1.own k u zs hu hz) box1 (by decide) e.symm
  · exact Blk.far mk1 (blk_apart mk1 box1 (by decide)) _
  · exact Blk.set_ box1 0 v'
theorem CurW.put2 (h : CurW w1 v l gl Rl bx v1 xs1 v2 xs2 W) {o : Obj} {c : Int} (hown : w2.ownsRow w1.heap.size 3 1 v' (xs2.length + 1) (xs2.map (Value.int .i64) ++ [.int .i64 c])) (hg : (W.alloc o).grownBy w2 v2.ownBlock) (hat : v'.ownBlock = v2.ownBlock ∨ v'.ownBlock = some (W.alloc o).heap.size) :
    Blk w2 bx 78 #[v1, v2] ∧ CurW w1 v l gl Rl bx v1 xs1 v' (xs2 ++ [c]) (w2.setCell ⟨bx, 1, none⟩ v') := by
  have hz := h.low.size
  have hr1 := h.row2
  have nbx : some bx ≠ v2.ownBlock := own_ne hr1 h.box (by decide)
  have box1 : Blk w2 bx 78 #[v1, v2] := (h.box.alloc o).kept hg nbx
  have rows1 := (h.rows.still (World.grownBy_alloc W o none)).put (k := 2 * l.length + 1) (v := v2) (v' := v') (ys := xs2 ++ [c]) (n := (W.alloc o).heap.size) (at_end _ _ _ _ (by rw [isle_flat])) hg (by simpa using hown) (Nat.le_refl _) hat
  rw [set_end _ _ _ _ _ (by rw [isle_flat]), set_end _ _ _ _ _ (by rw [isle_flat2])] at rows1
  have ngl : some gl ≠ v2.ownBlock := own_ne hr1 h.marks (by decide)
  have mk1 : BoolB w2 gl Rl := Blk.kept (Blk.alloc h.marks o) hg ngl
  have out1 := (h.out.alloc o).kept hg (row_apart h.out hr1 (by decide))
  refine ⟨box1, ?_, ?_, ?_, ?_, ?_, h.hbx, h.obx⟩
  · exact ((h.low.alloc hz o).grown hg (by simp; omega) (fun k e => (hr1.lt k e).1)).setCell h.hbx _
  · exact out1.kept (grownBy_setAt w2 bx 1 v') (.inr h.obx)
  · refine rows1.kept (grownBy_setAt w2 bx 1 v') fun k u hu => ?_
    obtain ⟨zs, hz⟩ := rows1.get hu
    exact .inr fun e => own_ne (rows1.own k u zs hu hz) box1 (by decide) e.symm
  · exact Blk.far mk1 (blk_apart mk1 box1 (by decide)) _
  · exact Blk.set_ box1 1 v'
/-- The island at hand joins the others. -/
theorem CurW.push {A1 A2 : Option Addr} {c1 c2 : Nat} (h : CurW w1 v l gl Rl bx (.slice A1 xs1.length c1) xs1 (.slice A2 xs2.length c2) xs2 W) {o : Obj} (hown : w2.ownsRow w1.heap.size 78 2 v' (l.length + 1) (l.flatMap Isle.enc ++ [.slice A1 xs1.length c1, .slice A2 xs2.length c2])) (hg : (W.alloc o).grownBy w2 v.ownBlock) :
    IslW w1 v' (l ++ [⟨A1, xs1.length, c1, xs1, A2, xs2.length, c2, xs2⟩]) w2 := by
  have hz := h.low.size
  refine ⟨(h.low.alloc hz o).grown hg (by simp; omega) (fun k e => (h.out.lt k e).1), ?_, ?_⟩
  · rw [List.length_append, List.flatMap_append]
    simpa [Isle.enc] using hown
  · rw [List.flatMap_append, List.flatMap_append]
    have e1 : ([⟨A1, xs1.length, c1, xs1, A2, xs2.length, c2, xs2⟩] : List Isle).flatMap Isle.enc = [.slice A1 xs1.length c1, .slice A2 xs2.length c2] := by simp [Isle.enc]
    have e2 : ([⟨A1, xs1.length, c1, xs1, A2, xs2.length, c2, xs2⟩] : List Isle).flatMap isleTwo = [xs1, xs2] := by simp [isleTwo]
    rw [e1, e2]
    refine (h.rows.still (World.grownBy_alloc W o none)).kept hg fun k u hu => ?_
    obtain ⟨zs, hz⟩ := h.rows.get hu
    exact row_apart (h.rows.own k u zs hu hz) h.out (by decide)
end
theorem rd_rowI {W : World} {base : Nat} {T : TypeId} {A : Option Addr} {c : Nat} {l : List Isle} (h : W.ownsRow base T 2 (.slice A l.length c) l.length (l.flatMap Isle.enc)) : Rd W W.heap.size 2 Isle.enc A l.length l := by
  refine ⟨rfl, fun hn => ?_⟩
  obtain ⟨g, cap, e⟩ := row_some h hn
  simp only [Value.slice.injEq] at e
  obtain ⟨e, _, _⟩ := e
  subst e
  refine ⟨g, 0, rfl, (h.lt g rfl).2, fun i x hx j u hu => ?_⟩
  rw [Nat.zero_add]
  exact row_cell h (flatMap_get (f := Isle.enc) (size := 2) l (fun _ _ => rfl) i x hx j u hu)
theorem IslW.nil (w1 : World) : IslW w1 (.slice none 0 0) [] w1 := ⟨Below.refl _ _, World.ownsRow_nil _ _ _ _, Rows.nil _ _⟩
theorem IslW.read {w1 W : World} {v : Value} {l : List Isle} (h : IslW w1 v l W) (hl : l.length ≤ 24) (hb : ∀ y ∈ l, y.bl.length = y.bn ∧ y.bn ≤ 24 ∧ y.sl.length = y.sn ∧ y.sn ≤ 24) : ∃ A c, v = .slice A l.length c ∧ IslesIn W W.heap.size A l.length l := by
  obtain ⟨A, c, rfl⟩ := row_slice h.out
  have hf : ∀ y ∈ l, (Isle.enc y).length = 2 := fun _ _ => rfl
  have hgetv : ∀ (i : Nat) y, l[i]? = some y → (l.flatMap Isle.enc)[i * 2]? = some (.slice y.bA y.bn y.bc) ∧ (l.flatMap Isle.enc)[i * 2 + 1]? = some (.slice y.sA y.sn y.sc) := fun i y hy =>
    ⟨by simpa using flatMap_get (f := Isle.enc) (size := 2) l hf i y hy 0 _ rfl, flatMap_get (f := Isle.enc) (size := 2) l hf i y hy 1 _ rfl⟩
  have hgetl : ∀ (l : List Isle) (i : Nat) y, l[i]? = some y → (l.flatMap isleTwo)[i * 2]? = some y.bl ∧ (l.flatMap isleTwo)[i * 2 + 1]? = some y.sl := by
    intro l
    induction l with
    | nil => intro i y hy; simp at hy
    | cons z l ih =>
      intro i y hy
      cases i with
      | zero =>
        simp only [List.getElem?_cons_zero, Option.some.injEq] at hy
        subst hy
        exact ⟨by simp [isleTwo], by simp [isleTwo]⟩
      | succ i =>
        obtain ⟨h1, h2⟩ := ih i y (by simpa using hy)
        rw [List.flatMap_cons]
        refine ⟨?_, ?_⟩
        · rw [List.getElem?_append_right (by simp [isleTwo]; omega)]
          rw [← h1]
          congr 1
          simp [isleTwo]
          omega
        · rw [List.getElem?_append_right (by simp [isleTwo]; omega)]
          rw [← h2]
          congr 1
          simp [isleTwo]
          omega
  have hrd : ∀ {A : Option Addr} {n c : Nat} {xs : List Int}, xs.length = n → W.ownsRow w1.heap.size 3 1 (.slice A n c) xs.length (xs.map (Value.int .i64)) → Rd W W.heap.size 1 encI A n xs := by
    intro A n c xs e ho
    subst e
    obtain ⟨A', c', e', h'⟩ := row_rd ho
    cases e'
    exact h'
  refine ⟨A, c, rfl, rd_rowI h.out, by omega, fun y hy => ?_, fun y hy => ?_⟩
  · obtain ⟨i, hi⟩ := List.getElem?_of_mem hy
    obtain ⟨h1, h2, h3, h4⟩ := hb y hy
    exact ⟨hrd h1 (h.rows.own (i * 2) _ y.bl (hgetv i y hi).1 (hgetl l i y hi).1), by omega⟩
  · obtain ⟨i, hi⟩ := List.getElem?_of_mem hy
    obtain ⟨h1, h2, h3, h4⟩ := hb y hy
    exact ⟨hrd h3 (h.rows.own (i * 2 + 1) _ y.sl (hgetv i y hi).2 (hgetl l i y hi).2), by omega⟩
end Go.Proofs.YtnngdcidopaabaaGreatDoor

/- The reference's Islands. -/
namespace Go.Proofs.YtnngdcidopaabaaGreatDoor
open Go.RowKit

theorem rislandInfo : (Tryz.prog.info? 78).map (fun i => (i.zero, i.size, i.bytes)) = some (some (.agg #[.slice none 0 0, .slice none 0 0]), 2, 48) := by kernel_rfl
theorem rbusTo_length {B : Nat} (s : Stt) (L : List (LnkOf B)) (m b n : Nat) : (rbusTo s L m b n).length ≤ n := by
  unfold rbusTo
  rw [List.length_map]
  exact Nat.le_trans (List.length_filter_le _ _) (by simp)
theorem rsrcTo_length {B : Nat} (s : Stt) (S : List Src) (L : List (LnkOf B)) (m b n : Nat) : (rsrcTo s S L m b n).length ≤ n := by
  induction n with
  | zero => simp [rsrcTo]
  | succ n ih =>
    rw [rsrcTo, List.length_append]
    split
    · split <;> simp <;> omega
    · simp; omega
theorem rislTo_length {B : Nat} (p : Plt) (s : Stt) (L : List (LnkOf B)) (n : Nat) : (rislTo p s L n).length ≤ n := by
  induction n with
  | zero => simp [rislTo]
  | succ n ih =>
    rw [rislTo, List.length_append]
    split <;> simp <;> omega
theorem rbusTo_in {B : Nat} {s : Stt} {L : List (LnkOf B)} {m b n : Nat} {x : Int} (h : x ∈ rbusTo s L m b n) : ∃ c : Nat, x = (c : Int) ∧ c < n := by
  unfold rbusTo at h
  simp only [List.mem_map, List.mem_filter, List.mem_range] at h
  obtain ⟨c, ⟨h1, _⟩, rfl⟩ := h
  exact ⟨c, rfl, h1⟩
theorem rbusTo_pos {B : Nat} (s : Stt) (L : List (LnkOf B)) (m b : Nat) (hb : b < B) : 0 < (rbusTo s L m b B).length := by
  apply List.length_pos_of_mem (a := (b : Int))
  unfold rbusTo
  simp only [List.mem_map, List.mem_filter, List.mem_range]
  exact ⟨b, ⟨hb, (reachL_iff s L m b b hb).2 (.base rfl)⟩, rfl⟩
/-- Every island has as many buses and sources as are counted. -/
def IslFit (l : List Isle) : Prop := ∀ y ∈ l, y.bl.length = y.bn ∧ y.bn ≤ 24 ∧ y.sl.length = y.sn ∧ y.sn ≤ 24
theorem IslFit.snoc {l : List Isle} (h : IslFit l) (y : Isle) (hy : y.bl.length = y.bn ∧ y.bn ≤ 24 ∧ y.sl.length = y.sn ∧ y.sn ≤ 24) : IslFit (l ++ [y]) := fun z hz => by
  rcases List.mem_append.1 hz with h1 | h1
  · exact h z h1
  · rw [List.mem_singleton] at h1
    subst h1
    exact hy
set_option maxRecDepth 100000 in
set_option maxHeartbeats 8000000 in
theorem refIslands_ok (p : Plt) (s : Stt) (B : Nat) (L : List (LnkOf B)) (S : Sound p s B L) (hsn : p.sn ≤ 24) (hln : p.ln ≤ 40) (w : World) (hc : checkState p s = 0) (hp : PltIn w w.heap.size p) (hs : SttIn w w.heap.size s) :
    Calls Tryz.prog 14 #[p.val, s.val] w fun e w' => ∃ (l : List Isle) (A : Option Addr) (c : Nat), e = .returned (.tuple #[.slice A l.length c, .int .i64 0]) ∧ Below w.heap.size w w' ∧ IslesIn w' w'.heap.size A l.length l ∧ l.map Isle.two = islesOf (homeL p s L) (feedTo (B := B) s p.srcs (homeL p s L) p.sn) := by
  have hsl : p.srcs.length = p.sn := hp.src.1
  have CS := Lib.hid (fun W hp hs => refCheckState_any p s W hp hs)
  rw [hc] at CS
  have FE := Lib.hid (fun k x hx W hp hs => refFeeds_any p s B L S k x hx W hp hs)
  have RE := Lib.hid (fun b hb W hp hs => refReach_any p s B L S hln b hb W hp hs)
  have HS := Lib.hid S
  have eB := S.buses
  have kB := S.small
  have b1 := S.pos
  obtain ⟨i0, hi, hz0, hz1, hz2⟩ := info_parts intInfo
  obtain ⟨j0, hj, hy0, hy1, hy2⟩ := info_parts rislandInfo
  have LO0 : Lo w p s w.heap.size (w.heap.size + 1) ((w.alloc (.cells (pBox p) 26)).alloc (.cells (sBox s) 29)) := by
    have hb : Below w.heap.size w ((w.alloc (.cells (pBox p) 26)).alloc (.cells (sBox s) 29)) := by (repeat' (first | (with_reducible exact Below.refl _ _) | (with_reducible assumption) | (with_reducible refine below_drewN ?_ _) | (with_reducible refine below_after (by assumption) ?_ ?_) | (with_reducible refine Below.drew ?_) | (with_reducible refine Below.alloc ?_ ?_ _) | (with_reducible refine Below.setCell ?_ ?_ _) | omega | (simp; omega) | (simp; done)))
    refine ⟨hb, hp.next hb, hs.next hb, Blk.alloc (heap_alloc_new w _) _, ?_⟩
    have := heap_alloc_new (w.alloc (.cells (pBox p) 26)) (.cells (sBox s) 29)
    rw [World.size_alloc] at this
    exact this
  unfold pBox sBox at LO0
  rw [eB] at LO0
  have HLO0 := Lib.hid LO0
  have HRI := Lib.hid (risl_is S hsl B (Nat.le_refl _))
  clear hp hs S hc LO0
  unfold Plt.val Stt.val at CS FE RE ⊢
  rw [eB] at CS FE RE ⊢
  go_enter Tryz.func14, Tryz.ntmps14
  go_wp2_with fail
  refine (CS.out _ HLO0.out.plt HLO0.out.stt).mono ?_
  rintro e w1 ⟨rfl, hB1⟩
  have HLO1 := Lib.hid (HLO0.out.next hB1)
  clear hB1 HLO0 CS
  go_wp2
  have JW : Hid (IslW w1 (.slice none 0 0) [] w1 ∧ IslFit [] ∧ ([] : List Isle).map Isle.two = rislTo p s L 0) := ⟨IslW.nil w1, fun y hy => by simp at hy, rfl⟩
  go_loopw [7, 8, 9, 10, 11, 12] (fun v i _ _ _ _ wr => ∃ (k : Nat) (l : List Isle), k ≤ B ∧ i = .int .i64 k ∧ Hid (IslW w1 v l wr ∧ IslFit l ∧ l.map Isle.two = rislTo p s L k)) (fun _ i _ _ _ _ _ => B - (intOf i).toNat)
  case atStart => exact ⟨0, [], by omega, rfl, JW⟩
  case round =>
    clear JW
    obtain ⟨k, l, hk, rfl, HJ⟩ := hrel
    obtain ⟨v, hv⟩ : ∃ z, z = u7 := ⟨u7, rfl⟩
    subst hv
    have HLr := Lib.hid (HLO1.out.next HJ.out.1.low)
    obtain ⟨p0, p1, p2, p3⟩ := HLr.out.pc
    rw [eB] at p0
    have hll : l.length ≤ 24 := by
      have h1 := congrArg List.length HJ.out.2.2
      rw [List.length_map] at h1
      have := rislTo_length p s L k
      omega
    by_cases hlt : k < B
    · obtain ⟨s0, s1, s2, s3, s4, s5, s6⟩ := sBox_cells HLr.out.bs
      obtain ⟨g6, o6, a6, -, r6⟩ := HLr.out.stt.badBus.at_ (k := k) (by rw [HS.out.lens.badBus]; exact hlt)
      have H6 := Lib.hid s6
      rw [HS.out.lens.badBus, a6] at s6
      have hk0 : (0 : Int) ≤ (k : Int) := by omega
      have hkn : (k : Int) < (B : Int) := by omega
      have HA6 := Lib.hid a6
      clear a6
      cases hbad : bit s.badBus k
      · rw [hbad] at r6
        have HBD := Lib.hid hbad
        have REk := Lib.hid (fun W hp hs => RE.out k hlt W hp hs)
        rw [HA6.out] at REk
        have e6 := HS.out.lens.badBus
        rw [e6] at REk
        clear hbad e6
        go_wp2_with fail
        refine (REk.out _ HLr.out.plt HLr.out.stt).mono ?_
        rintro e w2 ⟨gl, rfl, hB2, hgl, hR2⟩
        have HJ2 := Lib.hid (HJ.out.1.next hB2)
        have HM2 := Lib.hid hR2
        have HF := Lib.hid HJ.out.2
        have HC0 := Lib.hid (HJ2.out.start HM2.out)
        have HL3 := Lib.hid (HLO1.out.next HC0.out.low)
        clear hB2 hR2 HJ HLr p0 p1 p2 p3 s0 s1 s2 s3 s4 s5 s6 H6 r6 REk HJ2 HM2
        obtain ⟨p0, -, -, -⟩ := HL3.out.pc
        rw [eB] at p0
        go_wp2
        obtain ⟨bx, hbx⟩ : ∃ x, w2.heap.size = x := ⟨_, rfl⟩
        rw [hbx] at HC0 ⊢
        obtain ⟨w3, hw3⟩ : ∃ z, w2.alloc (.cells #[.slice none 0 0, .slice none 0 0] 78) = z := ⟨_, rfl⟩
        rw [hw3] at HC0 HL3 ⊢
        clear hbx hw3 p0 HL3
        obtain ⟨Rl, hRl⟩ : ∃ V, reachL s L p.ln k = V := ⟨_, rfl⟩
        have hRll : Rl.length = B := by rw [← hRl, reachL_length]
        have HRL := Lib.hid hRl
        rw [hRl] at HC0
        clear hRl
        have JC : Hid (CurW w1 v l gl Rl bx (.slice none 0 0) (rbusTo s L p.ln k 0) (.slice none 0 0) [] w3) := HC0.out
        clear HC0
        go_loopw [11] (fun i wr => ∃ n : Nat, n ≤ B ∧ i = .int .i64 n ∧ Hid (∃ v1, CurW w1 v l gl Rl bx v1 (rbusTo s L p.ln k n) (.slice none 0 0) [] wr)) (fun i _ => B - (intOf i).toNat)
        case atStart => exact ⟨0, by omega, rfl, _, JC.out⟩
        case round =>
          clear JC
          obtain ⟨n, hn, rfl, HQ⟩ := hrel
          obtain ⟨v1, hQ⟩ := HQ.out
          have HC := Lib.hid hQ
          obtain ⟨p0, p1, p2, p3⟩ := (HLO1.out.next HC.out.low).pc
          rw [eB] at p0
          have hxl := rbusTo_length s L p.ln k n
          have q0 : wr.cell? ⟨bx, 0, none⟩ = some v1 := HC.out.box.cell 0
          have q1 : wr.cell? ⟨bx, 1, none⟩ = some (.slice none 0 0) := HC.out.box.cell 1
          clear hQ HQ
          by_cases hnl : n < B
          · have cm := HC.out.marks.cell (getElem?_mk (V := Rl) (i := n) (by omega))
            have hn0 : (0 : Int) ≤ (n : Int) := by omega
            have hnn : (n : Int) < (B : Int) := by omega
            have hsu := rbusTo_succ s L p.ln k n
            rw [HRL.out] at hsu
            have HSU := Lib.hid hsu
            clear hsu
            cases hmk : mk Rl n
            · rw [hmk] at cm
              have e : rbusTo s L p.ln k (n + 1) = rbusTo s L p.ln k n := by rw [HSU.out, hmk]; simp
              have HE := Lib.hid e
              clear e hmk
              go_wp2
              go_roundw
              case rel => exact ⟨n + 1, by omega, by go_num, v1, by rw [HE.out]; exact HC.out⟩
              case measure => simp [intOf]; omega
            · rw [hmk] at cm
              have e : rbusTo s L p.ln k (n + 1) = rbusTo s L p.ln k n ++ [(n : Int)] := by rw [HSU.out, hmk]; rfl
              have HE := Lib.hid e
              obtain ⟨xs, hxs⟩ : ∃ xs, rbusTo s L p.ln k n = xs := ⟨_, rfl⟩
              rw [hxs] at HC HE hxl
              obtain ⟨A1, c1, rfl⟩ := row_slice HC.out.row1
              have HO := Lib.hid HC.out.row1
              have zw := HC.out.low.size
              clear e hmk hxs
              go_wp2_with (at_builtin; refine wpList_append_own_at _ rfl (.tmp 45) (.tmp 47) 76 rfl w1.heap.size 3 i0 (.int .i64 0) 1 8 Tryz.underlying76 hi hz0 hz1 hz2 rfl (by decide) _ xs.length _ rfl (HO.out.alloc _) ⟨wr.heap.size, 0, none⟩ 1 1 [.int .i64 (n : Int)] rfl rfl (cell_one_new _ _ _) ?_ ?_ ?_ ?_ ?_)
              case _ =>
                first
                  | rfl
                  | (intro u hu; simp only [List.mem_cons, List.mem_nil_iff, or_false] at hu; subst hu; rfl)
              case _ => simp only [maxLen]; omega
              case _ => omega
              case _ => first | omega | (simp; omega)
              intro v' w5 hown hg5 _ hat
              obtain ⟨A', c', rfl⟩ := row_slice hown
              obtain ⟨hbox, hcur⟩ := HC.out.put1 hown hg5 (by rw [World.size_alloc]; exact hat)
              have y0 : w5.cell? ⟨bx, 0, none⟩ = some (.slice A1 xs.length c1) := hbox.cell 0
              have fy := Blk.frozen hbox 0
              have HCU := Lib.hid hcur
              clear hown hg5 hat hbox hcur HC HO p0 p1 p2 p3 q0 q1 cm
              go_wp2
              go_roundw
              case rel => exact ⟨n + 1, by omega, by go_num, _, by rw [HE.out]; exact HCU.out⟩
              case measure => simp [intOf]; omega
          · obtain rfl : B = n := by omega
            have hpos := rbusTo_pos s L p.ln k hlt
            obtain ⟨xs, hxs⟩ : ∃ xs, rbusTo s L p.ln k B = xs := ⟨_, rfl⟩
            have HXS := Lib.hid hxs
            rw [hxs] at HC hxl hpos
            obtain ⟨f, hf⟩ : ∃ f, xs[0]? = some f := ⟨_, List.getElem?_eq_getElem hpos⟩
            obtain ⟨f', hf1, hf2⟩ := rbusTo_in (by rw [hxs]; exact List.mem_of_getElem? hf)
            subst hf1
            obtain ⟨g1, c1, rfl⟩ := row_some HC.out.row1 hpos
            have cf := row_cell HC.out.row1 (k := 0) (u := .int .i64 (f' : Int)) (by rw [List.getElem?_map, hf]; rfl)
            have hsu : rislTo p s L (k + 1) = rislTo p s L k ++ if f' = k then [(xs, rsrcTo s p.srcs L p.ln k p.sn)] else [] := by
              rw [rislTo, HXS.out, hf, HBD.out]
              by_cases e : f' = k
              · subst e; simp
              · have : ¬ ((f' : Int) = (k : Int)) := by omega
                simp [e, this]
            have HSU := Lib.hid hsu
            have hp0 : (0 : Int) < (xs.length : Int) := by omega
            clear hxs hf hsu
            by_cases hfk : f' = k
            · subst hfk
              have hd1 : ((f' : Int) == (f' : Int)) = true := by simp
              go_wp2
              clear p0 p1 p2 p3 q0 q1 cf
              obtain ⟨wr0, e0⟩ : ∃ x, x = wr := ⟨wr, rfl⟩
              subst e0
              have JS : Hid (CurW w1 v l gl Rl bx (.slice (some ⟨g1, 0, none⟩) xs.length c1) xs (.slice none 0 0) (rsrcTo s p.srcs L p.ln f' 0) wr0) := HC.out
              clear HC
              go_loopw [12] (fun i wr => ∃ n : Nat, n ≤ p.sn ∧ i = .int .i64 n ∧ Hid (∃ v2, CurW w1 v l gl Rl bx (.slice (some ⟨g1, 0, none⟩) xs.length c1) xs v2 (rsrcTo s p.srcs L p.ln f' n) wr)) (fun i _ => p.sn - (intOf i).toNat)
              case atStart => exact ⟨0, by omega, rfl, _, JS.out⟩
              case round =>
                clear JS
                obtain ⟨n, hn, rfl, HQ⟩ := hrel
                obtain ⟨v2, hQ⟩ := HQ.out
                have HC := Lib.hid hQ
                have HLr := Lib.hid (HLO1.out.next HC.out.low)
                obtain ⟨p0, p1, p2, p3⟩ := HLr.out.pc
                rw [eB] at p0
                have hyl := rsrcTo_length s p.srcs L p.ln f' n
                clear hQ HQ
                by_cases hnl : n < p.sn
                · obtain ⟨b, off, x, e1, hb, hx, -⟩ := HLr.out.plt.src.at_ hnl
                  obtain ⟨c, hcb, hcB, hcn⟩ := src_nat HS.out hx
                  obtain ⟨s0, s1, s2, s3, s4, s5, s6⟩ := sBox_cells HLr.out.bs
                  have FEk := Lib.hid (fun W hp hs => FE.out n x hx W hp hs)
                  obtain ⟨fv, hfv⟩ : ∃ u, feeds s n x = u := ⟨_, rfl⟩
                  rw [hfv] at FEk
                  have hsu := rsrcTo_succ s p.srcs L p.ln f' n x hx
                  rw [hfv, hcn, HRL.out] at hsu
                  have HSU2 := Lib.hid hsu
                  have HX := Lib.hid hx
                  have HE1 := Lib.hid e1
                  have HCB := Lib.hid hcb
                  have hn0 : (0 : Int) ≤ (n : Int) := by omega
                  have hnn : (n : Int) < (p.sn : Int) := by omega
                  clear hx e1 hfv hcb hcn hsu
                  go_wp2_with fail
                  refine (FEk.out _ HLr.out.plt HLr.out.stt).mono ?_
                  rintro e w6 ⟨rfl, hB6⟩
                  have HC6 := Lib.hid (HC.out.next hB6)
                  have HL6 := Lib.hid (HLr.out.next hB6)
                  clear hB6 HC HLr p0 p1 p2 p3 s0 s1 s2 s3 s4 s5 s6 FEk
                  obtain ⟨p0, p1, p2, p3⟩ := HL6.out.pc
                  rw [eB] at p0
                  obtain ⟨b', off', x', e1, -, hx', hcx⟩ := HL6.out.plt.src.at_ hnl
                  obtain rfl : x = x' := by rw [HX.out] at hx'; exact Option.some.inj hx'
                  obtain ⟨d0, -⟩ := Src.cells hcx
                  rw [HE1.out] at e1
                  cases e1
                  rw [HE1.out] at p1
                  rw [HCB.out] at d0
                  have cm := HC6.out.marks.cell (getElem?_mk (V := Rl) (i := c) (by omega))
                  have q0 : w6.cell? ⟨bx, 0, none⟩ = some (.slice (some ⟨g1, 0, none⟩) xs.length c1) := HC6.out.box.cell 0
                  have q1 : w6.cell? ⟨bx, 1, none⟩ = some v2 := HC6.out.box.cell 1
                  have hc0 : (0 : Int) ≤ (c : Int) := by omega
                  have hcn : (c : Int) < (B : Int) := by omega
                  clear hx' hcx
                  obtain ⟨mv, hmv⟩ : ∃ u, mk Rl c = u := ⟨_, rfl⟩
                  rw [hmv] at cm HSU2
                  clear hmv
                  cases hfm : fv && mv
                  · have e : rsrcTo s p.srcs L p.ln f' (n + 1) = rsrcTo s p.srcs L p.ln f' n := by rw [HSU2.out, hfm]; simp
                    have HE := Lib.hid e
                    clear e
                    cases fv
                    · clear hfm
                      go_wp2
                      go_roundw
                      case rel => exact ⟨n + 1, by omega, by go_num, v2, by rw [HE.out]; exact HC6.out⟩
                      case measure => simp [intOf]; omega
                    · simp only [Bool.true_and] at hfm
                      subst hfm
                      go_wp2
                      go_roundw
                      case rel => exact ⟨n + 1, by omega, by go_num, v2, by rw [HE.out]; exact HC6.out⟩
                      case measure => simp [intOf]; omega
                  · have e : rsrcTo s p.srcs L p.ln f' (n + 1) = rsrcTo s p.srcs L p.ln f' n ++ [(n : Int)] := by rw [HSU2.out, hfm]; rfl
                    have HE := Lib.hid e
                    simp only [Bool.and_eq_true] at hfm
                    obtain ⟨rfl, rfl⟩ := hfm
                    obtain ⟨ys, hys⟩ : ∃ ys, rsrcTo s p.srcs L p.ln f' n = ys := ⟨_, rfl⟩
                    rw [hys] at HC6 HE hyl
                    obtain ⟨A2, c2, rfl⟩ := row_slice HC6.out.row2
                    have HO := Lib.hid HC6.out.row2
                    have zw := HC6.out.low.size
                    clear e hys
                    go_wp2_with (at_builtin; refine wpList_append_own_at _ rfl (.tmp 79) (.tmp 81) 76 rfl w1.heap.size 3 i0 (.int .i64 0) 1 8 Tryz.underlying76 hi hz0 hz1 hz2 rfl (by decide) _ ys.length _ rfl (HO.out.alloc _) ⟨w6.heap.size, 0, none⟩ 1 1 [.int .i64 (n : Int)] rfl rfl (cell_one_new _ _ _) ?_ ?_ ?_ ?_ ?_)
                    case _ =>
                      first
                        | rfl
                        | (intro u hu; simp only [List.mem_cons, List.mem_nil_iff, or_false] at hu; subst hu; rfl)
                    case _ => simp only [maxLen]; omega
                    case _ => omega
                    case _ => first | omega | (simp; omega)
                    intro v' w7 hown hg7 _ hat
                    obtain ⟨A', c', rfl⟩ := row_slice hown
                    obtain ⟨hbox, hcur⟩ := HC6.out.put2 hown hg7 (by rw [World.size_alloc]; exact hat)
                    have y0 : w7.cell? ⟨bx, 1, none⟩ = some (.slice A2 ys.length c2) := hbox.cell 1
                    have fy := Blk.frozen hbox 1
                    have HCU := Lib.hid hcur
                    clear hown hg7 hat hbox hcur HC6 HO p0 p1 p2 p3 q0 q1 cm d0
                    go_wp2
                    go_roundw
                    case rel => exact ⟨n + 1, by omega, by go_num, _, by rw [HE.out]; exact HCU.out⟩
                    case measure => simp [intOf]; omega
                · obtain rfl : p.sn = n := by omega
                  obtain ⟨ys, hys⟩ : ∃ ys, rsrcTo s p.srcs L p.ln f' p.sn = ys := ⟨_, rfl⟩
                  have HYS := Lib.hid hys
                  rw [hys] at HC hyl
                  obtain ⟨A2, c2, rfl⟩ := row_slice HC.out.row2
                  have q0 : wr.cell? ⟨bx, 0, none⟩ = some (.slice (some ⟨g1, 0, none⟩) xs.length c1) := HC.out.box.cell 0
                  have q1 : wr.cell? ⟨bx, 1, none⟩ = some (.slice A2 ys.length c2) := HC.out.box.cell 1
                  have HO := Lib.hid HC.out.out
                  have zw := HC.out.low.size
                  clear hys
                  go_wp2_with (at_builtin; refine wpList_append_own_at _ rfl (.tmp 84) (.tmp 86) 40 rfl w1.heap.size 78 j0 (.agg #[.slice none 0 0, .slice none 0 0]) 2 48 Tryz.underlying40 hj hy0 hy1 hy2 rfl (by decide) _ l.length _ rfl (HO.out.alloc _) ⟨wr.heap.size, 0, none⟩ 1 1 [.slice (some ⟨g1, 0, none⟩) xs.length c1, .slice A2 ys.length c2] rfl rfl ?_ ?_ ?_ ?_ ?_ ?_)
                  case _ =>
                    intro i x hx
                    match i, hx with
                    | 0, hx =>
                      simp only [List.getElem?_cons_zero, Option.some.injEq] at hx
                      subst hx
                      simp [Addr.add, go_sem]
                    | 1, hx =>
                      simp only [List.getElem?_cons_succ, List.getElem?_cons_zero, Option.some.injEq] at hx
                      subst hx
                      simp [Addr.add, go_sem]
                  case _ =>
                    intro x hx
                    simp only [List.mem_cons, List.mem_nil_iff, or_false] at hx
                    rcases hx with rfl | rfl <;> rfl
                  case _ => simp only [maxLen]; omega
                  case _ => omega
                  case _ => simp; omega
                  intro v' w7 hown hg7 _ _
                  have HP := Lib.hid (HC.out.push hown hg7)
                  clear hown hg7 HC HO HLr p0 p1 p2 p3 q0 q1
                  go_wp2
                  go_roundw
                  case rel =>
                    refine ⟨f' + 1, _, by omega, by go_num, HP.out, HF.out.1.snoc _ ⟨rfl, (show xs.length ≤ 24 by omega), rfl, (show ys.length ≤ 24 by omega)⟩, ?_⟩
                    rw [HSU.out, HYS.out, List.map_append, HF.out.2]
                    simp [Isle.two]
                  case measure => simp [intOf]; omega
            · have hne : ¬ ((f' : Int) = (k : Int)) := by omega
              have hd1 : ((f' : Int) == (k : Int)) = false := by rw [beq_eq_false_iff_ne]; exact hne
              have hd2 : decide (f' = k) = false := decide_eq_false hfk
              have hd3 : (f' == k) = false := by rw [beq_eq_false_iff_ne]; exact hfk
              go_wp2
              go_roundw
              case rel =>
                refine ⟨k + 1, l, by omega, by go_num, HC.out.isles, HF.out.1, ?_⟩
                rw [HSU.out, if_neg hfk, HF.out.2, List.append_nil]
              case measure => simp [intOf]; omega
      · rw [hbad] at r6
        have HBD := Lib.hid hbad
        clear hbad
        go_wp2
        go_roundw
        case rel =>
          refine ⟨k + 1, l, by omega, by go_num, HJ.out.1, HJ.out.2.1, ?_⟩
          rw [rislTo, HBD.out, HJ.out.2.2]
          simp
        case measure => simp [intOf]; omega
    · obtain rfl : B = k := by omega
      obtain ⟨A, c, rfl, hin⟩ := HJ.out.1.read hll HJ.out.2.1
      have HIN := Lib.hid hin
      clear hin
      go_wp2
      exact bodyPost_ret (results_tmp2 rfl _ _ _) rfl ⟨l, A, c, rfl, below_after HJ.out.1.low (Nat.le_refl _) HLO1.out.low, HIN.out, by rw [HJ.out.2.2, HRI.out]; rfl⟩
end Go.Proofs.YtnngdcidopaabaaGreatDoor
