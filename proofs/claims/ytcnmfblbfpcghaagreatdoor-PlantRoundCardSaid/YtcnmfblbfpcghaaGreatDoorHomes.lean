/- plant.homes. -/
import Derived.Test.YtcnmfblbfpcghaaGreatDoorCond

set_option linter.unusedSimpArgs false
set_option linter.unusedVariables false
namespace Go.Proofs.YtcnmfblbfpcghaaGreatDoor
open Go.RowKit Go.Shelf
attribute [local go_sem] Oper.semAt_some

theorem conducting_in (F : Fence) (n : Nat) (hf : F.fn 125) (hro : F.round = none) (p : Plt) (s : Stt) (w : World) :
    CallsIn F n Tryz.prog 125 #[p.val, s.val] w fun e w' => e = .returned (.func (.func 147) #[] #[.pointer (some ⟨w.heap.size, 0, none⟩), .pointer (some ⟨w.heap.size + 1, 0, none⟩)]) ∧
      w' = (w.alloc (.cells #[.int .i64 p.buses, .slice p.sA p.sn p.sc, .slice p.lA p.ln p.lc, .slice p.rA p.rn p.rc] 26)).alloc (.cells #[.slice s.closed.A s.closed.n s.closed.c, .slice s.locked.A s.locked.n s.locked.c, .slice s.badLink.A s.badLink.n s.badLink.c, .slice s.on.A s.on.n s.on.c, .slice s.badSource.A s.badSource.n s.badSource.c, .slice s.earthed.A s.earthed.n s.earthed.c, .slice s.badBus.A s.badBus.n s.badBus.c] 29) := by
  unfold Plt.val Stt.val
  refine callsIn_of_wp Tryz.func125 rfl hf ?_ hro
  simp only [Tryz.ntmps125, List.size_toArray, List.length_cons, List.length_nil, Nat.reduceAdd, Nat.reduceSub, Array.replicate_succ, Array.replicate_zero, List.push_toArray, List.append_toArray, List.nil_append, List.cons_append]
  gi_wp2
  go_ret
  exact ⟨rfl, rfl⟩
theorem cond_stops (F : Fence) (n : Nat) (hf : F.fn 147) (hro : F.round = none) (hn : 1 ≤ n) (Bp Bq n₀ g B : Nat) (p : Plt) (s : Stt) (L : List (LnkOf B)) (hL : p.lnks = L.map (·.1)) (hlen : Lens p s B)
    (hBp : Bp ≠ g) (hBq : Bq ≠ g) (hng : n₀ ≤ g) (w : World) (hw : n₀ ≤ w.heap.size) (hp : PltIn w n₀ p) (hs : SttIn w n₀ s) (cp : w.cell? ⟨Bp, 2, none⟩ = some (.slice p.lA p.ln p.lc))
    (c0 : w.cell? ⟨Bq, 0, none⟩ = some (.slice s.closed.A s.closed.n s.closed.c)) (c2 : w.cell? ⟨Bq, 2, none⟩ = some (.slice s.badLink.A s.badLink.n s.badLink.c)) (c6 : w.cell? ⟨Bq, 6, none⟩ = some (.slice s.badBus.A s.badBus.n s.badBus.c)) :
    SeqStopsK F n Tryz.prog 147 #[.pointer (some ⟨Bp, 0, none⟩), .pointer (some ⟨Bq, 0, none⟩)] (fun x : LnkOf B => #[x.1.val]) (KpG g) (fun ys => ys = condTo s L p.ln) (fun _ => True) p.ln w := fun l J Jx W hW hJ _ hY h0 =>
  cond1_in F n hf hro hn l Bp Bq n₀ g B p s L hL hlen hBp hBq hng J Jx W hJ hY (hp.below (hW.mono hw)) (hs.below (hW.mono hw)) ((hW.cell (block_of_cell cp)).trans cp) ((hW.cell (block_of_cell c0)).trans c0) ((hW.cell (block_of_cell c2)).trans c2) ((hW.cell (block_of_cell c6)).trans c6) h0

/-- The forest behind the joins. -/
def joinAll {B : Nat} (f : List Nat) (xs : List (LnkOf B)) : List Nat := xs.foldl (fun f x => joinOf f x.1.a.toNat x.1.b.toNat) f
theorem joinAll_snoc {B : Nat} (f : List Nat) (xs : List (LnkOf B)) (x : LnkOf B) : joinAll f (xs ++ [x]) = joinOf (joinAll f xs) x.1.a.toNat x.1.b.toNat := by simp [joinAll]
theorem joinOf_length (f : List Nat) (a b : Nat) : (joinOf f a b).length = f.length := by simp [joinOf]
theorem joinOf_down {f : List Nat} (h : DownTo f) (a b : Nat) : DownTo (joinOf f a b) := by
  intro i y hy
  unfold joinOf at hy
  rw [List.getElem?_set] at hy
  split at hy
  · rename_i e
    split at hy
    · simp only [Option.some.injEq] at hy
      omega
    · cases hy
  · exact h i y hy
theorem joinAll_fit {B : Nat} (f : List Nat) (hd : DownTo f) (xs : List (LnkOf B)) : (joinAll f xs).length = f.length ∧ DownTo (joinAll f xs) := by
  induction xs generalizing f with
  | nil => exact ⟨rfl, hd⟩
  | cons x xs ih =>
    have h := ih (joinOf f x.1.a.toNat x.1.b.toNat) (joinOf_down hd _ _)
    rw [joinOf_length] at h
    exact h
theorem range_down (n : Nat) : DownTo (List.range n) := by
  intro i y h
  have := List.getElem?_eq_some_iff.1 h
  obtain ⟨h1, h2⟩ := this
  simp at h2
  omega
theorem Blk.kept {W W' : World} {row : Option Nat} {b : Nat} {t : TypeId} {cs : Array Value} (h : Blk W b t cs) (hg : W.grownBy W' row) (hne : some b ≠ row) : Blk W' b t cs := (hg.block b h.lt hne).trans h
theorem blk_own {β : Type} (b : Nat) (t : TypeId) (f : β → Array Value) : Own (fun s W => Blk W b t (f s)) := fun s X Y row hs hg hrow =>
  hs.kept hg (fun e' => by obtain ⟨o, ho, hc⟩ := hrow b e'.symm; rw [show X.heap[b]? = _ from hs] at ho; cases ho; cases hc)
/-- A block that is a list of whole numbers. -/
def ints (l : List Int) : Array Value := (l.map (Value.int .i64)).toArray
def IntB (w : World) (g : Nat) (l : List Int) : Prop := Blk w g 3 (ints l)
section
variable {w w' : World} {g B : Nat} {l : List Int}
theorem IntB.lt (h : IntB w g l) : g < w.heap.size := Blk.lt h
theorem IntB.cell (h : IntB w g l) {i : Nat} {x : Int} (hx : l[i]? = some x) : w.cell? ⟨g, i, none⟩ = some (.int .i64 x) := by
  rw [Blk.cell h]
  simp [ints, hx]
theorem IntB.frozen (h : IntB w g l) (i : Nat) : w.frozen? ⟨g, i, none⟩ = false := Blk.frozen h i
theorem IntB.set_ (h : IntB w g l) (i : Nat) (x : Int) : IntB (w.setCell ⟨g, i, none⟩ (.int .i64 x)) g (l.set i x) := by
  have e : ints (l.set i x) = (ints l).setIfInBounds i (.int .i64 x) := by
    unfold ints
    rw [List.setIfInBounds_toArray, List.map_set]
  unfold IntB
  rw [e]
  exact Blk.set_ h i _
theorem IntB.rd (h : IntB w g l) (hg : g < B) : Rd w B 1 encI (some ⟨g, 0, none⟩) l.length l := by
  refine ⟨rfl, fun _ => ⟨g, 0, rfl, hg, fun i x hx j u hu => ?_⟩⟩
  unfold encI at hu
  match j, hu with
  | 0, hu =>
    simp only [List.getElem?_cons_zero, Option.some.injEq] at hu
    subst hu
    simpa using h.cell hx
end
theorem nums_zero (n : Nat) : nums (List.replicate n 0) = ints (List.replicate n 0) := by simp [nums, ints]
/-- The least bus of an island, or -1. -/
def homeAt (f : List Nat) (s : Stt) (i : Nat) : Int := if bit s.badBus i then -1 else (rootOf f i : Int)
def homeTo (f : List Nat) (s : Stt) (n k : Nat) : List Int := (List.range n).map fun i => if i < k then homeAt f s i else 0
theorem homeTo_zero (f : List Nat) (s : Stt) (n : Nat) : List.replicate n 0 = homeTo f s n 0 := by
  unfold homeTo
  apply List.ext_getElem
  · simp
  · intro i h1 h2
    simp
theorem homeTo_succ (f : List Nat) (s : Stt) (n k : Nat) : (homeTo f s n k).set k (homeAt f s k) = homeTo f s n (k + 1) := by
  unfold homeTo
  apply List.ext_getElem
  · simp
  · intro i h1 h2
    rw [List.getElem_set]
    split
    · rename_i h
      subst h
      simp
    · simp only [List.getElem_map, List.getElem_range]
      have : i < k + 1 ↔ i < k := by omega
      simp only [this]
theorem set_twice {α : Type} (l : List α) (i : Nat) (x y : α) : (l.set i x).set i y = l.set i y := by simp
/-- What homes answers. -/
def homeL {B : Nat} (p : Plt) (s : Stt) (L : List (LnkOf B)) : List Int := homeTo (joinAll (List.range B) (condTo s L p.ln)) s B B
theorem homesBlocks {w w1 : World} {g : Nat} {l : List Nat} {PC SC : Array Value} {tp ts : TypeId} (tf : TypeId) (fc : Array Value) (hB1 : Below ((w.alloc (.cells PC tp)).alloc (.cells SC ts)).heap.size ((w.alloc (.cells PC tp)).alloc (.cells SC ts)) w1) (hN : NumB w1 g l) :
    ∃ W0, (((w1.alloc (.cells fc tf)).alloc (.cells PC tp)).alloc (.cells SC ts)) = W0 ∧ W0.heap.size = w1.heap.size + 3 ∧ Below w.heap.size w W0 ∧ Blk W0 w1.heap.size tf fc ∧ Blk W0 (w1.heap.size + 1) tp PC ∧ Blk W0 (w1.heap.size + 1 + 1) ts SC ∧ Blk W0 w.heap.size tp PC ∧ Blk W0 (w.heap.size + 1) ts SC ∧ NumB W0 g l := by
  have hz := hB1.size
  simp only [World.size_alloc] at hz
  have e1 := heap_alloc_new w1 (.cells fc tf)
  have e2 := heap_alloc_new (w1.alloc (.cells fc tf)) (.cells PC tp)
  have e3 := heap_alloc_new ((w1.alloc (.cells fc tf)).alloc (.cells PC tp)) (.cells SC ts)
  have e4 := heap_alloc_new w (.cells PC tp)
  have e5 := heap_alloc_new (w.alloc (.cells PC tp)) (.cells SC ts)
  simp only [World.size_alloc] at e2 e3 e5
  have b4 : Blk w1 w.heap.size tp PC := (hB1.block _ (by simp; omega)).trans ((Below.heap_alloc _ _ _ (by simp)).trans e4)
  have b5 : Blk w1 (w.heap.size + 1) ts SC := (hB1.block _ (by simp)).trans e5
  refine ⟨_, rfl, by simp, by (repeat' (first | (with_reducible exact Below.refl _ _) | (with_reducible assumption) | (with_reducible refine below_drewN ?_ _) | (with_reducible refine below_after (by assumption) ?_ ?_) | (with_reducible refine Below.drew ?_) | (with_reducible refine Below.alloc ?_ ?_ _) | (with_reducible refine Below.setCell ?_ ?_ _) | omega | (simp; omega) | (simp; done))), Blk.alloc (Blk.alloc e1 _) _, Blk.alloc e2 _, e3, ((b4.alloc _).alloc _).alloc _, ((b5.alloc _).alloc _).alloc _, ((hN.alloc _).alloc _).alloc _⟩
set_option maxRecDepth 100000 in
set_option maxHeartbeats 4000000 in
theorem homes_any (p : Plt) (s : Stt) (B : Nat) (w : World) (L : List (LnkOf B)) (hL : p.lnks = L.map (·.1)) (hB : p.buses = B) (hB24 : B ≤ 24) (hlen : Lens p s B) (hp : PltIn w w.heap.size p) (hs : SttIn w w.heap.size s) :
    Calls Tryz.prog 90 #[p.val, s.val] w fun e w' => ∃ g, e = .returned (.slice (some ⟨g, 0, none⟩) B B) ∧ Below w.heap.size w w' ∧ w.heap.size ≤ g ∧ IntB w' g (homeL p s L) := by
  refine (callsIn_wide (n := 8)).1 ?_
  have C := Lib.hid (fun W => conducting_in Fence.wide 7 trivial rfl p s W)
  have N := Lib.hid (fun W => newForest_any B hB24 W)
  have HP := Lib.hid hp
  have HS := Lib.hid hs
  clear hp hs
  unfold Plt.val Stt.val at C ⊢
  rw [hB] at C ⊢
  refine callsIn_of_wp_marks Tryz.func90 rfl trivial ?_ rfl
  simp only [Tryz.ntmps90, List.size_toArray, List.length_cons, List.length_nil, Nat.reduceAdd, Nat.reduceSub, Array.replicate_succ, Array.replicate_zero, List.push_toArray, List.append_toArray, List.nil_append, List.cons_append]
  gi_wp2_with fail
  refine ⟨trivial, ?_⟩
  refine (callsIn_wide.2 (N.out _)).mono ?_
  rintro e w1 ⟨g, rfl, hB1, hg1, hN1⟩
  have hz1 := hB1.size
  simp only [World.size_alloc] at hz1 hg1
  obtain ⟨hc1, hf1⟩ := bcell hB1
  have zg := hN1.lt
  have HN := Lib.hid hN1
  have y0 : w.heap.size < w1.heap.size := by omega
  have y1 : w.heap.size + 1 < w1.heap.size := by omega
  clear hN1
  gi_wp2_with fail
  refine ⟨trivial, ?_⟩
  refine (C.out _).mono ?_
  rintro e w2 ⟨rfl, rfl⟩
  clear C N
  gi_wp2
  obtain ⟨W0, hW0, hsz, hBw, bF, bp, bq, bP', bS', nB⟩ := homesBlocks 190 #[.slice (some ⟨g, 0, none⟩) B B] hB1 HN.out
  rw [hW0]
  clear hW0 hc1 hf1 hB1 HN
  have HN0 := Lib.hid nB
  have HF := Lib.hid bF
  have HP' := Lib.hid bP'
  have HS' := Lib.hid bS'
  refine wpIn_rangeFunc_ownH rfl (by omega) (gf := 147) (lb := #[.pointer (some ⟨w1.heap.size + 1, 0, none⟩), .pointer (some ⟨w1.heap.size + 1 + 1, 0, none⟩)]) rfl trivial (enters_of Tryz.func147 (by kernel_rfl) rfl)
    (cond_stops Fence.wide (8 - 1) trivial rfl (by omega) (w1.heap.size + 1) (w1.heap.size + 1 + 1) w.heap.size g B p s L hL hlen (by omega) (by omega) (by omega) W0 (by omega) (HP.out.below hBw) (HS.out.below hBw) (Blk.cell bp 2) (Blk.cell bq 0) (Blk.cell bq 2) (Blk.cell bq 6))
    (fun h k => KpG.trans h k) (fun W l o o' _ ho hc _ => KpG.putObj W l o o' ho hc) (Below.refl _ _) (fun _ => rfl)
    (fun pre W => (((Blk W w1.heap.size 190 #[.slice (some ⟨g, 0, none⟩) B B] ∧ Blk W w.heap.size 26 #[.int .i64 (B : Int), .slice p.sA p.sn p.sc, .slice p.lA p.ln p.lc, .slice p.rA p.rn p.rc]) ∧ Blk W (w.heap.size + 1) 29 #[.slice s.closed.A s.closed.n s.closed.c, .slice s.locked.A s.locked.n s.locked.c, .slice s.badLink.A s.badLink.n s.badLink.c, .slice s.on.A s.on.n s.on.c, .slice s.badSource.A s.badSource.n s.badSource.c, .slice s.earthed.A s.earthed.n s.earthed.c, .slice s.badBus.A s.badBus.n s.badBus.c]) ∧ NumB W g (joinAll (List.range B) pre)) ∧ Below w.heap.size w W)
    (fun _ _ _ => False)
    (OwnFrom.and (OwnFrom.and (OwnFrom.and (OwnFrom.and (Own.from (blk_own _ _ _) _) (Own.from (blk_own _ _ _) _)) (Own.from (blk_own _ _ _) _)) (Own.from (blk_own _ _ _) _)) (ownFrom_below (Nat.le_refl _) (by omega)))
    (fun _ _ _ _ _ hs _ _ => hs)
    ⟨⟨⟨⟨HF.out, HP'.out⟩, HS'.out⟩, HN0.out⟩, hBw⟩
    (fun x a' W => ∃ Bx, Blk W Bx 79 #[.int .i64 x.1.a, .int .i64 x.1.b, .int .i64 x.1.kind, .int .i64 x.1.most, .int .i64 x.1.ohm, .slice x.1.tA x.1.tn x.1.tc] ∧ a' = { tmps := #[Value.agg #[.int .i64 (B : Int), .slice p.sA p.sn p.sc, .slice p.lA p.ln p.lc, .slice p.rA p.rn p.rc], Value.agg #[.slice s.closed.A s.closed.n s.closed.c, .slice s.locked.A s.locked.n s.locked.c, .slice s.badLink.A s.badLink.n s.badLink.c, .slice s.on.A s.on.n s.on.c, .slice s.badSource.A s.badSource.n s.badSource.c, .slice s.earthed.A s.earthed.n s.earthed.c, .slice s.badBus.A s.badBus.n s.badBus.c], .pointer (some ⟨w.heap.size, 0, none⟩), .pointer (some ⟨w.heap.size + 1, 0, none⟩), .slice none 0 0, .pointer (some ⟨w1.heap.size, 0, none⟩), .pointer (some ⟨Bx, 0, none⟩), undef, undef, .pointer (some ⟨w.heap.size, 0, none⟩), .int .i64 (B : Int), .agg #[.slice (some ⟨g, 0, none⟩) B B], Value.agg #[.int .i64 (B : Int), .slice p.sA p.sn p.sc, .slice p.lA p.ln p.lc, .slice p.rA p.rn p.rc], Value.agg #[.slice s.closed.A s.closed.n s.closed.c, .slice s.locked.A s.locked.n s.locked.c, .slice s.badLink.A s.badLink.n s.badLink.c, .slice s.on.A s.on.n s.on.c, .slice s.badSource.A s.badSource.n s.badSource.c, .slice s.earthed.A s.earthed.n s.earthed.c, .slice s.badBus.A s.badBus.n s.badBus.c], .func (.func 147) #[] #[.pointer (some ⟨w1.heap.size + 1, 0, none⟩), .pointer (some ⟨w1.heap.size + 1 + 1, 0, none⟩)], x.1.val, undef, undef, undef, undef, undef, undef, undef, undef, undef, undef, undef, undef, undef, undef, undef, undef, undef, undef, undef, undef, undef, undef, undef, undef, undef, undef, undef, undef, undef, undef], defers := [] })
    (fun x a' _ X Y row hs hg hr => by obtain ⟨Bx, h2, h3⟩ := hs; exact ⟨Bx, blk_own Bx 79 (fun (_ : Unit) => #[.int .i64 x.1.a, .int .i64 x.1.b, .int .i64 x.1.kind, .int .i64 x.1.most, .int .i64 x.1.ohm, .slice x.1.tA x.1.tn x.1.tc]) () X Y row h2 hg (fun r e => (hr r e).2), h3⟩)
    ?assign ?body ?done ?stop
  case assign =>
    rintro l pre x W K ⟨⟨⟨⟨b1, b2⟩, b3⟩, b4⟩, b5⟩ hK
    unfold Lnk.val at hK ⊢
    gi_wp2
    exact hK _ _ ((KeepsOthers.alloc _ _).from _) (KpG.grown (World.grownBy_alloc W _ none) (by simp)) ⟨⟨⟨⟨b1.alloc _, b2.alloc _⟩, b3.alloc _⟩, b4.alloc _⟩, b5.alloc b5.size _⟩ ⟨W.heap.size, heap_alloc_new W _, rfl⟩
  case body =>
    rintro l pre ⟨x, ⟨xa0, xa1⟩, xb0, xb1⟩ a' W hl ⟨r, hr⟩ ⟨⟨⟨⟨b1, b2⟩, b3⟩, b4⟩, b5⟩ ⟨Bx, bX, rfl⟩ hlt
    dsimp only at bX ⊢
    unfold Lnk.val
    have c1 : W.cell? ⟨w1.heap.size, 0, none⟩ = some (.slice (some ⟨g, 0, none⟩) B B) := b1.cell 0
    have ca : W.cell? ⟨Bx, 0, none⟩ = some (.int .i64 x.a) := bX.cell 0
    have cb : W.cell? ⟨Bx, 1, none⟩ = some (.int .i64 x.b) := bX.cell 1
    have hfit := joinAll_fit (List.range B) (range_down B) pre
    have J := join_any g B (joinAll (List.range B) pre) x.a.toNat x.b.toNat W b4 (by simpa using hfit.1) hfit.2 (by omega) (by omega) hB24
    rw [Int.toNat_of_nonneg xa0, Int.toNat_of_nonneg xb0] at J
    have HJ := Lib.hid J
    have HB := Lib.hid (⟨⟨⟨⟨b1, b2⟩, b3⟩, b4⟩, b5⟩ : (((Blk W w1.heap.size _ _ ∧ Blk W w.heap.size _ _) ∧ Blk W (w.heap.size + 1) _ _) ∧ NumB W g (joinAll (List.range B) pre)) ∧ Below w.heap.size w W)
    clear J hr b1 b2 b3 b4 b5 bX
    gi_wp2_with fail
    refine ⟨trivial, ?_⟩
    refine (CallsIn.inRound l (callsIn_wide.2 HJ.out)).mono ?_
    rintro e w3 ⟨rfl, hgr, hN3⟩
    have HG := Lib.hid hgr
    have HN3 := Lib.hid hN3
    clear hgr hN3 HJ
    gi_wp2
    obtain ⟨⟨⟨⟨b1, b2⟩, b3⟩, b4⟩, b5⟩ := HB.out
    refine ⟨KeepsFrom.of_grownBy HG.out (fun j e => by cases e; omega), KpG.grown HG.out (fun r e => by cases e; rfl), ⟨⟨⟨b1.kept HG.out (by simp; omega), b2.kept HG.out (by simp; omega)⟩, b3.kept HG.out (by simp; omega)⟩, ?_⟩, b5.grown HG.out b5.size (fun k e => by cases e; omega)⟩
    exact Eq.mpr (congrArg (NumB w3 g) (joinAll_snoc (List.range B) pre (⟨x, ⟨xa0, xa1⟩, xb0, xb1⟩ : LnkOf B))) HN3.out
  case done =>
    rintro D ys W hD rfl ⟨⟨⟨⟨b1, b2⟩, b3⟩, b4⟩, b5⟩ hK
    have c1 : W.cell? ⟨w1.heap.size, 0, none⟩ = some (.slice (some ⟨g, 0, none⟩) B B) := b1.cell 0
    have c2 : W.cell? ⟨w.heap.size, 0, none⟩ = some (.int .i64 B) := b2.cell 0
    have c3 : W.cell? ⟨w.heap.size + 1, 6, none⟩ = some (.slice s.badBus.A s.badBus.n s.badBus.c) := b3.cell 6
    clear HN0 HF HP' HS' nB bS' bP' bq bp bF
    gi_wp2
    rw [show ∀ V, Sem.run Tryz.prog (Instr.makeSlice 56 (.int .i64 B) (.int .i64 B)) V = _ from run_makeInts B (by omega)]
    rw [nums_zero]
    gi_wp2
    have hfit := joinAll_fit (List.range B) (range_down B) (condTo s L p.ln)
    rw [List.length_range] at hfit
    generalize hf : joinAll (List.range B) (condTo s L p.ln) = f at *
    have hDW : D < W.heap.size := (Array.getElem?_eq_some_iff.1 hK).1
    have hgW : g < W.heap.size := NumB.lt b4
    have hFW : w1.heap.size < W.heap.size := Blk.lt b1
    have hwD : w.heap.size ≤ D := by omega
    gi_loopw [27] (fun i wr => ∃ k : Nat, k ≤ B ∧ i = .int .i64 k ∧ Below w.heap.size w wr ∧ W.heap.size < wr.heap.size ∧ Blk wr w1.heap.size 190 #[.slice (some ⟨g, 0, none⟩) B B] ∧ Blk wr (w.heap.size + 1) 29 #[.slice s.closed.A s.closed.n s.closed.c, .slice s.locked.A s.locked.n s.locked.c, .slice s.badLink.A s.badLink.n s.badLink.c, .slice s.on.A s.on.n s.on.c, .slice s.badSource.A s.badSource.n s.badSource.c, .slice s.earthed.A s.earthed.n s.earthed.c, .slice s.badBus.A s.badBus.n s.badBus.c] ∧ Hid (NumB wr g f ∧ IntB wr W.heap.size (homeTo f s B k) ∧ wr.heap[D]? = some (.deferred (some [])))) (fun i _ => B - (intOf i).toNat)
    case atStart =>
      refine ⟨0, by omega, rfl, b5.alloc b5.size _, by simp, b1.alloc _, b3.alloc _, b4.alloc _, ?_, (Below.heap_alloc W _ D hDW).trans hK⟩
      rw [homeTo_zero f s B]
      exact heap_alloc_new W _
    case round =>
      obtain ⟨k, hk, rfl, hB', hz', q1, q3, hq⟩ := hrel
      have d1 : wr.cell? ⟨w1.heap.size, 0, none⟩ = some (.slice (some ⟨g, 0, none⟩) B B) := q1.cell 0
      have d3 : wr.cell? ⟨w.heap.size + 1, 6, none⟩ = some (.slice s.badBus.A s.badBus.n s.badBus.c) := q3.cell 6
      have Q1 := Lib.hid q1
      have Q3 := Lib.hid q3
      clear q1 q3
      by_cases hlt : k < B
      · have R := Lib.hid (root_any (some ⟨g, 0, none⟩) B B f k wr (by have h := hq.out.1.rd hq.out.1.lt; rw [hfit.1] at h; exact h) hfit.2 hlt (by omega))
        have hk0 : (0 : Int) ≤ (k : Int) := by omega
        have hkn : (k : Int) < (B : Int) := by omega
        obtain ⟨u, cu⟩ : ∃ u : Int, wr.cell? ⟨W.heap.size, k, none⟩ = some (.int .i64 u) := ⟨_, hq.out.2.1.cell (by simp [homeTo, hlt]; rfl)⟩
        have fu := hq.out.2.1.frozen k
        gi_wp2_with fail
        refine ⟨trivial, ?_⟩
        refine (callsIn_wide.2 R.out).mono ?_
        rintro e w3 ⟨rfl, hB3⟩
        have hz3 := hB3.size
        obtain ⟨hc3, hf3⟩ := bcell hB3
        have hBt : Below w.heap.size w w3 := hB'.trans (hB3.mono hB'.size)
        have cu3 := (hc3 W.heap.size k hz').trans cu
        have fu3 := (hf3 W.heap.size k hz').trans fu
        have d33 := (hc3 (w.heap.size + 1) 6 (by omega)).trans d3
        obtain ⟨g6, o6, a6, v6, r6⟩ := (HS.out.below hBt).badBus.at_ (k := k) (by rw [hlen.badBus]; exact hlt)
        have n6 : g6 ≠ W.heap.size := by omega
        have n7 : w.heap.size + 1 ≠ W.heap.size := by omega
        have hk6 : (k : Int) < (s.badBus.n : Int) := by rw [hlen.badBus]; omega
        rw [a6] at d33
        clear a6
        have HB3 := Lib.hid hB3
        have HBt := Lib.hid hBt
        have HH := Lib.hid (((hq.out.2.1 : Blk _ _ _ _).below hB3 hz' : IntB w3 W.heap.size (homeTo f s B k)))
        clear hc3 hf3 hB3 hBt R cu fu d3
        have hz3' : W.heap.size < w3.heap.size := by omega
        by_cases q : bit s.badBus k = true
        · rw [q] at r6
          gi_wp2
          go_roundw
          case rel =>
            refine ⟨k + 1, by omega, by go_num, ((HBt.out.setCell (p := ⟨W.heap.size, k, none⟩) (by simp; omega) _).setCell (p := ⟨W.heap.size, k, none⟩) (by simp; omega) _), by simp; omega, (((Q1.out.below HB3.out (by omega)).far (p := ⟨W.heap.size, k, none⟩) (by simp; omega) _).far (p := ⟨W.heap.size, k, none⟩) (by simp; omega) _), (((Q3.out.below HB3.out (by omega)).far (p := ⟨W.heap.size, k, none⟩) (by simp; omega) _).far (p := ⟨W.heap.size, k, none⟩) (by simp; omega) _), (((hq.out.1.below HB3.out (by omega)).far (p := ⟨W.heap.size, k, none⟩) (by simp; omega) _).far (p := ⟨W.heap.size, k, none⟩) (by simp; omega) _), ?_, (Below.heap_setCell _ ⟨W.heap.size, k, none⟩ _ D (by simp; omega)).trans ((Below.heap_setCell _ ⟨W.heap.size, k, none⟩ _ D (by simp; omega)).trans ((HB3.out.block D (by omega)).trans hq.out.2.2))⟩
            rw [← homeTo_succ]
            have h := IntB.set_ (IntB.set_ HH.out k (rootOf f k : Int)) k (-1)
            rw [set_twice] at h
            rw [show homeAt f s k = -1 by simp [homeAt, q]]
            exact h
          case measure => simp [intOf]; omega
        · rw [Bool.not_eq_true] at q
          rw [q] at r6
          gi_wp2
          go_roundw
          case rel =>
            refine ⟨k + 1, by omega, by go_num, (HBt.out.setCell (p := ⟨W.heap.size, k, none⟩) (by simp; omega) _), by simp; omega, ((Q1.out.below HB3.out (by omega)).far (p := ⟨W.heap.size, k, none⟩) (by simp; omega) _), ((Q3.out.below HB3.out (by omega)).far (p := ⟨W.heap.size, k, none⟩) (by simp; omega) _), ((hq.out.1.below HB3.out (by omega)).far (p := ⟨W.heap.size, k, none⟩) (by simp; omega) _), ?_, (Below.heap_setCell _ ⟨W.heap.size, k, none⟩ _ D (by simp; omega)).trans ((HB3.out.block D (by omega)).trans hq.out.2.2)⟩
            rw [← homeTo_succ]
            have h := IntB.set_ HH.out k (rootOf f k : Int)
            skip
            rw [show homeAt f s k = (rootOf f k : Int) by simp [homeAt, q]]
            exact h
          case measure => simp [intOf]; omega
      · obtain rfl : B = k := by omega
        gi_wp2
        refine ⟨by simp, .inl ⟨_, _, rfl, run_takeDeferred hq.out.2.2, ?_⟩⟩
        refine ⟨_, results_tmp rfl _ _ _, _, rfl, hB'.trans (belowK_b (w := w) (Nat.le_refl _) wr D _ _ hwD hq.out.2.2 rfl rfl), by omega, ?_⟩
        show IntB _ _ (homeTo (joinAll (List.range B) (condTo s L p.ln)) s B B)
        rw [hf]
        exact Blk.kept hq.out.2.1 (grownBy_putObj' wr D _) (by simp; omega)
  case stop =>
    rintro D c pre W _ _ h _
    exact h.elim
end Go.Proofs.YtcnmfblbfpcghaaGreatDoor
