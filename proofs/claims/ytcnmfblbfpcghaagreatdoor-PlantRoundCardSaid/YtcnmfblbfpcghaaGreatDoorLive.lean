/- plant.feeding, plant.liveBuses. -/
import Derived.Test.YtcnmfblbfpcghaaGreatDoorFeed

set_option linter.unusedSimpArgs false
set_option linter.unusedVariables false
namespace Go.Proofs.YtcnmfblbfpcghaaGreatDoor
open Go.RowKit Go.Shelf
attribute [local go_sem] Oper.semAt_some

theorem feeding_in (F : Fence) (n : Nat) (hf : F.fn 91) (hro : F.round = none) (p : Plt) (s : Stt) (A : Option Addr) (m c : Nat) (w : World) :
    CallsIn F n Tryz.prog 91 #[p.val, s.val, .slice A m c] w fun e w' => e = .returned (.func (.func 128) #[] #[.pointer (some ⟨w.heap.size, 0, none⟩), .pointer (some ⟨w.heap.size + 1, 0, none⟩), .pointer (some ⟨w.heap.size + 1 + 1, 0, none⟩)]) ∧
      w' = ((w.alloc (.cells #[.int .i64 p.buses, .slice p.sA p.sn p.sc, .slice p.lA p.ln p.lc, .slice p.rA p.rn p.rc] 26)).alloc (.cells #[.slice s.closed.A s.closed.n s.closed.c, .slice s.locked.A s.locked.n s.locked.c, .slice s.badLink.A s.badLink.n s.badLink.c, .slice s.on.A s.on.n s.on.c, .slice s.badSource.A s.badSource.n s.badSource.c, .slice s.earthed.A s.earthed.n s.earthed.c, .slice s.badBus.A s.badBus.n s.badBus.c] 29)).alloc (.cells #[.slice A m c] 56) := by
  unfold Plt.val Stt.val
  refine callsIn_of_wp Tryz.func91 rfl hf ?_ hro
  simp only [Tryz.ntmps91, List.size_toArray, List.length_cons, List.length_nil, Nat.reduceAdd, Nat.reduceSub, Array.replicate_succ, Array.replicate_zero, List.push_toArray, List.append_toArray, List.nil_append, List.cons_append]
  gi_wp2
  go_ret
  exact ⟨rfl, rfl⟩
theorem feed_stops (F : Fence) (n : Nat) (hf : F.fn 128) (hro : F.round = none) (hn : 1 ≤ n) (Bp Bq Bh n₀ gh B : Nat) (Sf : Nat → Prop) (p : Plt) (s : Stt) (H : List Int) (hS : ∀ x ∈ p.srcs, 0 ≤ x.bus ∧ x.bus < B) (hlen : Lens p s B) (hH : Isls B H)
    (hBp : Sf Bp) (hBq : Sf Bq) (hBh : Sf Bh) (hgh : Sf gh) (hng : ∀ b, b < n₀ → Sf b) (w : World) (hw : n₀ ≤ w.heap.size) (hp : PltIn w n₀ p) (hs : SttIn w n₀ s) (cp : w.cell? ⟨Bp, 1, none⟩ = some (.slice p.sA p.sn p.sc))
    (c3 : w.cell? ⟨Bq, 3, none⟩ = some (.slice s.on.A s.on.n s.on.c)) (c4 : w.cell? ⟨Bq, 4, none⟩ = some (.slice s.badSource.A s.badSource.n s.badSource.c))
    (ch : w.cell? ⟨Bh, 0, none⟩ = some (.slice (some ⟨gh, 0, none⟩) B B)) (cH : ∀ (i : Nat) (h : Int), H[i]? = some h → w.cell? ⟨gh, i, none⟩ = some (.int .i64 h)) :
    SeqStopsK F n Tryz.prog 128 #[.pointer (some ⟨Bp, 0, none⟩), .pointer (some ⟨Bq, 0, none⟩), .pointer (some ⟨Bh, 0, none⟩)] (fun x : Nat × Fin B => #[.int .i64 (x.1 : Int), .int .i64 (x.2.val : Int)]) (KpS Sf) (fun ys => ys = feedTo s p.srcs H p.sn) (fun _ => True) p.sn w := fun l J Jx W hW hJ _ hY h0 =>
  feed1_in F n hf hro hn l Bp Bq Bh n₀ gh B Sf p s H hS hlen hH hBp hBq hBh hgh hng J Jx W hJ (fun pre x W1 _ _ => hY pre x W1) (hp.below (hW.mono hw)) (hs.below (hW.mono hw)) ((hW.cell (block_of_cell cp)).trans cp) ((hW.cell (block_of_cell c3)).trans c3) ((hW.cell (block_of_cell c4)).trans c4) ((hW.cell (block_of_cell ch)).trans ch)
    (fun i h e => (hW.cell (block_of_cell (cH i h e))).trans (cH i h e)) h0

/-- A block that is a list of bools. -/
def bools (l : List Bool) : Array Value := (l.map Value.bool).toArray
def BoolB (w : World) (g : Nat) (l : List Bool) : Prop := Blk w g 4 (bools l)
section
variable {w w' : World} {g B : Nat} {l : List Bool}
theorem BoolB.cell (h : BoolB w g l) {i : Nat} {x : Bool} (hx : l[i]? = some x) : w.cell? ⟨g, i, none⟩ = some (.bool x) := by
  rw [Blk.cell h]
  simp [bools, hx]
theorem BoolB.set_ (h : BoolB w g l) (i : Nat) (x : Bool) : BoolB (w.setCell ⟨g, i, none⟩ (.bool x)) g (l.set i x) := by
  have e : bools (l.set i x) = (bools l).setIfInBounds i (.bool x) := by
    unfold bools
    rw [List.setIfInBounds_toArray, List.map_set]
  unfold BoolB
  rw [e]
  exact Blk.set_ h i _
end
theorem bools_made (n : Nat) : Array.replicate n (Value.bool false) = bools (List.replicate n false) := by simp [bools]
/-- Which buses are the least of an island that is fed. -/
def fedOf {B : Nat} (xs : List (Nat × Fin B)) : List Bool := (List.range B).map fun i => xs.any fun x => x.2.val == i
theorem fedOf_nil (B : Nat) : List.replicate B false = fedOf (B := B) [] := by
  unfold fedOf
  apply List.ext_getElem
  · simp
  · intro i h1 h2
    simp
theorem fedOf_snoc {B : Nat} (xs : List (Nat × Fin B)) (x : Nat × Fin B) : (fedOf xs).set x.2.val true = fedOf (xs ++ [x]) := by
  unfold fedOf
  apply List.ext_getElem
  · simp
  · intro i h1 h2
    rw [List.getElem_set]
    split
    · rename_i h
      subst h
      simp
    · rename_i h
      simp [h]
theorem homeL_isls {B : Nat} (p : Plt) (s : Stt) (L : List (LnkOf B)) : Isls B (homeL p s L) := by
  refine ⟨by simp [homeL, homeTo], fun i h hi => ?_⟩
  unfold homeL homeTo at hi
  rw [List.getElem?_map, Option.map_eq_some_iff] at hi
  obtain ⟨j, hj, rfl⟩ := hi
  obtain ⟨h1, h2⟩ := List.getElem?_eq_some_iff.1 hj
  simp only [List.length_range] at h1
  simp only [List.getElem_range] at h2
  subst h2
  rw [if_pos h1]
  unfold homeAt
  split
  · exact .inl rfl
  · exact .inr ⟨⟨rootOf _ i, Nat.lt_of_le_of_lt (rootOf_le _ i) h1⟩, rfl⟩
theorem grownBy_setAt (W : World) (b i : Nat) (v : Value) : W.grownBy (W.setCell ⟨b, i, none⟩ v) (some b) :=
  ⟨rfl, rfl, rfl, (KeepsWalks.setCell W _ v).size, fun k _ hk => Below.heap_setCell _ _ _ k (fun e => hk (by rw [e]))⟩
/-- Is a bus's island fed? -/
def liveAt {B : Nat} (H : List Int) (F : List Bool) (i : Nat) : Bool := match isl B (H[i]?.getD (-1)) with | some m => F[m.val]?.getD false | none => false
def liveTo (B : Nat) (H : List Int) (F : List Bool) (k : Nat) : List Bool := (List.range B).map fun i => if i < k then liveAt (B := B) H F i else false
theorem liveTo_zero (B : Nat) (H : List Int) (F : List Bool) : List.replicate B false = liveTo B H F 0 := by
  unfold liveTo
  apply List.ext_getElem
  · simp
  · intro i h1 h2
    simp
theorem liveTo_succ (B : Nat) (H : List Int) (F : List Bool) (k : Nat) : (liveTo B H F k).set k (liveAt (B := B) H F k) = liveTo B H F (k + 1) := by
  unfold liveTo
  apply List.ext_getElem
  · simp
  · intro i h1 h2
    rw [List.getElem_set]
    split
    · rename_i h
      subst h
      simp
    · simp only [List.getElem_map, List.getElem_range]
      have : i < k + 1 ↔ i < k := by omega
      simp only [this]
/-- What liveBuses answers. -/
def liveL {B : Nat} (p : Plt) (s : Stt) (L : List (LnkOf B)) : List Bool := liveTo B (homeL p s L) (fedOf (B := B) (feedTo s p.srcs (homeL p s L) p.sn)) B
theorem liveBlocks {w w1 : World} {g : Nat} {H : List Int} {PC SC : Array Value} {tp ts : TypeId} (rT tf th : TypeId) (rc fc hc : Array Value) (hB1 : Below ((w.alloc (.cells PC tp)).alloc (.cells SC ts)).heap.size ((w.alloc (.cells PC tp)).alloc (.cells SC ts)) w1) (hN : IntB w1 g H) :
    ∃ W0, (((((w1.alloc (.cells rc rT)).alloc (.cells fc tf)).alloc (.cells PC tp)).alloc (.cells SC ts)).alloc (.cells hc th)) = W0 ∧ W0.heap.size = w1.heap.size + 5 ∧ Below w.heap.size w W0 ∧ Blk W0 w1.heap.size rT rc ∧ Blk W0 (w1.heap.size + 1) tf fc ∧ Blk W0 (w1.heap.size + 1 + 1) tp PC ∧ Blk W0 (w1.heap.size + 1 + 1 + 1) ts SC ∧ Blk W0 (w1.heap.size + 1 + 1 + 1 + 1) th hc ∧ Blk W0 w.heap.size tp PC ∧ IntB W0 g H := by
  have hz := hB1.size
  simp only [World.size_alloc] at hz
  have e0 := heap_alloc_new w1 (.cells rc rT)
  have e1 := heap_alloc_new (w1.alloc (.cells rc rT)) (.cells fc tf)
  have e2 := heap_alloc_new ((w1.alloc (.cells rc rT)).alloc (.cells fc tf)) (.cells PC tp)
  have e3 := heap_alloc_new (((w1.alloc (.cells rc rT)).alloc (.cells fc tf)).alloc (.cells PC tp)) (.cells SC ts)
  have e4 := heap_alloc_new ((((w1.alloc (.cells rc rT)).alloc (.cells fc tf)).alloc (.cells PC tp)).alloc (.cells SC ts)) (.cells hc th)
  have e5 := heap_alloc_new w (.cells PC tp)
  simp only [World.size_alloc] at e1 e2 e3 e4
  have b4 : Blk w1 w.heap.size tp PC := (hB1.block _ (by simp; omega)).trans ((Below.heap_alloc _ _ _ (by simp)).trans e5)
  refine ⟨_, rfl, by simp, by (repeat' (first | (with_reducible exact Below.refl _ _) | (with_reducible assumption) | (with_reducible refine below_drewN ?_ _) | (with_reducible refine below_after (by assumption) ?_ ?_) | (with_reducible refine Below.drew ?_) | (with_reducible refine Below.alloc ?_ ?_ _) | (with_reducible refine Below.setCell ?_ ?_ _) | omega | (simp; omega) | (simp; done))), (((Blk.alloc e0 _).alloc _).alloc _).alloc _, ((Blk.alloc e1 _).alloc _).alloc _, (Blk.alloc e2 _).alloc _, Blk.alloc e3 _, e4, ((((b4.alloc _).alloc _).alloc _).alloc _).alloc _, ((((Blk.alloc hN _).alloc _).alloc _).alloc _).alloc _⟩
set_option maxRecDepth 100000 in
set_option maxHeartbeats 4000000 in
theorem liveBuses_any (p : Plt) (s : Stt) (B : Nat) (w : World) (L : List (LnkOf B)) (hL : p.lnks = L.map (·.1)) (hS : ∀ x ∈ p.srcs, 0 ≤ x.bus ∧ x.bus < B) (hB : p.buses = B) (hB24 : B ≤ 24) (hlen : Lens p s B) (hp : PltIn w w.heap.size p) (hs : SttIn w w.heap.size s) :
    Calls Tryz.prog 97 #[p.val, s.val] w fun e w' => ∃ g, e = .returned (.slice (some ⟨g, 0, none⟩) B B) ∧ Below w.heap.size w w' ∧ w.heap.size ≤ g ∧ BoolB w' g (liveL p s L) := by
  refine (callsIn_wide (n := 9)).1 ?_
  have C := Lib.hid (fun A m c W => feeding_in Fence.wide 8 trivial rfl p s A m c W)
  have N := Lib.hid (fun W hp hs => homes_any p s B W L hL hB hB24 hlen hp hs)
  have HP := Lib.hid hp
  have HS := Lib.hid hs
  have HI := Lib.hid (homeL_isls p s L)
  unfold liveL
  generalize homeL p s L = H at HI N ⊢
  clear hp hs
  unfold Plt.val Stt.val at C N ⊢
  rw [hB] at C N ⊢
  refine callsIn_of_wp_marks Tryz.func97 rfl trivial ?_ rfl
  simp only [Tryz.ntmps97, List.size_toArray, List.length_cons, List.length_nil, Nat.reduceAdd, Nat.reduceSub, Array.replicate_succ, Array.replicate_zero, List.push_toArray, List.append_toArray, List.nil_append, List.cons_append]
  gi_wp2_with fail
  refine ⟨trivial, ?_⟩
  refine (callsIn_wide.2 (N.out _ (HP.out.next (by (repeat' (first | (with_reducible exact Below.refl _ _) | (with_reducible assumption) | (with_reducible refine below_drewN ?_ _) | (with_reducible refine below_after (by assumption) ?_ ?_) | (with_reducible refine Below.drew ?_) | (with_reducible refine Below.alloc ?_ ?_ _) | (with_reducible refine Below.setCell ?_ ?_ _) | omega | (simp; omega) | (simp; done))))) (HS.out.next (by (repeat' (first | (with_reducible exact Below.refl _ _) | (with_reducible assumption) | (with_reducible refine below_drewN ?_ _) | (with_reducible refine below_after (by assumption) ?_ ?_) | (with_reducible refine Below.drew ?_) | (with_reducible refine Below.alloc ?_ ?_ _) | (with_reducible refine Below.setCell ?_ ?_ _) | omega | (simp; omega) | (simp; done))))))).mono ?_
  rintro e w1 ⟨g, rfl, hB1, hg1, hN1⟩
  have hz1 := hB1.size
  simp only [World.size_alloc] at hz1 hg1
  obtain ⟨hc1, hf1⟩ := bcell hB1
  have zg := hN1.lt
  have HN := Lib.hid hN1
  have y0 : w.heap.size < w1.heap.size := by omega
  have y1 : w.heap.size + 1 < w1.heap.size := by omega
  clear hN1
  gi_wp2
  rw [show ∀ V, Sem.run Tryz.prog (Instr.makeSlice 27 (.int .i64 B) (.int .i64 B)) V = _ from run_makeBools B (by omega), bools_made]
  gi_wp2_with fail
  refine ⟨trivial, ?_⟩
  refine (C.out _ _ _ _).mono ?_
  rintro e w2 ⟨rfl, rfl⟩
  clear C N
  gi_wp2
  obtain ⟨W0, hW0, hsz, hBw, bR, bF, bp, bq, bh, bP', nB⟩ := liveBlocks 4 27 56 (bools (List.replicate B false)) #[.slice (some ⟨w1.heap.size, 0, none⟩) B B] #[.slice (some ⟨g, 0, none⟩) B B] hB1 HN.out
  rw [hW0]
  clear hW0 hc1 hf1 hB1 HN
  rw [fedOf_nil] at bR
  have HR := Lib.hid bR
  have HN0 := Lib.hid nB
  have HF := Lib.hid bF
  have HP' := Lib.hid bP'
  refine wpIn_rangeFunc_ownG rfl (by omega) (gf := 128) (lb := #[.pointer (some ⟨w1.heap.size + 1 + 1, 0, none⟩), .pointer (some ⟨w1.heap.size + 1 + 1 + 1, 0, none⟩), .pointer (some ⟨w1.heap.size + 1 + 1 + 1 + 1, 0, none⟩)]) rfl trivial (enters_of Tryz.func128 (by kernel_rfl) rfl)
    (feed_stops Fence.wide (9 - 1) trivial rfl (by omega) (w1.heap.size + 1 + 1) (w1.heap.size + 1 + 1 + 1) (w1.heap.size + 1 + 1 + 1 + 1) w.heap.size g B (fun b => b ≠ w1.heap.size) p s H hS hlen HI.out (by omega) (by omega) (by omega) (by omega) (fun b hb => by omega) W0 (by omega) (HP.out.below hBw) (HS.out.below hBw) (Blk.cell bp 1) (Blk.cell bq 3) (Blk.cell bq 4) (Blk.cell bh 0) (fun i h e => IntB.cell nB e))
    (fun h k => KpS.trans h k) (fun W l o o' _ ho hc _ => KpS.putObj W l o o' ho hc) (Below.refl _ _) (fun _ => rfl)
    (fun pre W => (((Blk W (w1.heap.size + 1) 27 #[.slice (some ⟨w1.heap.size, 0, none⟩) B B] ∧ Blk W w.heap.size 26 #[.int .i64 (B : Int), .slice p.sA p.sn p.sc, .slice p.lA p.ln p.lc, .slice p.rA p.rn p.rc]) ∧ IntB W g H) ∧ BoolB W w1.heap.size (fedOf pre)) ∧ Below w.heap.size w W)
    (fun _ _ _ => False)
    (OwnFrom.and (OwnFrom.and (OwnFrom.and (OwnFrom.and (Own.from (blk_own _ _ _) _) (Own.from (blk_own _ _ _) _)) (Own.from (blk_own _ _ (fun _ => ints H)) _)) (Own.from (blk_own _ _ (fun pre => bools (fedOf pre))) _)) (ownFrom_below (Nat.le_refl _) (by omega)))
    (fun _ _ _ _ _ hs _ _ => hs)
    ⟨⟨⟨⟨HF.out, HP'.out⟩, HN0.out⟩, HR.out⟩, hBw⟩
    (fun x => { tmps := #[Value.agg #[.int .i64 (B : Int), .slice p.sA p.sn p.sc, .slice p.lA p.ln p.lc, .slice p.rA p.rn p.rc], Value.agg #[.slice s.closed.A s.closed.n s.closed.c, .slice s.locked.A s.locked.n s.locked.c, .slice s.badLink.A s.badLink.n s.badLink.c, .slice s.on.A s.on.n s.on.c, .slice s.badSource.A s.badSource.n s.badSource.c, .slice s.earthed.A s.earthed.n s.earthed.c, .slice s.badBus.A s.badBus.n s.badBus.c], .pointer (some ⟨w.heap.size, 0, none⟩), .pointer (some ⟨w.heap.size + 1, 0, none⟩), .slice none 0 0, .slice (some ⟨g, 0, none⟩) B B, .pointer (some ⟨w1.heap.size + 1, 0, none⟩), undef, .int .i64 (x.2.val : Int), undef, undef, undef, Value.agg #[.int .i64 (B : Int), .slice p.sA p.sn p.sc, .slice p.lA p.ln p.lc, .slice p.rA p.rn p.rc], Value.agg #[.slice s.closed.A s.closed.n s.closed.c, .slice s.locked.A s.locked.n s.locked.c, .slice s.badLink.A s.badLink.n s.badLink.c, .slice s.on.A s.on.n s.on.c, .slice s.badSource.A s.badSource.n s.badSource.c, .slice s.earthed.A s.earthed.n s.earthed.c, .slice s.badBus.A s.badBus.n s.badBus.c], .slice (some ⟨g, 0, none⟩) B B, .pointer (some ⟨w.heap.size, 0, none⟩), .int .i64 (B : Int), .slice (some ⟨w1.heap.size, 0, none⟩) B B, Value.agg #[.int .i64 (B : Int), .slice p.sA p.sn p.sc, .slice p.lA p.ln p.lc, .slice p.rA p.rn p.rc], Value.agg #[.slice s.closed.A s.closed.n s.closed.c, .slice s.locked.A s.locked.n s.locked.c, .slice s.badLink.A s.badLink.n s.badLink.c, .slice s.on.A s.on.n s.on.c, .slice s.badSource.A s.badSource.n s.badSource.c, .slice s.earthed.A s.earthed.n s.earthed.c, .slice s.badBus.A s.badBus.n s.badBus.c], .slice (some ⟨g, 0, none⟩) B B, .func (.func 128) #[] #[.pointer (some ⟨w1.heap.size + 1 + 1, 0, none⟩), .pointer (some ⟨w1.heap.size + 1 + 1 + 1, 0, none⟩), .pointer (some ⟨w1.heap.size + 1 + 1 + 1 + 1, 0, none⟩)], .int .i64 (x.1 : Int), .int .i64 (x.2.val : Int), undef, undef, undef, undef, undef, undef, undef, undef, undef, undef, undef, undef, undef, undef, undef, undef, undef, undef, undef, undef, undef, undef, undef, undef, undef, undef], defers := [] })
    ?assign ?body ?done ?stop
  case assign =>
    rintro l x W K hK
    gi_wp2
    exact hK
  case body =>
    rintro l pre x W ⟨⟨⟨⟨b1, b2⟩, b3⟩, b4⟩, b5⟩ hlt
    have c1 : W.cell? ⟨w1.heap.size + 1, 0, none⟩ = some (.slice (some ⟨w1.heap.size, 0, none⟩) B B) := b1.cell 0
    have hx := x.2.isLt
    obtain ⟨u, cu⟩ : ∃ u : Bool, W.cell? ⟨w1.heap.size, x.2.val, none⟩ = some (.bool u) := ⟨_, BoolB.cell b4 (by simp [fedOf]; rfl)⟩
    have fu := Blk.frozen b4 x.2.val
    have hx0 : (0 : Int) ≤ (x.2.val : Int) := by omega
    have hxB : (x.2.val : Int) < (B : Int) := by omega
    have HB := Lib.hid (⟨⟨⟨⟨b1, b2⟩, b3⟩, b4⟩, b5⟩ : (((Blk W (w1.heap.size + 1) _ _ ∧ Blk W w.heap.size _ _) ∧ IntB W g H) ∧ BoolB W w1.heap.size (fedOf pre)) ∧ Below w.heap.size w W)
    clear b1 b2 b3 b4 b5
    gi_wp2
    obtain ⟨⟨⟨⟨b1, b2⟩, b3⟩, b4⟩, b5⟩ := HB.out
    have G := grownBy_setAt W w1.heap.size x.2.val (.bool true)
    refine ⟨(KeepsOthers.setCell _ _ _).from _, KpS.grown G (fun r e => by cases e; simp), ⟨⟨⟨b1.kept G (by simp), b2.kept G (by simp; omega)⟩, Blk.kept b3 G (by simp; omega)⟩, ?_⟩, b5.grown G b5.size (fun k e => by cases e; omega)⟩
    rw [← fedOf_snoc]
    exact BoolB.set_ b4 _ _
  case done =>
    rintro D ys W hD rfl ⟨⟨⟨⟨b1, b2⟩, b3⟩, b4⟩, b5⟩ hK
    have c1 : W.cell? ⟨w1.heap.size + 1, 0, none⟩ = some (.slice (some ⟨w1.heap.size, 0, none⟩) B B) := b1.cell 0
    have c2 : W.cell? ⟨w.heap.size, 0, none⟩ = some (.int .i64 B) := b2.cell 0
    clear HN0 HF HP' HR nB bP' bq bp bF bR bh
    have hDW : D < W.heap.size := (Array.getElem?_eq_some_iff.1 hK).1
    have hgW : g < W.heap.size := IntB.lt b3
    have hFW : w1.heap.size + 1 < W.heap.size := Blk.lt b1
    have hwD : w.heap.size ≤ D := by omega
    generalize hf : fedOf (B := B) (feedTo s p.srcs H p.sn) = f at *
    have hfl : f.length = B := by rw [← hf]; simp [fedOf]
    gi_wp2
    rw [show ∀ V, Sem.run Tryz.prog (Instr.makeSlice 27 (.int .i64 B) (.int .i64 B)) V = _ from run_makeBools B (by omega), bools_made]
    gi_wp2
    gi_loopw [32] (fun i wr => ∃ k : Nat, k ≤ B ∧ i = .int .i64 k ∧ Below w.heap.size w wr ∧ W.heap.size < wr.heap.size ∧ Blk wr (w1.heap.size + 1) 27 #[.slice (some ⟨w1.heap.size, 0, none⟩) B B] ∧ Hid (IntB wr g H ∧ BoolB wr w1.heap.size f ∧ BoolB wr W.heap.size (liveTo B H f k) ∧ wr.heap[D]? = some (.deferred (some [])))) (fun i _ => B - (intOf i).toNat)
    case atStart =>
      refine ⟨0, by omega, rfl, b5.alloc b5.size _, by simp, b1.alloc _, Blk.alloc b3 _, Blk.alloc b4 _, ?_, (Below.heap_alloc W _ D hDW).trans hK⟩
      rw [← liveTo_zero]
      exact heap_alloc_new W _
    case round =>
      obtain ⟨k, hk, rfl, hB', hz', q1, hq⟩ := hrel
      have d1 : wr.cell? ⟨w1.heap.size + 1, 0, none⟩ = some (.slice (some ⟨w1.heap.size, 0, none⟩) B B) := q1.cell 0
      have Q1 := Lib.hid q1
      clear q1
      by_cases hlt : k < B
      · have hk0 : (0 : Int) ≤ (k : Int) := by omega
        have hkn : (k : Int) < (B : Int) := by omega
        have hkH : k < H.length := by rw [HI.out.1]; exact hlt
        obtain ⟨h, hh⟩ : ∃ h, H[k]? = some h := ⟨_, List.getElem?_eq_getElem hkH⟩
        have ch := IntB.cell hq.out.1 hh
        obtain ⟨u, cu⟩ : ∃ u : Bool, wr.cell? ⟨W.heap.size, k, none⟩ = some (.bool u) := ⟨_, BoolB.cell hq.out.2.2.1 (by simp [liveTo, hlt]; rfl)⟩
        have fu := Blk.frozen hq.out.2.2.1 k
        have G := Lib.hid (grownBy_setAt wr W.heap.size k)
        have HH := Lib.hid hh
        have fin : Hid (∀ b : Bool, liveAt (B := B) H f k = b → Below w.heap.size w (wr.setCell ⟨W.heap.size, k, none⟩ (.bool b)) ∧ W.heap.size < (wr.setCell ⟨W.heap.size, k, none⟩ (.bool b)).heap.size ∧ Blk (wr.setCell ⟨W.heap.size, k, none⟩ (.bool b)) (w1.heap.size + 1) 27 #[.slice (some ⟨w1.heap.size, 0, none⟩) B B] ∧ Hid (IntB (wr.setCell ⟨W.heap.size, k, none⟩ (.bool b)) g H ∧ BoolB (wr.setCell ⟨W.heap.size, k, none⟩ (.bool b)) w1.heap.size f ∧ BoolB (wr.setCell ⟨W.heap.size, k, none⟩ (.bool b)) W.heap.size (liveTo B H f (k + 1)) ∧ (wr.setCell ⟨W.heap.size, k, none⟩ (.bool b)).heap[D]? = some (.deferred (some [])))) := by
          intro b e
          have G1 := G.out (.bool b)
          refine ⟨hB'.grown G1 hB'.size (fun j e => by cases e; omega), Nat.lt_of_lt_of_le hz' G1.size, Q1.out.kept G1 (by simp; omega), Blk.kept hq.out.1 G1 (by simp; omega), Blk.kept hq.out.2.1 G1 (by simp; omega), ?_, (G1.block D (by omega) (by simp; omega)).trans hq.out.2.2.2⟩
          rw [← liveTo_succ, e]
          exact BoolB.set_ hq.out.2.2.1 _ _
        rcases HI.out.2 _ _ hh with rfl | ⟨m, rfl⟩
        · clear hh
          gi_wp2
          go_roundw
          case rel => exact ⟨k + 1, by omega, by go_num, fin.out false (by simp [liveAt, HH.out, isl_none])⟩
          case measure => simp [intOf]; omega
        · obtain ⟨v, hv⟩ : ∃ v, f[m.val]? = some v := ⟨_, List.getElem?_eq_getElem (by rw [hfl]; exact m.isLt)⟩
          have cv := BoolB.cell hq.out.2.1 hv
          have hm0 : ((m.val : Int) = -1) = False := by simp
          have hmB : (m.val : Int) < (B : Int) := by have := m.isLt; omega
          have HV := Lib.hid hv
          clear hh hv
          gi_wp2
          go_roundw
          case rel => exact ⟨k + 1, by omega, by go_num, fin.out v (by simp [liveAt, HH.out, isl_some, HV.out])⟩
          case measure => simp [intOf]; omega
      · obtain rfl : B = k := by omega
        gi_wp2
        refine ⟨by simp, .inl ⟨_, _, rfl, run_takeDeferred hq.out.2.2.2, ?_⟩⟩
        refine ⟨_, results_tmp rfl _ _ _, _, rfl, hB'.trans (belowK_b (w := w) (Nat.le_refl _) wr D _ _ hwD hq.out.2.2.2 rfl rfl), by omega, ?_⟩
        rw [hf]
        exact Blk.kept hq.out.2.2.1 (grownBy_putObj' wr D _) (by simp; omega)
  case stop =>
    rintro D c pre W _ _ h _
    exact h.elim
end Go.Proofs.YtcnmfblbfpcghaaGreatDoor

/- plant.Live; what a valid plant and state are. -/
namespace Go.Proofs.YtcnmfblbfpcghaaGreatDoor
open Go.RowKit Go.Shelf

/-- A valid plant and state, in numbers. -/
structure Sound (p : Plt) (s : Stt) (B : Nat) (L : List (LnkOf B)) : Prop where
  buses : p.buses = B
  pos : 1 ≤ B
  small : B ≤ 24
  lnks : p.lnks = L.map (·.1)
  srcs : ∀ x ∈ p.srcs, 0 ≤ x.bus ∧ x.bus < B
  lens : Lens p s B
theorem attach_of {B : Nat} (l : List Lnk) (h : ∀ x ∈ l, (0 ≤ x.a ∧ x.a < B) ∧ 0 ≤ x.b ∧ x.b < B) : ∃ L : List (LnkOf B), l = L.map (·.1) := by
  induction l with
  | nil => exact ⟨[], rfl⟩
  | cons x l ih =>
    obtain ⟨L, e⟩ := ih (fun y hy => h y (List.mem_cons_of_mem _ hy))
    exact ⟨⟨x, h x (List.mem_cons_self ..)⟩ :: L, congrArg (x :: ·) e⟩
theorem sound_of {p : Plt} {s : Stt} (h : checkState p s = 0) : ∃ (B : Nat) (L : List (LnkOf B)), Sound p s B L := by
  unfold checkState at h
  split at h
  · rename_i hc
    split at h
    · rename_i ho
      obtain ⟨B, hB, h1, h24⟩ := check_buses hc
      have hall : srcsOk p = true ∧ lnksOk p = true := by
        unfold check at hc
        repeat' split at hc
        all_goals first | exact ⟨by assumption, by assumption⟩ | cases hc
      have hsrc : ∀ x ∈ p.srcs, 0 ≤ x.bus ∧ x.bus < B := by
        intro x hx
        have h2 := hall.1
        unfold srcsOk at h2
        simp only [Bool.and_eq_true, List.all_eq_true] at h2
        have h3 := h2.2 x hx
        unfold srcOk isBus at h3
        simp only [Bool.and_eq_true, decide_eq_true_eq, hB] at h3
        omega
      have hlnk : ∀ x ∈ p.lnks, (0 ≤ x.a ∧ x.a < B) ∧ 0 ≤ x.b ∧ x.b < B := by
        intro x hx
        have h2 := hall.2
        unfold lnksOk at h2
        simp only [Bool.and_eq_true, List.all_eq_true] at h2
        have h3 := h2.2 x hx
        unfold lnkOk isBus at h3
        simp only [Bool.and_eq_true, decide_eq_true_eq, hB] at h3
        omega
      obtain ⟨L, hL⟩ := attach_of p.lnks hlnk
      refine ⟨B, L, hB, h1, h24, hL, hsrc, ?_⟩
      unfold stateOk linkLists sourceLists busLists at ho
      simp at ho
      rw [hB] at ho
      constructor <;> omega
    · cases h
  · contradiction
end Go.Proofs.YtcnmfblbfpcghaaGreatDoor
