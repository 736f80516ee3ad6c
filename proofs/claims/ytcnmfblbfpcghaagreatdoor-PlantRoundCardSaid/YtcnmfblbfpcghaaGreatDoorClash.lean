/- plant.Clashes. -/
import Derived.Test.YtcnmfblbfpcghaaGreatDoorPairs
import Derived.Test.YtcnmfblbfpcghaaGreatDoorParts
import Derived.Test.YtcnmfblbfpcghaaGreatDoorRound
import Derived.Maps.OwnIn
import Derived.RangeFuncNested

set_option linter.unusedSimpArgs false
set_option linter.unusedVariables false
namespace Go.Proofs.YtcnmfblbfpcghaaGreatDoor
open Go.RowKit Go.Shelf
attribute [local go_sem] Oper.semAt_some

/-- Do two sources that feed clash? -/
def clashB {B : Nat} (S : List Src) (x y : Nat × Fin B) : Bool := decide (x.1 < y.1) && decide (x.2 = y.2) && match S[x.1]?, S[y.1]? with | some u, some v => !syncd u v | _, _ => false
def clashAt {B : Nat} (S : List Src) (x y : Nat × Fin B) : List (Int × Int) := if clashB S x y then [((x.1 : Int), (y.1 : Int))] else []
def clashRow {B : Nat} (S : List Src) (x : Nat × Fin B) (ys : List (Nat × Fin B)) : List (Int × Int) := ys.flatMap (clashAt S x)
def clashOf {B : Nat} (S : List Src) (ys xs : List (Nat × Fin B)) : List (Int × Int) := xs.flatMap fun x => clashRow S x ys
theorem clashRow_snoc {B : Nat} (S : List Src) (x y : Nat × Fin B) (ys : List (Nat × Fin B)) : clashRow S x (ys ++ [y]) = clashRow S x ys ++ clashAt S x y := by simp [clashRow]
theorem clashOf_snoc {B : Nat} (S : List Src) (x : Nat × Fin B) (ys xs : List (Nat × Fin B)) : clashOf S ys (xs ++ [x]) = clashOf S ys xs ++ clashRow S x ys := by simp [clashOf]
theorem clashAt_length {B : Nat} (S : List Src) (x y : Nat × Fin B) : (clashAt S x y).length ≤ 1 := by
  unfold clashAt
  split <;> simp
theorem clashRow_length {B : Nat} (S : List Src) (x : Nat × Fin B) (ys : List (Nat × Fin B)) : (clashRow S x ys).length ≤ ys.length := by
  induction ys with
  | nil => simp [clashRow]
  | cons y ys ih =>
    have := clashAt_length S x y
    simp only [clashRow, List.flatMap_cons, List.length_append, List.length_cons] at ih ⊢
    omega
theorem clashOf_length {B : Nat} (S : List Src) (ys xs : List (Nat × Fin B)) : (clashOf S ys xs).length ≤ xs.length * ys.length := by
  induction xs with
  | nil => simp [clashOf]
  | cons x xs ih =>
    have := clashRow_length S x ys
    simp only [clashOf, List.flatMap_cons, List.length_append, List.length_cons] at ih ⊢
    rw [Nat.succ_mul]
    omega
/-- What Clashes answers. -/
def clashL {B : Nat} (p : Plt) (s : Stt) (L : List (LnkOf B)) : List (Int × Int) := clashOf p.srcs (feedTo (B := B) s p.srcs (homeL p s L) p.sn) (feedTo (B := B) s p.srcs (homeL p s L) p.sn)
def pairCells (l : List (Int × Int)) : List Value := l.flatMap encP
theorem pairCells_append (l m : List (Int × Int)) : pairCells (l ++ m) = pairCells l ++ pairCells m := by simp [pairCells]
theorem pairInfo : (Tryz.prog.info? 86).map (fun i => (i.zero, i.size, i.bytes)) = some (some (.agg #[.int .i64 0, .int .i64 0]), 2, 16) := by kernel_rfl
theorem clashBlocks {w w1 : World} {g : Nat} {H : List Int} {PC SC : Array Value} {tp ts : TypeId} (rT tf th : TypeId) (rc fc hc : Array Value) (hB1 : Below ((w.alloc (.cells PC tp)).alloc (.cells SC ts)).heap.size ((w.alloc (.cells PC tp)).alloc (.cells SC ts)) w1) (hN : IntB w1 g H) :
    ∃ W0, (((((w1.alloc (.cells rc rT)).alloc (.cells fc tf)).alloc (.cells PC tp)).alloc (.cells SC ts)).alloc (.cells hc th)) = W0 ∧ W0.heap.size = w1.heap.size + 5 ∧ Below w.heap.size w W0 ∧ Blk W0 w1.heap.size rT rc ∧ Blk W0 (w1.heap.size + 1) tf fc ∧ Blk W0 (w1.heap.size + 1 + 1) tp PC ∧ Blk W0 (w1.heap.size + 1 + 1 + 1) ts SC ∧ Blk W0 (w1.heap.size + 1 + 1 + 1 + 1) th hc ∧ Blk W0 w.heap.size tp PC ∧ Blk W0 (w.heap.size + 1) ts SC ∧ IntB W0 g H := by
  have hz := hB1.size
  simp only [World.size_alloc] at hz
  have e0 := heap_alloc_new w1 (.cells rc rT)
  have e1 := heap_alloc_new (w1.alloc (.cells rc rT)) (.cells fc tf)
  have e2 := heap_alloc_new ((w1.alloc (.cells rc rT)).alloc (.cells fc tf)) (.cells PC tp)
  have e3 := heap_alloc_new (((w1.alloc (.cells rc rT)).alloc (.cells fc tf)).alloc (.cells PC tp)) (.cells SC ts)
  have e4 := heap_alloc_new ((((w1.alloc (.cells rc rT)).alloc (.cells fc tf)).alloc (.cells PC tp)).alloc (.cells SC ts)) (.cells hc th)
  have e5 := heap_alloc_new w (.cells PC tp)
  have e6 := heap_alloc_new (w.alloc (.cells PC tp)) (.cells SC ts)
  simp only [World.size_alloc] at e1 e2 e3 e4 e6
  have b4 : Blk w1 w.heap.size tp PC := (hB1.block _ (by simp; omega)).trans ((Below.heap_alloc _ _ _ (by simp)).trans e5)
  have b5 : Blk w1 (w.heap.size + 1) ts SC := (hB1.block _ (by simp)).trans e6
  refine ⟨_, rfl, by simp, by (repeat' (first | (with_reducible exact Below.refl _ _) | (with_reducible assumption) | (with_reducible refine below_drewN ?_ _) | (with_reducible refine below_after (by assumption) ?_ ?_) | (with_reducible refine Below.drew ?_) | (with_reducible refine Below.alloc ?_ ?_ _) | (with_reducible refine Below.setCell ?_ ?_ _) | omega | (simp; omega) | (simp; done))), (((Blk.alloc e0 _).alloc _).alloc _).alloc _, ((Blk.alloc e1 _).alloc _).alloc _, (Blk.alloc e2 _).alloc _, Blk.alloc e3 _, e4, ((((b4.alloc _).alloc _).alloc _).alloc _).alloc _, ((((b5.alloc _).alloc _).alloc _).alloc _).alloc _, ((((Blk.alloc hN _).alloc _).alloc _).alloc _).alloc _⟩
/-- What lies below a row, and what is of another type, is no part of the row. -/
theorem own_ge {W : World} {n₀ i : Nat} {e : TypeId} {size k : Nat} {v : Value} {xs : List Value} (h : W.ownsRow n₀ e size v k xs) (hi : i < n₀) : some i ≠ v.ownBlock := by
  intro eg
  rcases h.2 with ⟨rfl, _⟩ | ⟨g', cap, cur, rfl, hb, _, _⟩
  · simp [Value.ownBlock] at eg
  · obtain rfl : i = g' := by simpa [Value.ownBlock] using eg
    omega
theorem own_ne {W : World} {n₀ i : Nat} {e T : TypeId} {size k : Nat} {v : Value} {xs : List Value} {cs : Array Value} (h : W.ownsRow n₀ e size v k xs) (hb : Blk W i T cs) (hT : T ≠ e) : some i ≠ v.ownBlock := by
  intro eg
  rcases h.2 with ⟨rfl, _⟩ | ⟨g', cap, cur, rfl, _, hg, _⟩
  · simp [Value.ownBlock] at eg
  · obtain rfl : i = g' := by simpa [Value.ownBlock] using eg
    have h1 := hb.symm.trans hg
    simp only [Option.some.injEq, Obj.cells.injEq] at h1
    exact hT h1.2.1
/-- Behind the append to a boxed slice, and the store into the box. -/
theorem Boxed.appended2 {W w1 : World} {n₀ b B : Nat} {t e : TypeId} {size : Nat} {v v' : Value} {k m : Nat} {xs ys : List Value} {tmp : Obj}
    (hv : Boxed W B t v) (hte : t ≠ e) (hrow : W.ownsRow n₀ e size v k xs) (hn₀ : n₀ ≤ W.heap.size) (hB : B < n₀) (hbB : b ≤ B)
    (hown' : w1.ownsRow n₀ e size v' m ys) (hgrow : (W.alloc tmp).grownBy w1 v.ownBlock) :
    Boxed w1 B t v ∧ Boxed (w1.setCell ⟨B, 0, none⟩ v') B t v' ∧ (w1.setCell ⟨B, 0, none⟩ v').ownsRow n₀ e size v' m ys ∧ KeepsOthers W (w1.setCell ⟨B, 0, none⟩ v') ∧ Below b W (w1.setCell ⟨B, 0, none⟩ v') ∧
    (∀ Sf : Nat → Prop, (∀ i, Sf i → i ≠ B ∧ some i ≠ v.ownBlock) → KpS Sf W (w1.setCell ⟨B, 0, none⟩ v')) ∧
    (∀ i T cs, i ≠ B → some i ≠ v.ownBlock → Blk W i T cs → Blk (w1.setCell ⟨B, 0, none⟩ v') i T cs) := by
  have hbw : B ≤ W.heap.size := by omega
  have h := Boxed.appended (tmp := tmp) hv hte (hrow.mono_base (base' := B) (by omega)) hbw (Nat.le_refl _) (hown'.mono_base (base' := B) (by omega)) hgrow
  refine ⟨h.1, h.2.1, ?_, h.2.2.2.1, h.2.2.2.2.mono hbB, ?_, ?_⟩
  · exact hown'.kept (grownBy_setCell' w1 B v') (.inr (h.1.not_row hte hown').symm)
  · intro Sf hS
    refine ((KpS.grown (World.grownBy_alloc W tmp none) (by simp)).trans (KpS.grown hgrow (fun r er hr => ?_))).trans (KpS.grown (grownBy_setCell' w1 B v') (fun r er hr => ?_))
    · exact (hS r hr).2 er.symm
    · cases er
      exact (hS _ hr).1 rfl
  · intro i T cs hi hin hb
    have h1 : Blk (W.alloc tmp) i T cs := hb.alloc tmp
    have h2 : Blk w1 i T cs := h1.kept hgrow hin
    exact h2.kept (grownBy_setCell' w1 B v') (by simp; omega)
theorem KpS.own {β : Type} (Sf : Nat → Prop) (W : World) (n : Nat) : OwnFrom n (fun (_ : β) X => KpS Sf W X) := fun _ _ _ _ hs hg hr =>
  ⟨Nat.le_trans hs.1 hg.size, fun p v hp e => cell_kept (hs.2 p v hp e) hg (fun r e => (hr r e).2)⟩
/-- A source that is there, with a bus. -/
def FdOf (n B : Nat) (H : List Int) : Type := { x : Nat × Fin B // x.1 < n ∧ ∃ i : Nat, H[i]? = some (x.2.val : Int) }
def fdVals {n B : Nat} {H : List Int} (pre : List (FdOf n B H)) : List (Nat × Fin B) := pre.map (·.1)
theorem fdVals_snoc {n B : Nat} {H : List Int} (pre : List (FdOf n B H)) (x : FdOf n B H) : fdVals (pre ++ [x]) = fdVals pre ++ [x.1] := by simp [fdVals]
theorem feed_stopsS (F : Fence) (n : Nat) (hf : F.fn 128) (hro : F.round = none) (hn : 1 ≤ n) (Bp Bq Bh n₀ gh B : Nat) (Sf : Nat → Prop) (p : Plt) (s : Stt) (H : List Int) (hS : ∀ x ∈ p.srcs, 0 ≤ x.bus ∧ x.bus < B) (hlen : Lens p s B) (hH : Isls B H)
    (hBp : Sf Bp) (hBq : Sf Bq) (hBh : Sf Bh) (hgh : Sf gh) (hng : ∀ b, b < n₀ → Sf b) (w : World) (hw : n₀ ≤ w.heap.size) (hp : PltIn w n₀ p) (hs : SttIn w n₀ s) (cp : w.cell? ⟨Bp, 1, none⟩ = some (.slice p.sA p.sn p.sc))
    (c3 : w.cell? ⟨Bq, 3, none⟩ = some (.slice s.on.A s.on.n s.on.c)) (c4 : w.cell? ⟨Bq, 4, none⟩ = some (.slice s.badSource.A s.badSource.n s.badSource.c))
    (ch : w.cell? ⟨Bh, 0, none⟩ = some (.slice (some ⟨gh, 0, none⟩) B B)) (cH : ∀ (i : Nat) (h : Int), H[i]? = some h → w.cell? ⟨gh, i, none⟩ = some (.int .i64 h)) :
    SeqStopsK F n Tryz.prog 128 #[.pointer (some ⟨Bp, 0, none⟩), .pointer (some ⟨Bq, 0, none⟩), .pointer (some ⟨Bh, 0, none⟩)] (fun x : FdOf p.sn B H => #[.int .i64 (x.1.1 : Int), .int .i64 (x.1.2.val : Int)]) (KpS Sf) (fun ys => fdVals ys = feedTo s p.srcs H p.sn) (fun _ => True) p.sn w := fun l J Jx W hW hJ hJx hY h0 => by
  have h := feed1_in F n hf hro hn l Bp Bq Bh n₀ gh B Sf p s H hS hlen hH hBp hBq hBh hgh hng (fun pre W => ∃ pre' : List (FdOf p.sn B H), fdVals pre' = pre ∧ J pre' W) (fun pre W => ∃ pre' : List (FdOf p.sn B H), fdVals pre' = pre ∧ Jx pre' W) W
    (fun s A B row hs hg hr => by obtain ⟨t, e, hj⟩ := hs; exact ⟨t, e, hJ t A B row hj hg hr⟩)
    (fun pre x W1 hx hi hj hl => by
      obtain ⟨t, rfl, hj⟩ := hj
      refine (hY t ⟨x, hx, hi⟩ W1 hj (by simpa [fdVals] using hl)).mono ?_
      rintro e W' (⟨h1, h2, h3⟩ | ⟨h1, h2⟩)
      · exact .inl ⟨h1, ⟨_, fdVals_snoc t ⟨x, hx, hi⟩, h2⟩, h3⟩
      · exact .inr ⟨h1, ⟨_, fdVals_snoc t ⟨x, hx, hi⟩, h2⟩⟩)
    (hp.below (hW.mono hw)) (hs.below (hW.mono hw)) ((hW.cell (block_of_cell cp)).trans cp) ((hW.cell (block_of_cell c3)).trans c3) ((hW.cell (block_of_cell c4)).trans c4) ((hW.cell (block_of_cell ch)).trans ch)
    (fun i h e => (hW.cell (block_of_cell (cH i h e))).trans (cH i h e)) ⟨[], rfl, h0⟩
  refine h.mono ?_
  rintro e W' ⟨hv, (⟨ys, rfl, t, ht, hj⟩ | ⟨pre, _, t, ht, hj⟩)⟩
  · exact ⟨hv, .inl ⟨t, ht, hj⟩⟩
  · exact ⟨hv, .inr ⟨t, trivial, hj⟩⟩
theorem grownBy_drew (W : World) : W.grownBy W.drew none := ⟨rfl, rfl, rfl, Nat.le_refl _, fun _ _ _ => rfl⟩
set_option maxRecDepth 100000 in
set_option maxHeartbeats 4000000 in
theorem clashes_ok (p : Plt) (s : Stt) (B : Nat) (L : List (LnkOf B)) (S : Sound p s B L) (hsn : p.sn ≤ 24) (w : World) (hc : checkState p s = 0) (hp : PltIn w w.heap.size p) (hs : SttIn w w.heap.size s) :
    Calls Tryz.prog 34 #[p.val, s.val] w fun e w' => ∃ A c, e = .returned (.tuple #[.slice A (clashL p s L).length c, .int .i64 0]) ∧ Below w.heap.size w w' ∧ w'.ownsRow w.heap.size 86 2 (.slice A (clashL p s L).length c) (clashL p s L).length (pairCells (clashL p s L)) := by
  refine (callsIn_wide (n := 12)).1 ?_
  have C := Lib.hid (fun W hp hs => checkState_any p s W hp hs)
  rw [hc] at C
  have N := Lib.hid (fun W hp hs => homes_any p s B W L S.lnks S.buses S.small S.lens hp hs)
  have K := Lib.hid (fun F n (hf : Fence.fn F _) hr A m c W => feeding_in F n hf hr p s A m c W)
  have Y := Lib.hid (fun x y W => synchronous_any x y W)
  have HP := Lib.hid hp
  have HS := Lib.hid hs
  have HI := Lib.hid (homeL_isls p s L)
  have hB := S.buses
  have hB24 := S.small
  unfold clashL
  generalize homeL p s L = H at HI N ⊢
  clear hp hs hc
  unfold Plt.val Stt.val at C N K ⊢
  rw [hB] at C N K ⊢
  refine callsIn_of_wp_marks Tryz.func34 rfl trivial ?_ rfl
  simp only [Tryz.ntmps34, List.size_toArray, List.length_cons, List.length_nil, Nat.reduceAdd, Nat.reduceSub, Array.replicate_succ, Array.replicate_zero, List.push_toArray, List.append_toArray, List.nil_append, List.cons_append]
  gi_wp2_with fail
  refine ⟨trivial, ?_⟩
  refine (callsIn_wide.2 (C.out _ (HP.out.next (by (repeat' (first | (with_reducible exact Below.refl _ _) | (with_reducible assumption) | (with_reducible refine below_drewN ?_ _) | (with_reducible refine below_after (by assumption) ?_ ?_) | (with_reducible refine Below.drew ?_) | (with_reducible refine Below.alloc ?_ ?_ _) | (with_reducible refine Below.setCell ?_ ?_ _) | omega | (simp; omega) | (simp; done))))) (HS.out.next (by (repeat' (first | (with_reducible exact Below.refl _ _) | (with_reducible assumption) | (with_reducible refine below_drewN ?_ _) | (with_reducible refine below_after (by assumption) ?_ ?_) | (with_reducible refine Below.drew ?_) | (with_reducible refine Below.alloc ?_ ?_ _) | (with_reducible refine Below.setCell ?_ ?_ _) | omega | (simp; omega) | (simp; done))))))).mono ?_
  rintro e w1 ⟨rfl, hB1⟩
  obtain ⟨hc1, hf1⟩ := bcell hB1
  have hz1 := hB1.size
  simp only [World.size_alloc] at hz1
  have y0 : w.heap.size < w1.heap.size := by omega
  have y1 : w.heap.size + 1 < w1.heap.size := by omega
  gi_wp2_with fail
  refine ⟨trivial, ?_⟩
  refine (callsIn_wide.2 (N.out _ (HP.out.next (by (repeat' (first | (with_reducible exact Below.refl _ _) | (with_reducible assumption) | (with_reducible refine below_drewN ?_ _) | (with_reducible refine below_after (by assumption) ?_ ?_) | (with_reducible refine Below.drew ?_) | (with_reducible refine Below.alloc ?_ ?_ _) | (with_reducible refine Below.setCell ?_ ?_ _) | omega | (simp; omega) | (simp; done))))) (HS.out.next (by (repeat' (first | (with_reducible exact Below.refl _ _) | (with_reducible assumption) | (with_reducible refine below_drewN ?_ _) | (with_reducible refine below_after (by assumption) ?_ ?_) | (with_reducible refine Below.drew ?_) | (with_reducible refine Below.alloc ?_ ?_ _) | (with_reducible refine Below.setCell ?_ ?_ _) | omega | (simp; omega) | (simp; done))))))).mono ?_
  rintro e w2 ⟨g, rfl, hB2, hg2, hN2⟩
  have hz2 := hB2.size
  have hB12 := hB1.trans (hB2.mono hB1.size)
  clear hc1 hf1
  obtain ⟨hc1, hf1⟩ := bcell hB12
  have zg := hN2.lt
  have HN := Lib.hid hN2
  have y0 : w.heap.size < w2.heap.size := by omega
  have y1 : w.heap.size + 1 < w2.heap.size := by omega
  have HB1 := Lib.hid hB1
  have HB2 := Lib.hid hB2
  clear hN2 hB1 hB2
  gi_wp2_with fail
  refine ⟨trivial, ?_⟩
  refine (K.out Fence.wide _ trivial rfl _ _ _ _).mono ?_
  rintro e w3 ⟨rfl, rfl⟩
  clear C N
  gi_wp2
  obtain ⟨W0, hW0, hsz, hBw, bR, bF, bp, bq, bh, bP', bS', nB⟩ := clashBlocks 56 69 56 #[.slice (some ⟨g, 0, none⟩) B B] #[.slice none 0 0] #[.slice (some ⟨g, 0, none⟩) B B] hB12 HN.out
  rw [hW0]
  clear hW0 hc1 hf1 hB12 HN HB1 HB2
  have HN0 := Lib.hid nB
  have HR := Lib.hid bR
  have HF := Lib.hid bF
  have HP' := Lib.hid bP'
  have HS' := Lib.hid bS'
  have hg0 : w.heap.size ≤ g := by omega
  obtain ⟨Sf, hSf⟩ : ∃ Sf : Nat → Prop, Sf = fun b => b < w.heap.size ∨ b = g ∨ b = w2.heap.size + 1 + 1 ∨ b = w2.heap.size + 1 + 1 + 1 ∨ b = w2.heap.size + 1 + 1 + 1 + 1 := ⟨_, rfl⟩
  have hSn : ∀ i, Sf i → i < W0.heap.size ∧ i ≠ w2.heap.size + 1 := by
    intro i hi
    rw [hSf] at hi
    have : g < w2.heap.size := zg
    omega
  refine wpIn_rangeFunc_ownH rfl (by omega) (gf := 128) (lb := #[.pointer (some ⟨w2.heap.size + 1 + 1, 0, none⟩), .pointer (some ⟨w2.heap.size + 1 + 1 + 1, 0, none⟩), .pointer (some ⟨w2.heap.size + 1 + 1 + 1 + 1, 0, none⟩)]) rfl trivial (enters_of Tryz.func128 (by kernel_rfl) rfl)
    (feed_stopsS Fence.wide (12 - 1) trivial rfl (by omega) (w2.heap.size + 1 + 1) (w2.heap.size + 1 + 1 + 1) (w2.heap.size + 1 + 1 + 1 + 1) w.heap.size g B Sf p s H S.srcs S.lens HI.out (by rw [hSf]; simp) (by rw [hSf]; simp) (by rw [hSf]; simp) (by rw [hSf]; simp) (fun b hb => by rw [hSf]; exact .inl hb) W0 (by omega) (HP.out.below hBw) (HS.out.below hBw) (Blk.cell bp 1) (Blk.cell bq 3) (Blk.cell bq 4) (Blk.cell bh 0) (fun i h e => IntB.cell nB e))
    (fun h k => KpS.trans h k) (fun W l o o' _ ho hc _ => KpS.putObj W l o o' ho hc) (Below.refl _ _) (fun _ => rfl)
    (fun pre W => ((((Blk W w2.heap.size 56 #[.slice (some ⟨g, 0, none⟩) B B] ∧ Blk W w.heap.size 26 #[.int .i64 (B : Int), .slice p.sA p.sn p.sc, .slice p.lA p.ln p.lc, .slice p.rA p.rn p.rc]) ∧ Blk W (w.heap.size + 1) 29 #[.slice s.closed.A s.closed.n s.closed.c, .slice s.locked.A s.locked.n s.locked.c, .slice s.badLink.A s.badLink.n s.badLink.c, .slice s.on.A s.on.n s.on.c, .slice s.badSource.A s.badSource.n s.badSource.c, .slice s.earthed.A s.earthed.n s.earthed.c, .slice s.badBus.A s.badBus.n s.badBus.c]) ∧ IntB W g H) ∧ (∃ v, Boxed W (w2.heap.size + 1) 69 v ∧ W.ownsRow W0.heap.size 86 2 v (clashOf p.srcs (feedTo (B := B) s p.srcs H p.sn) (fdVals pre)).length (pairCells (clashOf p.srcs (feedTo (B := B) s p.srcs H p.sn) (fdVals pre))) ∧ True)) ∧ (Below w.heap.size w W ∧ KeepsFrom W0.heap.size W0 W))
    (fun _ _ _ => False)
    (OwnFrom.and (OwnFrom.and (OwnFrom.and (OwnFrom.and (OwnFrom.and (Own.from (blk_own _ _ _) _) (Own.from (blk_own _ _ _) _)) (Own.from (blk_own _ _ _) _)) (Own.from (blk_own _ _ (fun _ => ints H)) _)) (Own.from (holdsRow_own W0.heap.size (w2.heap.size + 1) 69 86 2 (fun pre => (clashOf p.srcs (feedTo (B := B) s p.srcs H p.sn) (fdVals pre)).length) (fun pre => pairCells (clashOf p.srcs (feedTo (B := B) s p.srcs H p.sn) (fdVals pre))) (fun _ _ => True)) _)) (OwnFrom.and (ownFrom_below (Nat.le_refl _) (by omega)) (ownFrom_keepsFrom (Nat.le_refl _))))
    (fun _ _ _ _ _ hs _ _ => hs)
    ⟨⟨⟨⟨⟨HR.out, HP'.out⟩, HS'.out⟩, HN0.out⟩, ⟨_, HF.out, World.ownsRow_nil _ _ _ _, trivial⟩⟩, hBw, KeepsFrom.refl _ _⟩
    (fun x a' W => ∃ Ba, (Blk W Ba 3 #[.int .i64 (x.1.1 : Int)] ∧ Blk W (Ba + 1) 3 #[.int .i64 (x.1.2.val : Int)]) ∧ W0.heap.size ≤ Ba ∧ a' = { tmps := #[Value.agg #[.int .i64 (B : Int), .slice p.sA p.sn p.sc, .slice p.lA p.ln p.lc, .slice p.rA p.rn p.rc], Value.agg #[.slice s.closed.A s.closed.n s.closed.c, .slice s.locked.A s.locked.n s.locked.c, .slice s.badLink.A s.badLink.n s.badLink.c, .slice s.on.A s.on.n s.on.c, .slice s.badSource.A s.badSource.n s.badSource.c, .slice s.earthed.A s.earthed.n s.earthed.c, .slice s.badBus.A s.badBus.n s.badBus.c], .pointer (some ⟨w.heap.size, 0, none⟩), .pointer (some ⟨w.heap.size + 1, 0, none⟩), .slice none 0 0, .int .i64 0, .int .i64 0, .pointer (some ⟨w2.heap.size, 0, none⟩), .pointer (some ⟨w2.heap.size + 1, 0, none⟩), .pointer (some ⟨Ba, 0, none⟩), .pointer (some ⟨Ba + 1, 0, none⟩), undef, undef, Value.agg #[.int .i64 (B : Int), .slice p.sA p.sn p.sc, .slice p.lA p.ln p.lc, .slice p.rA p.rn p.rc], Value.agg #[.slice s.closed.A s.closed.n s.closed.c, .slice s.locked.A s.locked.n s.locked.c, .slice s.badLink.A s.badLink.n s.badLink.c, .slice s.on.A s.on.n s.on.c, .slice s.badSource.A s.badSource.n s.badSource.c, .slice s.earthed.A s.earthed.n s.earthed.c, .slice s.badBus.A s.badBus.n s.badBus.c], .int .i64 0, .int .i64 0, .bool false, undef, Value.agg #[.int .i64 (B : Int), .slice p.sA p.sn p.sc, .slice p.lA p.ln p.lc, .slice p.rA p.rn p.rc], Value.agg #[.slice s.closed.A s.closed.n s.closed.c, .slice s.locked.A s.locked.n s.locked.c, .slice s.badLink.A s.badLink.n s.badLink.c, .slice s.on.A s.on.n s.on.c, .slice s.badSource.A s.badSource.n s.badSource.c, .slice s.earthed.A s.earthed.n s.earthed.c, .slice s.badBus.A s.badBus.n s.badBus.c], .slice (some ⟨g, 0, none⟩) B B, Value.agg #[.int .i64 (B : Int), .slice p.sA p.sn p.sc, .slice p.lA p.ln p.lc, .slice p.rA p.rn p.rc], Value.agg #[.slice s.closed.A s.closed.n s.closed.c, .slice s.locked.A s.locked.n s.locked.c, .slice s.badLink.A s.badLink.n s.badLink.c, .slice s.on.A s.on.n s.on.c, .slice s.badSource.A s.badSource.n s.badSource.c, .slice s.earthed.A s.earthed.n s.earthed.c, .slice s.badBus.A s.badBus.n s.badBus.c], .slice (some ⟨g, 0, none⟩) B B, .func (.func 128) #[] #[.pointer (some ⟨w2.heap.size + 1 + 1, 0, none⟩), .pointer (some ⟨w2.heap.size + 1 + 1 + 1, 0, none⟩), .pointer (some ⟨w2.heap.size + 1 + 1 + 1 + 1, 0, none⟩)], .int .i64 (x.1.1 : Int), .int .i64 (x.1.2.val : Int), undef, undef, undef, undef, undef, undef, undef, undef, undef, undef, undef, undef, undef, undef, undef, undef, undef, undef, undef, undef, undef, undef, undef, undef, undef, undef, undef, undef, undef, undef, undef, undef, undef, undef, undef], defers := [] })
    (fun x a' _ X Y row hs hg hr => by obtain ⟨Ba, h2, h3⟩ := hs; exact ⟨Ba, ⟨blk_own Ba 3 (fun (_ : Unit) => #[.int .i64 (x.1.1 : Int)]) () X Y row h2.1 hg (fun r e => (hr r e).2), blk_own (Ba + 1) 3 (fun (_ : Unit) => #[.int .i64 (x.1.2.val : Int)]) () X Y row h2.2 hg (fun r e => (hr r e).2)⟩, h3⟩)
    ?assign ?body ?done ?stop
  case assign =>
    rintro l pre x W K' ⟨⟨⟨⟨⟨b1, b2⟩, b3⟩, b4⟩, ⟨v, b5, b6, _⟩⟩, b7, b8⟩ hK
    have hz0 := b8.size
    have hHB : Hid (Blk W w2.heap.size 56 #[.slice (some ⟨g, 0, none⟩) B B] ∧ Blk W w.heap.size 26 #[.int .i64 (B : Int), .slice p.sA p.sn p.sc, .slice p.lA p.ln p.lc, .slice p.rA p.rn p.rc] ∧ Blk W (w.heap.size + 1) 29 #[.slice s.closed.A s.closed.n s.closed.c, .slice s.locked.A s.locked.n s.locked.c, .slice s.badLink.A s.badLink.n s.badLink.c, .slice s.on.A s.on.n s.on.c, .slice s.badSource.A s.badSource.n s.badSource.c, .slice s.earthed.A s.earthed.n s.earthed.c, .slice s.badBus.A s.badBus.n s.badBus.c] ∧ IntB W g H ∧ Boxed W (w2.heap.size + 1) 69 v ∧ W.ownsRow W0.heap.size 86 2 v (clashOf p.srcs (feedTo (B := B) s p.srcs H p.sn) (fdVals pre)).length (pairCells (clashOf p.srcs (feedTo (B := B) s p.srcs H p.sn) (fdVals pre))) ∧ Below w.heap.size w W ∧ KeepsFrom W0.heap.size W0 W) := ⟨b1, b2, b3, b4, b5, b6, b7, b8⟩
    clear b1 b2 b3 b4 b5 b6 b7 b8
    gi_wp2
    obtain ⟨b1, b2, b3, b4, b5, b6, b7, b8⟩ := hHB.out
    have k1 : KeepsFrom W0.heap.size W ((W.alloc (.cells #[.int .i64 (x.1.1 : Int)] 3)).alloc (.cells #[.int .i64 (x.1.2.val : Int)] 3)) := ((KeepsOthers.alloc _ _).trans (KeepsOthers.alloc _ _)).from _
    have e1 := heap_alloc_new W (.cells #[.int .i64 (x.1.1 : Int)] 3)
    have e2 := heap_alloc_new (W.alloc (.cells #[.int .i64 (x.1.1 : Int)] 3)) (.cells #[.int .i64 (x.1.2.val : Int)] 3)
    simp only [World.size_alloc] at e2
    refine hK _ _ k1 ((KpS.grown (World.grownBy_alloc _ _ none) (by simp)).trans (KpS.grown (World.grownBy_alloc _ _ none) (by simp))) ⟨⟨⟨⟨⟨(b1.alloc _).alloc _, (b2.alloc _).alloc _⟩, (b3.alloc _).alloc _⟩, Blk.alloc (Blk.alloc b4 _) _⟩, ⟨v, (b5.alloc _).alloc _, (b6.alloc _).alloc _, trivial⟩⟩, (b7.alloc b7.size _).alloc (by have := b7.size; simp; omega) _, b8.trans k1⟩ ⟨W.heap.size, ⟨Blk.alloc e1 _, e2⟩, hz0, rfl⟩
  case body =>
    rintro l pre x a' W hl ⟨r, hr⟩ ⟨⟨⟨⟨⟨b1, b2⟩, b3⟩, b4⟩, ⟨v, b5, b6, _⟩⟩, b7, b8⟩ ⟨Ba, ⟨bA, bI⟩, hBa, rfl⟩ hlt
    have hz0 := b8.size
    have hzb := bI.lt
    have c1 : W.cell? ⟨w2.heap.size, 0, none⟩ = some (.slice (some ⟨g, 0, none⟩) B B) := b1.cell 0
    have c20 : W.cell? ⟨w.heap.size, 0, none⟩ = some (.int .i64 B) := b2.cell 0
    have c21 : W.cell? ⟨w.heap.size, 1, none⟩ = some (.slice p.sA p.sn p.sc) := b2.cell 1
    have c22 : W.cell? ⟨w.heap.size, 2, none⟩ = some (.slice p.lA p.ln p.lc) := b2.cell 2
    have c23 : W.cell? ⟨w.heap.size, 3, none⟩ = some (.slice p.rA p.rn p.rc) := b2.cell 3
    have c30 := b3.cell 0
    have c31 := b3.cell 1
    have c32 := b3.cell 2
    have c33 := b3.cell 3
    have c34 := b3.cell 4
    have c35 := b3.cell 5
    have c36 := b3.cell 6
    simp only [List.getElem?_toArray, List.getElem?_cons_zero, List.getElem?_cons_succ] at c30 c31 c32 c33 c34 c35 c36
    have HB : Hid (Blk W w2.heap.size 56 #[.slice (some ⟨g, 0, none⟩) B B] ∧ Blk W w.heap.size 26 #[.int .i64 (B : Int), .slice p.sA p.sn p.sc, .slice p.lA p.ln p.lc, .slice p.rA p.rn p.rc] ∧ Blk W (w.heap.size + 1) 29 #[.slice s.closed.A s.closed.n s.closed.c, .slice s.locked.A s.locked.n s.locked.c, .slice s.badLink.A s.badLink.n s.badLink.c, .slice s.on.A s.on.n s.on.c, .slice s.badSource.A s.badSource.n s.badSource.c, .slice s.earthed.A s.earthed.n s.earthed.c, .slice s.badBus.A s.badBus.n s.badBus.c] ∧ IntB W g H ∧ Boxed W (w2.heap.size + 1) 69 v ∧ W.ownsRow W0.heap.size 86 2 v (clashOf p.srcs (feedTo (B := B) s p.srcs H p.sn) (fdVals pre)).length (pairCells (clashOf p.srcs (feedTo (B := B) s p.srcs H p.sn) (fdVals pre))) ∧ Below w.heap.size w W ∧ KeepsFrom W0.heap.size W0 W ∧ Blk W Ba 3 #[.int .i64 (x.1.1 : Int)] ∧ Blk W (Ba + 1) 3 #[.int .i64 (x.1.2.val : Int)]) := ⟨b1, b2, b3, b4, b5, b6, b7, b8, bA, bI⟩
    have HRr := Lib.hid hr
    clear b1 b2 b3 b4 b5 b6 b7 b8 bA bI hr HN0 HR HF HP' HS' bR bF bp bq bh bP' bS' nB
    gi_wp2_with fail
    refine ⟨trivial, ?_⟩
    refine (CallsIn.inRound l (K.out Fence.wide _ trivial rfl _ _ _ _)).mono ?_
    rintro e w3 ⟨rfl, rfl⟩
    gi_wp2
    obtain ⟨Wn, hWn⟩ : ∃ Wn, (((W.alloc (.cells #[.int .i64 (B : Int), .slice p.sA p.sn p.sc, .slice p.lA p.ln p.lc, .slice p.rA p.rn p.rc] 26)).alloc (.cells #[.slice s.closed.A s.closed.n s.closed.c, .slice s.locked.A s.locked.n s.locked.c, .slice s.badLink.A s.badLink.n s.badLink.c, .slice s.on.A s.on.n s.on.c, .slice s.badSource.A s.badSource.n s.badSource.c, .slice s.earthed.A s.earthed.n s.earthed.c, .slice s.badBus.A s.badBus.n s.badBus.c] 29)).alloc (.cells #[.slice (some ⟨g, 0, none⟩) B B] 56)) = Wn := ⟨_, rfl⟩
    have hWs : Wn.heap.size = W.heap.size + 3 := by rw [← hWn]; simp
    have n1 : Blk Wn W.heap.size 26 #[.int .i64 (B : Int), .slice p.sA p.sn p.sc, .slice p.lA p.ln p.lc, .slice p.rA p.rn p.rc] := by rw [← hWn]; exact (Blk.alloc (heap_alloc_new W _) _).alloc _
    have n2 : Blk Wn (W.heap.size + 1) 29 #[.slice s.closed.A s.closed.n s.closed.c, .slice s.locked.A s.locked.n s.locked.c, .slice s.badLink.A s.badLink.n s.badLink.c, .slice s.on.A s.on.n s.on.c, .slice s.badSource.A s.badSource.n s.badSource.c, .slice s.earthed.A s.earthed.n s.earthed.c, .slice s.badBus.A s.badBus.n s.badBus.c] := by
      have e2 := heap_alloc_new (W.alloc (.cells #[.int .i64 (B : Int), .slice p.sA p.sn p.sc, .slice p.lA p.ln p.lc, .slice p.rA p.rn p.rc] 26)) (.cells #[.slice s.closed.A s.closed.n s.closed.c, .slice s.locked.A s.locked.n s.locked.c, .slice s.badLink.A s.badLink.n s.badLink.c, .slice s.on.A s.on.n s.on.c, .slice s.badSource.A s.badSource.n s.badSource.c, .slice s.earthed.A s.earthed.n s.earthed.c, .slice s.badBus.A s.badBus.n s.badBus.c] 29)
      simp only [World.size_alloc] at e2
      rw [← hWn]
      exact Blk.alloc e2 _
    have n3 : Blk Wn (W.heap.size + 1 + 1) 56 #[.slice (some ⟨g, 0, none⟩) B B] := by
      have e2 := heap_alloc_new ((W.alloc (.cells #[.int .i64 (B : Int), .slice p.sA p.sn p.sc, .slice p.lA p.ln p.lc, .slice p.rA p.rn p.rc] 26)).alloc (.cells #[.slice s.closed.A s.closed.n s.closed.c, .slice s.locked.A s.locked.n s.locked.c, .slice s.badLink.A s.badLink.n s.badLink.c, .slice s.on.A s.on.n s.on.c, .slice s.badSource.A s.badSource.n s.badSource.c, .slice s.earthed.A s.earthed.n s.earthed.c, .slice s.badBus.A s.badBus.n s.badBus.c] 29)) (.cells #[.slice (some ⟨g, 0, none⟩) B B] 56)
      simp only [World.size_alloc] at e2
      rw [← hWn]
      exact e2
    have tr : ∀ i T cs, Blk W i T cs → Blk Wn i T cs := fun i T cs h => by rw [← hWn]; exact ((h.alloc _).alloc _).alloc _
    have tk : KeepsFrom W0.heap.size W Wn := by rw [← hWn]; exact (((KeepsOthers.alloc _ _).trans (KeepsOthers.alloc _ _)).trans (KeepsOthers.alloc _ _)).from _
    have ts : KpS Sf W Wn := by rw [← hWn]; exact ((KpS.grown (World.grownBy_alloc _ _ none) (by simp)).trans (KpS.grown (World.grownBy_alloc _ _ none) (by simp))).trans (KpS.grown (World.grownBy_alloc _ _ none) (by simp))
    have tb : Below w.heap.size W Wn := by have := HB.out.2.2.2.2.2.2.1.size; rw [← hWn]; (repeat' (first | (with_reducible exact Below.refl _ _) | (with_reducible assumption) | (with_reducible refine below_drewN ?_ _) | (with_reducible refine below_after (by assumption) ?_ ?_) | (with_reducible refine Below.drew ?_) | (with_reducible refine Below.alloc ?_ ?_ _) | (with_reducible refine Below.setCell ?_ ?_ _) | omega | (simp; omega) | (simp; done)))
    have to : ∀ v k xs, W.ownsRow W0.heap.size 86 2 v k xs → Wn.ownsRow W0.heap.size 86 2 v k xs := fun v k xs h => by rw [← hWn]; exact ((h.alloc _).alloc _).alloc _
    have hr' : Wn.heap[l]? = some (.loop r) := by
      have h1 := (Array.getElem?_eq_some_iff.1 HRr.out).1
      rw [← hWn]
      exact (Below.heap_alloc _ _ l (by simp; omega)).trans ((Below.heap_alloc _ _ l (by simp; omega)).trans ((Below.heap_alloc W _ l h1).trans HRr.out))
    rw [hWn]
    clear hWn
    obtain ⟨b1, b2, b3, b4, b5, b6, b7, b8, bA, bI⟩ := HB.out
    obtain ⟨S2, hS2⟩ : ∃ S2 : Nat → Prop, S2 = fun b => b < w.heap.size ∨ b = g ∨ b = W.heap.size ∨ b = W.heap.size + 1 ∨ b = W.heap.size + 1 + 1 := ⟨_, rfl⟩
    refine wpIn_rangeFunc_ownN (l₀ := l) (r₀ := r) rfl hr' (by omega) (gf := 128) (lb := #[.pointer (some ⟨W.heap.size, 0, none⟩), .pointer (some ⟨W.heap.size + 1, 0, none⟩), .pointer (some ⟨W.heap.size + 1 + 1, 0, none⟩)]) rfl trivial (enters_of Tryz.func128 (by kernel_rfl) rfl)
      ((feed_stopsS Fence.wide (12 - 1 - 1 - 1) trivial rfl (by omega) W.heap.size (W.heap.size + 1) (W.heap.size + 1 + 1) w.heap.size g B S2 p s H S.srcs S.lens HI.out (by rw [hS2]; simp) (by rw [hS2]; simp) (by rw [hS2]; simp) (by rw [hS2]; simp) (fun b hb => by rw [hS2]; exact .inl hb) Wn (by have := b7.size; omega) (HP.out.below (b7.trans tb)) (HS.out.below (b7.trans tb)) (Blk.cell n1 1) (Blk.cell n2 3) (Blk.cell n2 4) (Blk.cell n3 0) (fun i h e => IntB.cell (tr _ _ _ b4) e)).inRound l)
      (fun h k => KpS.trans h k) (fun W l o o' _ ho hc _ => KpS.putObj W l o o' ho hc) (Below.refl _ _) (fun _ => rfl)
      (fun pre' W' => (((((Blk W' w2.heap.size 56 #[.slice (some ⟨g, 0, none⟩) B B] ∧ Blk W' w.heap.size 26 #[.int .i64 (B : Int), .slice p.sA p.sn p.sc, .slice p.lA p.ln p.lc, .slice p.rA p.rn p.rc]) ∧ Blk W' (w.heap.size + 1) 29 #[.slice s.closed.A s.closed.n s.closed.c, .slice s.locked.A s.locked.n s.locked.c, .slice s.badLink.A s.badLink.n s.badLink.c, .slice s.on.A s.on.n s.on.c, .slice s.badSource.A s.badSource.n s.badSource.c, .slice s.earthed.A s.earthed.n s.earthed.c, .slice s.badBus.A s.badBus.n s.badBus.c]) ∧ IntB W' g H) ∧ (∃ v, Boxed W' (w2.heap.size + 1) 69 v ∧ W'.ownsRow W0.heap.size 86 2 v (clashOf p.srcs (feedTo (B := B) s p.srcs H p.sn) (fdVals pre) ++ clashRow p.srcs x.1 (fdVals pre')).length (pairCells (clashOf p.srcs (feedTo (B := B) s p.srcs H p.sn) (fdVals pre) ++ clashRow p.srcs x.1 (fdVals pre'))) ∧ True)) ∧ ((Below w.heap.size w W' ∧ KeepsFrom W0.heap.size W W') ∧ KpS Sf W W')) ∧
        (((Blk W' Ba 3 #[.int .i64 (x.1.1 : Int)] ∧ Blk W' (Ba + 1) 3 #[.int .i64 (x.1.2.val : Int)]) ∧ Blk W' W.heap.size 26 #[.int .i64 (B : Int), .slice p.sA p.sn p.sc, .slice p.lA p.ln p.lc, .slice p.rA p.rn p.rc]) ∧ Blk W' (W.heap.size + 1) 29 #[.slice s.closed.A s.closed.n s.closed.c, .slice s.locked.A s.locked.n s.locked.c, .slice s.badLink.A s.badLink.n s.badLink.c, .slice s.on.A s.on.n s.on.c, .slice s.badSource.A s.badSource.n s.badSource.c, .slice s.earthed.A s.earthed.n s.earthed.c, .slice s.badBus.A s.badBus.n s.badBus.c]) ∧ Blk W' (W.heap.size + 1 + 1) 56 #[.slice (some ⟨g, 0, none⟩) B B])
      (fun _ _ _ => False)
      (OwnFrom.and (OwnFrom.and (OwnFrom.and (OwnFrom.and (OwnFrom.and (OwnFrom.and (Own.from (blk_own _ _ _) _) (Own.from (blk_own _ _ _) _)) (Own.from (blk_own _ _ _) _)) (Own.from (blk_own _ _ (fun _ => ints H)) _)) (Own.from (holdsRow_own W0.heap.size (w2.heap.size + 1) 69 86 2 (fun pre' => (clashOf p.srcs (feedTo (B := B) s p.srcs H p.sn) (fdVals pre) ++ clashRow p.srcs x.1 (fdVals pre')).length) (fun pre' => pairCells (clashOf p.srcs (feedTo (B := B) s p.srcs H p.sn) (fdVals pre) ++ clashRow p.srcs x.1 (fdVals pre'))) (fun _ _ => True)) _))
          (OwnFrom.and (OwnFrom.and (ownFrom_below (Nat.le_refl _) (by have := b7.size; omega)) (ownFrom_keepsFrom (by omega))) (KpS.own _ _ _)))
        (OwnFrom.and (OwnFrom.and (OwnFrom.and (OwnFrom.and (Own.from (blk_own _ _ _) _) (Own.from (blk_own _ _ _) _)) (Own.from (blk_own _ _ _) _)) (Own.from (blk_own _ _ _) _)) (Own.from (blk_own _ _ _) _)))
      (fun _ _ _ _ _ hs _ _ => hs)
      ⟨⟨⟨⟨⟨⟨tr _ _ _ b1, tr _ _ _ b2⟩, tr _ _ _ b3⟩, tr _ _ _ b4⟩, ⟨v, tr _ _ _ b5, by simpa [clashRow, fdVals] using to _ _ _ b6, trivial⟩⟩, ⟨⟨b7.trans tb, tk⟩, ts⟩⟩, ⟨⟨⟨tr _ _ _ bA, tr _ _ _ bI⟩, n1⟩, n2⟩, n3⟩
      (fun y a'' _ => a'' = { tmps := #[Value.agg #[.int .i64 (B : Int), .slice p.sA p.sn p.sc, .slice p.lA p.ln p.lc, .slice p.rA p.rn p.rc], Value.agg #[.slice s.closed.A s.closed.n s.closed.c, .slice s.locked.A s.locked.n s.locked.c, .slice s.badLink.A s.badLink.n s.badLink.c, .slice s.on.A s.on.n s.on.c, .slice s.badSource.A s.badSource.n s.badSource.c, .slice s.earthed.A s.earthed.n s.earthed.c, .slice s.badBus.A s.badBus.n s.badBus.c], .pointer (some ⟨w.heap.size, 0, none⟩), .pointer (some ⟨w.heap.size + 1, 0, none⟩), .slice none 0 0, .int .i64 0, .int .i64 0, .pointer (some ⟨w2.heap.size, 0, none⟩), .pointer (some ⟨w2.heap.size + 1, 0, none⟩), .pointer (some ⟨Ba, 0, none⟩), .pointer (some ⟨Ba + 1, 0, none⟩), .int .i64 (y.1.1 : Int), .int .i64 (y.1.2.val : Int), Value.agg #[.int .i64 (B : Int), .slice p.sA p.sn p.sc, .slice p.lA p.ln p.lc, .slice p.rA p.rn p.rc], Value.agg #[.slice s.closed.A s.closed.n s.closed.c, .slice s.locked.A s.locked.n s.locked.c, .slice s.badLink.A s.badLink.n s.badLink.c, .slice s.on.A s.on.n s.on.c, .slice s.badSource.A s.badSource.n s.badSource.c, .slice s.earthed.A s.earthed.n s.earthed.c, .slice s.badBus.A s.badBus.n s.badBus.c], .int .i64 0, .int .i64 0, .bool false, undef, Value.agg #[.int .i64 (B : Int), .slice p.sA p.sn p.sc, .slice p.lA p.ln p.lc, .slice p.rA p.rn p.rc], Value.agg #[.slice s.closed.A s.closed.n s.closed.c, .slice s.locked.A s.locked.n s.locked.c, .slice s.badLink.A s.badLink.n s.badLink.c, .slice s.on.A s.on.n s.on.c, .slice s.badSource.A s.badSource.n s.badSource.c, .slice s.earthed.A s.earthed.n s.earthed.c, .slice s.badBus.A s.badBus.n s.badBus.c], .slice (some ⟨g, 0, none⟩) B B, Value.agg #[.int .i64 (B : Int), .slice p.sA p.sn p.sc, .slice p.lA p.ln p.lc, .slice p.rA p.rn p.rc], Value.agg #[.slice s.closed.A s.closed.n s.closed.c, .slice s.locked.A s.locked.n s.locked.c, .slice s.badLink.A s.badLink.n s.badLink.c, .slice s.on.A s.on.n s.on.c, .slice s.badSource.A s.badSource.n s.badSource.c, .slice s.earthed.A s.earthed.n s.earthed.c, .slice s.badBus.A s.badBus.n s.badBus.c], .slice (some ⟨g, 0, none⟩) B B, .func (.func 128) #[] #[.pointer (some ⟨w2.heap.size + 1 + 1, 0, none⟩), .pointer (some ⟨w2.heap.size + 1 + 1 + 1, 0, none⟩), .pointer (some ⟨w2.heap.size + 1 + 1 + 1 + 1, 0, none⟩)], .int .i64 (x.1.1 : Int), .int .i64 (x.1.2.val : Int), Value.agg #[.int .i64 (B : Int), .slice p.sA p.sn p.sc, .slice p.lA p.ln p.lc, .slice p.rA p.rn p.rc], Value.agg #[.slice s.closed.A s.closed.n s.closed.c, .slice s.locked.A s.locked.n s.locked.c, .slice s.badLink.A s.badLink.n s.badLink.c, .slice s.on.A s.on.n s.on.c, .slice s.badSource.A s.badSource.n s.badSource.c, .slice s.earthed.A s.earthed.n s.earthed.c, .slice s.badBus.A s.badBus.n s.badBus.c], .slice (some ⟨g, 0, none⟩) B B, .func (.func 128) #[] #[.pointer (some ⟨W.heap.size, 0, none⟩), .pointer (some ⟨W.heap.size + 1, 0, none⟩), .pointer (some ⟨W.heap.size + 1 + 1, 0, none⟩)], .int .i64 (y.1.1 : Int), .int .i64 (y.1.2.val : Int), undef, undef, undef, undef, undef, undef, undef, undef, undef, undef, undef, undef, undef, undef, undef, undef, undef, undef, undef, undef, undef, undef, undef, undef, undef, undef, undef, undef, undef], defers := [] })
      (fun _ _ _ _ _ _ hs _ _ => hs)
      ?assign2 ?body2 ?done2 ?stop2
    case assign2 =>
      rintro l2 pre' y W' K' hi hK
      gi_wp2
      exact hK _ _ (KeepsFrom.refl _ _) (KpS.refl _ _) hi rfl
    case body2 =>
      rintro l2 pre' y a'' W' hl2 hr2 ⟨⟨⟨⟨⟨⟨d1, d2⟩, d3⟩, d4⟩, ⟨u, d5, d6, _⟩⟩, ⟨⟨d7, d8⟩, d9⟩⟩, ⟨⟨⟨dA, dI⟩, m1⟩, m2⟩, m3⟩ rfl hlt2
      have cA : W'.cell? ⟨Ba, 0, none⟩ = some (.int .i64 (x.1.1 : Int)) := dA.cell 0
      have cI : W'.cell? ⟨Ba + 1, 0, none⟩ = some (.int .i64 (x.1.2.val : Int)) := dI.cell 0
      have cS : W'.cell? ⟨w.heap.size, 1, none⟩ = some (.slice p.sA p.sn p.sc) := d2.cell 1
      have hsrc := (HP.out.below d7).src
      obtain ⟨b, off, sx, e1, hb, hx, hcx⟩ := hsrc.at_ x.2.1
      obtain ⟨b', off', sy, e2, hb', hy, hcy⟩ := hsrc.at_ y.2.1
      rw [e1] at e2
      simp only [Option.some.injEq, Addr.mk.injEq, and_true] at e2
      obtain ⟨rfl, rfl⟩ := e2
      obtain ⟨a0, a1, a2, a3, a4⟩ := Src.cells hcx
      obtain ⟨z0, z1, z2, z3, z4⟩ := Src.cells hcy
      rw [e1] at cS
      have hall : Hid (∀ W3, W'.grownBy W3 none → (KeepsFrom Wn.heap.size W' W3 ∧ KpS S2 W' W3) ∧ ((((Blk W3 w2.heap.size 56 #[.slice (some ⟨g, 0, none⟩) B B] ∧ Blk W3 w.heap.size 26 #[.int .i64 (B : Int), .slice p.sA p.sn p.sc, .slice p.lA p.ln p.lc, .slice p.rA p.rn p.rc]) ∧ Blk W3 (w.heap.size + 1) 29 #[.slice s.closed.A s.closed.n s.closed.c, .slice s.locked.A s.locked.n s.locked.c, .slice s.badLink.A s.badLink.n s.badLink.c, .slice s.on.A s.on.n s.on.c, .slice s.badSource.A s.badSource.n s.badSource.c, .slice s.earthed.A s.earthed.n s.earthed.c, .slice s.badBus.A s.badBus.n s.badBus.c]) ∧ IntB W3 g H) ∧ (Boxed W3 (w2.heap.size + 1) 69 u ∧ W3.ownsRow W0.heap.size 86 2 u (clashOf p.srcs (feedTo (B := B) s p.srcs H p.sn) (fdVals pre) ++ clashRow p.srcs x.1 (fdVals pre')).length (pairCells (clashOf p.srcs (feedTo (B := B) s p.srcs H p.sn) (fdVals pre) ++ clashRow p.srcs x.1 (fdVals pre')))) ∧ ((Below w.heap.size w W3 ∧ KeepsFrom W0.heap.size W W3) ∧ KpS Sf W W3)) ∧
          (((Blk W3 Ba 3 #[.int .i64 (x.1.1 : Int)] ∧ Blk W3 (Ba + 1) 3 #[.int .i64 (x.1.2.val : Int)]) ∧ Blk W3 W.heap.size 26 #[.int .i64 (B : Int), .slice p.sA p.sn p.sc, .slice p.lA p.ln p.lc, .slice p.rA p.rn p.rc]) ∧ Blk W3 (W.heap.size + 1) 29 #[.slice s.closed.A s.closed.n s.closed.c, .slice s.locked.A s.locked.n s.locked.c, .slice s.badLink.A s.badLink.n s.badLink.c, .slice s.on.A s.on.n s.on.c, .slice s.badSource.A s.badSource.n s.badSource.c, .slice s.earthed.A s.earthed.n s.earthed.c, .slice s.badBus.A s.badBus.n s.badBus.c]) ∧ Blk W3 (W.heap.size + 1 + 1) 56 #[.slice (some ⟨g, 0, none⟩) B B]) := by
        intro W3 hg3
        have kk : ∀ i T cs, Blk W' i T cs → Blk W3 i T cs := fun i T cs h => h.kept hg3 (by simp)
        have hkp : KpS Sf W' W3 := KpS.grown hg3 (by simp)
        exact ⟨⟨KeepsFrom.of_grownBy hg3 (fun j e => by cases e), KpS.grown hg3 (by simp)⟩, ⟨⟨⟨⟨kk _ _ _ d1, kk _ _ _ d2⟩, kk _ _ _ d3⟩, kk _ _ _ d4⟩, ⟨kk _ _ _ d5, d6.kept hg3 (by by_cases hu : u.ownBlock = none; exact .inl hu; exact .inr (fun e => hu e))⟩, ⟨⟨d7.grown hg3 d7.size (fun k e => by cases e), d8.trans (KeepsFrom.of_grownBy hg3 (fun j e => by cases e))⟩, d9.trans hkp⟩⟩, ⟨⟨⟨kk _ _ _ dA, kk _ _ _ dI⟩, kk _ _ _ m1⟩, kk _ _ _ m2⟩, kk _ _ _ m3⟩
      have fin0 : Hid (clashAt p.srcs x.1 y.1 = [] → ∀ W3, W'.grownBy W3 none → KeepsFrom Wn.heap.size W' W3 ∧ KpS S2 W' W3 ∧ (((((Blk W3 w2.heap.size 56 #[.slice (some ⟨g, 0, none⟩) B B] ∧ Blk W3 w.heap.size 26 #[.int .i64 (B : Int), .slice p.sA p.sn p.sc, .slice p.lA p.ln p.lc, .slice p.rA p.rn p.rc]) ∧ Blk W3 (w.heap.size + 1) 29 #[.slice s.closed.A s.closed.n s.closed.c, .slice s.locked.A s.locked.n s.locked.c, .slice s.badLink.A s.badLink.n s.badLink.c, .slice s.on.A s.on.n s.on.c, .slice s.badSource.A s.badSource.n s.badSource.c, .slice s.earthed.A s.earthed.n s.earthed.c, .slice s.badBus.A s.badBus.n s.badBus.c]) ∧ IntB W3 g H) ∧ (∃ v, Boxed W3 (w2.heap.size + 1) 69 v ∧ W3.ownsRow W0.heap.size 86 2 v (clashOf p.srcs (feedTo (B := B) s p.srcs H p.sn) (fdVals pre) ++ clashRow p.srcs x.1 (fdVals (pre' ++ [y]))).length (pairCells (clashOf p.srcs (feedTo (B := B) s p.srcs H p.sn) (fdVals pre) ++ clashRow p.srcs x.1 (fdVals (pre' ++ [y])))) ∧ True)) ∧ ((Below w.heap.size w W3 ∧ KeepsFrom W0.heap.size W W3) ∧ KpS Sf W W3)) ∧
          (((Blk W3 Ba 3 #[.int .i64 (x.1.1 : Int)] ∧ Blk W3 (Ba + 1) 3 #[.int .i64 (x.1.2.val : Int)]) ∧ Blk W3 W.heap.size 26 #[.int .i64 (B : Int), .slice p.sA p.sn p.sc, .slice p.lA p.ln p.lc, .slice p.rA p.rn p.rc]) ∧ Blk W3 (W.heap.size + 1) 29 #[.slice s.closed.A s.closed.n s.closed.c, .slice s.locked.A s.locked.n s.locked.c, .slice s.badLink.A s.badLink.n s.badLink.c, .slice s.on.A s.on.n s.on.c, .slice s.badSource.A s.badSource.n s.badSource.c, .slice s.earthed.A s.earthed.n s.earthed.c, .slice s.badBus.A s.badBus.n s.badBus.c]) ∧ Blk W3 (W.heap.size + 1 + 1) 56 #[.slice (some ⟨g, 0, none⟩) B B]) := by
        intro h0 W3 hg3
        have h := hall.out W3 hg3
        rw [fdVals_snoc, clashRow_snoc, h0, List.append_nil]
        exact ⟨h.1.1, h.1.2, ⟨⟨h.2.1.1, ⟨u, h.2.1.2.1.1, h.2.1.2.1.2, trivial⟩⟩, h.2.1.2.2⟩, h.2.2⟩
      have hx0 : (0 : Int) ≤ (x.1.1 : Int) := by omega
      have hy0 : (0 : Int) ≤ (y.1.1 : Int) := by omega
      have hxn : (x.1.1 : Int) < (p.sn : Int) := by have := x.2.1; omega
      have hyn : (y.1.1 : Int) < (p.sn : Int) := by have := y.2.1; omega
      have zw : w.heap.size < W'.heap.size := d2.lt
      have HX := Lib.hid hx
      have HY := Lib.hid hy
      have gA := cell_regrown cA
      have gI := cell_regrown cI
      have gS := cell_regrown cS
      have g0 := cell_regrown a0
      have g1 := cell_regrown a1
      have g2 := cell_regrown a2
      have g3 := cell_regrown a3
      have g4 := cell_regrown a4
      have k0 := cell_regrown z0
      have k1 := cell_regrown z1
      have k2 := cell_regrown z2
      have k3 := cell_regrown z3
      have k4 := cell_regrown z4
      have HW : Hid ((Ba + 1 < W'.heap.size ∧ w2.heap.size + 1 < W0.heap.size ∧ W0.heap.size ≤ W'.heap.size) ∧ W0.heap.size ≤ W.heap.size ∧ W0.heap.size ≤ Ba ∧ w.heap.size + 1 < w2.heap.size) := ⟨⟨dI.lt, by omega, by have := d8.size; omega⟩, hz0, hBa, by omega⟩
      clear d1 d2 d3 d4 d5 d6 d7 d8 d9 dA dI m1 m2 m3 hsrc hcx hcy hx hy e1 b1 b2 b3 b4 b5 b6 b7 b8 bA bI n1 n2 n3 tr tk ts tb to hr' hr2 cA cI cS a0 a1 a2 a3 a4 z0 z1 z2 z3 z4
      clear hl hl2 hz0 hzb hBa y0 y1 hz1 hz2
      by_cases q1 : x.1.1 < y.1.1
      · have e3 : decide (x.1.1 < y.1.1) = true := decide_eq_true q1
        by_cases q2 : x.1.2.val = y.1.2.val
        · have e4 : ((x.1.2.val : Int) == (y.1.2.val : Int)) = true := by rw [beq_iff_eq]; omega
          have e5 : x.1.2 = y.1.2 := Fin.ext q2
          have HYY := Lib.hid (fun W => Y.out sx sy W)
          unfold Src.val at HYY
          generalize hsy : syncd sx sy = cs at HYY
          have hcl : Hid (clashAt p.srcs x.1 y.1 = if cs then [] else [((x.1.1 : Int), (y.1.1 : Int))]) := by
            simp only [clashAt, clashB, HX.out, HY.out, hsy, e3, decide_eq_true e5]
            cases cs <;> rfl
          clear e5 hsy HX HY
          cases cs
          · gi_wp2
            refine wpIn_region_quiet_round l2 (by kernel_rfl) (by kernel_rfl) (by kernel_rfl) ?_
            repeat (go_big_quiet_step (exact Calls.regrown_of (HYY.out _)))
            refine wpQuiet_nil ?_
            intro _ hw'
            obtain ⟨⟨dq, osq⟩, hw''⟩ := hw'
            subst hw''
            have hg3 := grown_of_below (below_regrown W' dq osq)
            clear gA gI gS g0 g1 g2 g3 g4 k0 k1 k2 k3 k4 HYY
            generalize Go.Sort.grow (redrawn W' dq) osq = W3 at hg3 ⊢
            have hcl' : Hid (clashAt p.srcs x.1 y.1 = [((x.1.1 : Int), (y.1.1 : Int))]) := hcl.out
            have h3 := hall.out W3 hg3
            obtain ⟨⟨r1, r2⟩, ⟨r3, ⟨r4, r5⟩, ⟨⟨r6, r7⟩, r8⟩⟩, ⟨⟨⟨r9, r10⟩, r11⟩, r12⟩, r13⟩ := h3
            have cA : W3.cell? ⟨Ba, 0, none⟩ = some (.int .i64 (x.1.1 : Int)) := r9.cell 0
            have cu := r4.cell
            have fu := r4.frozen
            have zs3 : W'.heap.size ≤ W3.heap.size := hg3.size
            have H4 := Lib.hid r4
            have H5 := Lib.hid r5
            have HE : Hid ((KeepsFrom Wn.heap.size W' W3 ∧ KpS S2 W' W3) ∧ ((((Blk W3 w2.heap.size 56 #[.slice (some ⟨g, 0, none⟩) B B] ∧ Blk W3 w.heap.size 26 #[.int .i64 (B : Int), .slice p.sA p.sn p.sc, .slice p.lA p.ln p.lc, .slice p.rA p.rn p.rc]) ∧ Blk W3 (w.heap.size + 1) 29 #[.slice s.closed.A s.closed.n s.closed.c, .slice s.locked.A s.locked.n s.locked.c, .slice s.badLink.A s.badLink.n s.badLink.c, .slice s.on.A s.on.n s.on.c, .slice s.badSource.A s.badSource.n s.badSource.c, .slice s.earthed.A s.earthed.n s.earthed.c, .slice s.badBus.A s.badBus.n s.badBus.c]) ∧ IntB W3 g H) ∧ ((Below w.heap.size w W3 ∧ KeepsFrom W0.heap.size W W3) ∧ KpS Sf W W3)) ∧
              (((Blk W3 Ba 3 #[.int .i64 (x.1.1 : Int)] ∧ Blk W3 (Ba + 1) 3 #[.int .i64 (x.1.2.val : Int)]) ∧ Blk W3 W.heap.size 26 #[.int .i64 (B : Int), .slice p.sA p.sn p.sc, .slice p.lA p.ln p.lc, .slice p.rA p.rn p.rc]) ∧ Blk W3 (W.heap.size + 1) 29 #[.slice s.closed.A s.closed.n s.closed.c, .slice s.locked.A s.locked.n s.locked.c, .slice s.badLink.A s.badLink.n s.badLink.c, .slice s.on.A s.on.n s.on.c, .slice s.badSource.A s.badSource.n s.badSource.c, .slice s.earthed.A s.earthed.n s.earthed.c, .slice s.badBus.A s.badBus.n s.badBus.c]) ∧ Blk W3 (W.heap.size + 1 + 1) 56 #[.slice (some ⟨g, 0, none⟩) B B]) := ⟨⟨r1, r2⟩, ⟨r3, ⟨r6, r7⟩, r8⟩, ⟨⟨⟨r9, r10⟩, r11⟩, r12⟩, r13⟩
            have hlen1 := clashOf_length p.srcs (feedTo (B := B) s p.srcs H p.sn) (fdVals pre)
            have hlen2 := clashRow_length p.srcs x.1 (fdVals pre')
            have hlen3 := feedTo_length (B := B) s p.srcs H p.sn
            have hlen4 : (fdVals pre).length ≤ 24 := by simp only [fdVals, List.length_map]; omega
            have hlen5 : (fdVals pre').length ≤ 24 := by simp only [fdVals, List.length_map]; omega
            have hlen6 : (fdVals pre).length * (feedTo (B := B) s p.srcs H p.sn).length ≤ 24 * 24 := Nat.mul_le_mul hlen4 (by omega)
            have hln : (clashOf p.srcs (feedTo (B := B) s p.srcs H p.sn) (fdVals pre) ++ clashRow p.srcs x.1 (fdVals pre')).length ≤ 600 := by rw [List.length_append]; omega
            obtain ⟨i0, hi, hz0, hz1, hz2⟩ := info_parts pairInfo
            obtain ⟨hw1, hw2, hw3⟩ := HW.out.1
            have hw4 : w2.heap.size + 1 < W3.heap.size ∧ w.heap.size ≤ w2.heap.size + 1 := by omega
            have hw5 : W0.heap.size ≤ W3.heap.size := by omega
            have HSZ := Lib.hid (And.intro hsz (And.intro hWs (And.intro hS2 hSf)))
            clear hall fin0 hcl r1 r2 r3 r4 r5 r6 r7 r8 r9 r10 r11 r12 r13 hlen1 hlen2 hlen3 hlen4 hlen5 hlen6 hsz hWs hS2 hSf
            obtain ⟨ls, hls⟩ : ∃ ls, clashOf p.srcs (feedTo (B := B) s p.srcs H p.sn) (fdVals pre) ++ clashRow p.srcs x.1 (fdVals pre') = ls := ⟨_, rfl⟩
            have HLS := Lib.hid hls
            rw [hls] at H5 hln
            clear hls
            gi_wp2_with (gi_at_builtin; refine wpListIn_append_own_at _ rfl (.tmp 56) (.tmp 60) 69 rfl W0.heap.size 86 i0 (.agg #[.int .i64 0, .int .i64 0]) 2 16 Tryz.underlying69 hi hz0 hz1 hz2 rfl (by decide) u _ _ rfl (H5.out.alloc _) ⟨W3.heap.size, 0, none⟩ 1 1 (encP ((x.1.1 : Int), (y.1.1 : Int))) rfl rfl ?_ ?_ ?_ ?_ ?_ ?_)
            case _ =>
              intro i z hz
              match i, hz with
              | 0, hz =>
                simp only [encP, List.getElem?_cons_zero, Option.some.injEq] at hz
                subst hz
                simp [Addr.add, go_sem]
              | 1, hz =>
                simp only [encP, List.getElem?_cons_succ, List.getElem?_cons_zero, Option.some.injEq] at hz
                subst hz
                simp [Addr.add, go_sem]
            case _ =>
              intro z hz
              simp only [encP, List.mem_cons, List.mem_nil_iff, or_false] at hz
              rcases hz with rfl | rfl <;> rfl
            case _ => simp only [maxLen]; omega
            case _ => omega
            case _ => simp; omega
            intro v' w5 hown hg5 _ _
            obtain ⟨g', cap', rfl⟩ := ownsRow_succ hown
            obtain ⟨q1', q2', q3', q4', q5', q6', q7'⟩ := Boxed.appended2 (b := w.heap.size) (t := 69) H4.out (by decide) H5.out hw5 hw2 hw4.2 hown hg5
            have f1 := q1'.cell
            have f2 := q1'.frozen
            have HQ : Hid _ := Lib.hid (And.intro q2' (And.intro q3' (And.intro q4' (And.intro q5' (And.intro q6' q7')))))
            clear q1' q2' q3' q4' q5' q6' q7' hown hg5
            gi_wp2
            obtain ⟨q2', q3', q4', q5', q6', q7'⟩ := HQ.out
            obtain ⟨⟨r1, r2⟩, ⟨⟨⟨⟨r31, r32⟩, r33⟩, r34⟩, ⟨r6, r7⟩, r8⟩, ⟨⟨⟨r9, r10⟩, r11⟩, r12⟩, r13⟩ := HE.out
            obtain ⟨hsz, hWs, hS2, hSf⟩ := HSZ.out
            obtain ⟨hv1, hv2, hv3⟩ := HW.out.2
            have zg3 : g < w2.heap.size := zg
            have ne : ∀ i T cs, T ≠ 86 → Blk W3 i T cs → i ≠ w2.heap.size + 1 → Blk (w5.setCell ⟨w2.heap.size + 1, 0, none⟩ (.slice (some ⟨g', 0, none⟩) (ls.length + 1) cap')) i T cs := fun i T cs hT hb hi => q7' i T cs hi (own_ne H5.out hb hT) hb
            have hk2 := q6' S2 (fun i hi => by
              rw [hS2] at hi
              rcases hi with h | h | h | h | h
              · exact ⟨by omega, own_ge H5.out (by omega)⟩
              · exact ⟨by omega, own_ge H5.out (by omega)⟩
              · subst h; exact ⟨by omega, own_ne H5.out r11 (by decide)⟩
              · subst h; exact ⟨by omega, own_ne H5.out r12 (by decide)⟩
              · subst h; exact ⟨by omega, own_ne H5.out r13 (by decide)⟩)
            have hks := q6' Sf (fun i hi => ⟨(hSn i hi).2, own_ge H5.out (hSn i hi).1⟩)
            refine ⟨r1.trans (q4'.from _), r2.trans hk2, ⟨⟨⟨⟨⟨ne _ _ _ (by decide) r31 (by omega), ne _ _ _ (by decide) r32 (by omega)⟩, ne _ _ _ (by decide) r33 (by omega)⟩, ne _ _ _ (by decide) r34 (by omega)⟩, ?_⟩, ⟨⟨r6.trans q5', r7.trans (q4'.from _)⟩, r8.trans hks⟩⟩, ⟨⟨⟨ne _ _ _ (by decide) r9 (by omega), ne _ _ _ (by decide) r10 (by omega)⟩, ne _ _ _ (by decide) r11 (by omega)⟩, ne _ _ _ (by decide) r12 (by omega)⟩, ne _ _ _ (by decide) r13 (by omega)⟩
            rw [fdVals_snoc, clashRow_snoc, hcl'.out, ← List.append_assoc, HLS.out, pairCells_append]
            refine ⟨_, q2', ?_, trivial⟩
            have h := q3'
            simp only [List.length_append, List.length_cons, List.length_nil, pairCells, List.flatMap_cons, List.flatMap_nil, List.append_nil] at h ⊢
            exact h
          · gi_wp2
            refine wpIn_region_quiet_round l2 (by kernel_rfl) (by kernel_rfl) (by kernel_rfl) ?_
            repeat (go_big_quiet_step (exact Calls.regrown_of (HYY.out _)))
            refine wpQuiet_nil ?_
            intro _ hw'
            obtain ⟨⟨dq, osq⟩, hw''⟩ := hw'
            subst hw''
            gi_wp2
            exact fin0.out hcl.out _ (grown_of_below (below_regrown W' dq osq))
        · have e4 : ((x.1.2.val : Int) == (y.1.2.val : Int)) = false := by rw [beq_eq_false_iff_ne]; omega
          have hno : clashAt p.srcs x.1 y.1 = [] := by
            have : ¬ (x.1.2 = y.1.2) := fun h => q2 (by rw [h])
            simp [clashAt, clashB, this]
          gi_wp2
          refine wpIn_region_quiet_round l2 (by kernel_rfl) (by kernel_rfl) (by kernel_rfl) ?_
          repeat (go_big_quiet_step (fail))
          refine wpQuiet_nil ?_
          intro _ hw'
          obtain ⟨⟨dq, osq⟩, hw''⟩ := hw'
          subst hw''
          gi_wp2
          exact fin0.out hno _ (grown_of_below (below_regrown W' dq osq))
      · have e3 : decide (x.1.1 < y.1.1) = false := decide_eq_false q1
        have hno : clashAt p.srcs x.1 y.1 = [] := by simp [clashAt, clashB, q1]
        gi_wp2
        refine wpIn_region_quiet_round l2 (by kernel_rfl) (by kernel_rfl) (by kernel_rfl) ?_
        repeat (go_big_quiet_step (fail))
        refine wpQuiet_nil ?_
        intro _ hw'
        obtain ⟨⟨dq, osq⟩, hw''⟩ := hw'
        subst hw''
        gi_wp2
        exact fin0.out hno _ (grown_of_below (below_regrown W' dq osq))
    case done2 =>
      rintro ys' W' hys ⟨⟨⟨⟨⟨⟨d1, d2⟩, d3⟩, d4⟩, ⟨v, d5, d6, _⟩⟩, ⟨⟨d7, d8⟩, d9⟩⟩, _⟩
      have HD : Hid (KeepsFrom W0.heap.size W W' ∧ KpS Sf W W' ∧ (((((Blk W' w2.heap.size 56 #[.slice (some ⟨g, 0, none⟩) B B] ∧ Blk W' w.heap.size 26 #[.int .i64 (B : Int), .slice p.sA p.sn p.sc, .slice p.lA p.ln p.lc, .slice p.rA p.rn p.rc]) ∧ Blk W' (w.heap.size + 1) 29 #[.slice s.closed.A s.closed.n s.closed.c, .slice s.locked.A s.locked.n s.locked.c, .slice s.badLink.A s.badLink.n s.badLink.c, .slice s.on.A s.on.n s.on.c, .slice s.badSource.A s.badSource.n s.badSource.c, .slice s.earthed.A s.earthed.n s.earthed.c, .slice s.badBus.A s.badBus.n s.badBus.c]) ∧ IntB W' g H) ∧ (∃ v, Boxed W' (w2.heap.size + 1) 69 v ∧ W'.ownsRow W0.heap.size 86 2 v (clashOf p.srcs (feedTo (B := B) s p.srcs H p.sn) (fdVals (pre ++ [x]))).length (pairCells (clashOf p.srcs (feedTo (B := B) s p.srcs H p.sn) (fdVals (pre ++ [x])))) ∧ True)) ∧ (Below w.heap.size w W' ∧ KeepsFrom W0.heap.size W0 W'))) := by
        rw [fdVals_snoc, clashOf_snoc]
        rw [hys] at d6
        exact ⟨d8, d9, ⟨⟨⟨⟨d1, d2⟩, d3⟩, d4⟩, ⟨v, d5, d6, trivial⟩⟩, d7, b8.trans d8⟩
      clear d1 d2 d3 d4 d5 d6 d7 d8 d9
      gi_wp2
      exact HD.out
    case stop2 =>
      rintro c pre' W' _ h
      exact h.elim
  case done =>
    rintro D ys W hD hys ⟨⟨⟨⟨⟨b1, b2⟩, b3⟩, b4⟩, ⟨v, b5, b6, _⟩⟩, b7, b8⟩ hK
    rw [hys] at b6
    obtain ⟨A, c, rfl⟩ : ∃ A c, v = .slice A (clashOf p.srcs (feedTo (B := B) s p.srcs H p.sn) (feedTo (B := B) s p.srcs H p.sn)).length c := by
      rcases b6.2 with ⟨e, h0⟩ | ⟨g, cap, cur, e, _⟩
      · exact ⟨none, 0, by rw [e, h0]⟩
      · exact ⟨_, _, e⟩
    have cl := b5.cell
    have hDB : Hid (W.ownsRow W0.heap.size 86 2 (.slice A (clashOf p.srcs (feedTo (B := B) s p.srcs H p.sn) (feedTo (B := B) s p.srcs H p.sn)).length c) (clashOf p.srcs (feedTo (B := B) s p.srcs H p.sn) (feedTo (B := B) s p.srcs H p.sn)).length (pairCells (clashOf p.srcs (feedTo (B := B) s p.srcs H p.sn) (feedTo (B := B) s p.srcs H p.sn))) ∧ Below w.heap.size w W) := ⟨b6, b7⟩
    have hKD := Lib.hid hK
    clear b1 b2 b3 b4 b5 b6 b7 hK
    gi_wp2
    refine ⟨by simp, .inl ⟨_, _, rfl, run_takeDeferred hKD.out, ?_⟩⟩
    exact ⟨_, results_tmp2 rfl _ _ _, A, c, rfl, hDB.out.2.trans (belowK_b (w := w) (Nat.le_refl _) W D _ _ (by omega) hKD.out rfl rfl), ownsRow_putObj (hDB.out.1.mono_base (by omega)) _ hKD.out rfl⟩
  case stop =>
    rintro D c pre W _ _ h _
    exact h.elim
end Go.Proofs.YtcnmfblbfpcghaaGreatDoor
