/- plant.forest[int].root. -/
import Derived.Test.YtcnmfblbfpcghaaGreatDoorInit
import Derived.BigQuiet
import Derived.Deep.RegionHeld3

set_option linter.unusedSimpArgs false
set_option linter.unusedVariables false
namespace Go.Proofs.YtcnmfblbfpcghaaGreatDoor
open Go.RowKit

def encN (n : Nat) : List Value := [.int .i64 n]
/-- The root of a number in a forest in which no number has a greater one above it. -/
def rootOf (l : List Nat) (x : Nat) : Nat := if _h : l[x]?.getD x < x then rootOf l (l[x]?.getD x) else x
termination_by x
def DownTo (l : List Nat) : Prop := ∀ (i y : Nat), l[i]? = some y → y ≤ i
theorem rootOf_step {l : List Nat} {x y : Nat} (h : l[x]? = some y) (hy : y < x) : rootOf l x = rootOf l y := by
  rw [rootOf]
  simp [h, hy]
theorem rootOf_end {l : List Nat} {x : Nat} (h : l[x]? = some x) : rootOf l x = x := by
  rw [rootOf]
  simp [h]
theorem cellN {w : World} {b o k : Nat} {x : Nat} (h : ∀ j u, (encN x)[j]? = some u → w.cell? ⟨b, o + k * 1 + j, none⟩ = some u) : w.cell? ⟨b, o + k, none⟩ = some (.int .i64 x) := by simpa using h 0 _ rfl
theorem root_any (A : Option Addr) (n c : Nat) (l : List Nat) (x : Nat) (w : World) (hl : Rd w w.heap.size 1 encN A n l) (hd : DownTo l) (hx : x < n) (hn : n ≤ 9223372036854775807) :
    Calls Tryz.prog 127 #[.agg #[.slice A n c], .int .i64 x] w fun e w' => e = .returned (.int .i64 (rootOf l x)) ∧ Below w.heap.size w w' := by
  have HL := Lib.hid hl
  have HD := Lib.hid hd
  clear hl hd
  go_enter Tryz.func127, Tryz.ntmps127
  (repeat' (first | go_values | go_skip | go_guarded | go_step | go_upon))
  go_loopw [1] (fun i wr => ∃ k : Nat, k < n ∧ i = .int .i64 k ∧ Hid (rootOf l k = rootOf l x) ∧ wr = w.alloc (.cells #[.slice A n c] 190)) (fun i _ => (intOf i).toNat)
  case atStart => exact ⟨x, hx, rfl, rfl, rfl⟩
  case round =>
    obtain ⟨k, hk, rfl, hE, rfl⟩ := hrel
    obtain ⟨b, off, y, rfl, hb, hy, hcx⟩ := HL.out.at_ hk
    have c0 := cellN hcx
    have hyk := HD.out k y hy
    have hk0 : (0 : Int) ≤ (k : Int) := by omega
    have hkn : (k : Int) < (n : Int) := by omega
    have HY := Lib.hid hy
    clear hy hcx
    by_cases hq : y = k
    · subst hq
      (repeat' (first | go_values | go_skip | go_guarded | go_step | go_upon))
      refine bodyPost_ret (v := .int .i64 (rootOf l x)) ?_ rfl ⟨rfl, by (repeat' (first | (with_reducible exact Below.refl _ _) | (with_reducible assumption) | (with_reducible refine below_drewN ?_ _) | (with_reducible refine below_after (by assumption) ?_ ?_) | (with_reducible refine Below.drew ?_) | (with_reducible refine Below.alloc ?_ ?_ _) | (with_reducible refine Below.setCell ?_ ?_ _) | omega | (simp; omega) | (simp; done)))⟩
      have := hE.out
      rw [rootOf_end HY.out] at this
      simp [results, Tryz.results127, go_sem, this]
    · have hq' : ¬ (y : Int) = (k : Int) := by omega
      (repeat' (first | go_values | go_skip | go_guarded | go_step | go_upon))
      go_roundw
      case rel => exact ⟨y, by omega, rfl, (rootOf_step HY.out (by omega)).symm.trans hE.out, trivial⟩
      case measure => simp [intOf]; omega
end Go.Proofs.YtcnmfblbfpcghaaGreatDoor

/- plant.newForest[int] and forest[int].join. -/
namespace Go.Proofs.YtcnmfblbfpcghaaGreatDoor
open Go.RowKit

def nums (l : List Nat) : Array Value := (l.map fun (x : Nat) => Value.int .i64 (x : Int)).toArray
/-- A block that is a list of numbers. -/
def NumB (w : World) (g : Nat) (l : List Nat) : Prop := Blk w g 3 (nums l)
section
variable {w w' : World} {g B : Nat} {l : List Nat}
theorem NumB.lt (h : NumB w g l) : g < w.heap.size := Blk.lt h
theorem NumB.cell (h : NumB w g l) {i x : Nat} (hx : l[i]? = some x) : w.cell? ⟨g, i, none⟩ = some (.int .i64 x) := by
  rw [Blk.cell h]
  simp [nums, hx]
theorem NumB.frozen (h : NumB w g l) (i : Nat) : w.frozen? ⟨g, i, none⟩ = false := Blk.frozen h i
theorem NumB.set_ (h : NumB w g l) (i x : Nat) : NumB (w.setCell ⟨g, i, none⟩ (.int .i64 x)) g (l.set i x) := by
  have e : nums (l.set i x) = (nums l).setIfInBounds i (.int .i64 (x : Int)) := by
    unfold nums
    rw [List.setIfInBounds_toArray, List.map_set]
  unfold NumB
  rw [e]
  exact Blk.set_ h i _
theorem NumB.far (h : NumB w g l) {p : Addr} (hp : g ≠ p.block) (u : Value) : NumB (w.setCell p u) g l := Blk.far h hp u
theorem NumB.alloc (h : NumB w g l) (o : Obj) : NumB (w.alloc o) g l := Blk.alloc h o
theorem NumB.below (h : NumB w g l) (hb : Below B w w') (hg : g < B) : NumB w' g l := Blk.below h hb hg
theorem NumB.next (h : NumB w g l) (hb : Below w.heap.size w w') : NumB w' g l := h.below hb h.lt
theorem NumB.rd (h : NumB w g l) (hg : g < B) : Rd w B 1 encN (some ⟨g, 0, none⟩) l.length l := by
  refine ⟨rfl, fun _ => ⟨g, 0, rfl, hg, fun i x hx j u hu => ?_⟩⟩
  unfold encN at hu
  match j, hu with
  | 0, hu =>
    simp only [List.getElem?_cons_zero, Option.some.injEq] at hu
    subst hu
    simpa using h.cell hx
end
theorem intInfo : (Tryz.prog.info? 3).map (fun i => (i.zero, i.size, i.bytes)) = some (some (.int .i64 0), 1, 8) := by kernel_rfl
theorem madeCells_int (n : Nat) : madeCells (Value.int .i64 0).cells n = nums (List.replicate n 0) := by
  unfold madeCells nums
  apply Array.ext
  · simp
  · intro i h1 h2
    have : i % 1 = 0 := Nat.mod_one i
    simp [Value.cells, this]
/-- make([]int, n). -/
theorem run_makeInts (n : Nat) (hn : n ≤ 140737488) (w : World) : (Instr.makeSlice 56 (.int .i64 n) (.int .i64 n)).run Tryz.prog w = .ok (.slice (some ⟨w.heap.size, 0, none⟩) n n) (w.alloc (.cells (nums (List.replicate n 0)) 3)) := by
  obtain ⟨i, hi, hz, hs, hb⟩ := info_parts intInfo
  have h := run_make (P := Tryz.prog) w 56 3 i _ Tryz.underlying56 hi hz .i64 .i64 n n (by omega) (by omega) (by rw [hb]; omega) (by omega)
  simp only [Int.toNat_natCast, hs, Nat.mul_one, madeCells_int] at h
  exact h
/-- The first k numbers stand for themselves, the others are 0. -/
def upTo (n k : Nat) : List Nat := (List.range n).map fun i => if i < k then i else 0
theorem upTo_zero (n : Nat) : List.replicate n 0 = upTo n 0 := by
  unfold upTo
  apply List.ext_getElem
  · simp
  · intro i h1 h2
    simp
theorem upTo_succ (n k : Nat) : (upTo n k).set k k = upTo n (k + 1) := by
  unfold upTo
  apply List.ext_getElem
  · simp
  · intro i h1 h2
    rw [List.getElem_set]
    split
    · rename_i h
      subst h
      simp
    · simp only [List.getElem_map, List.getElem_range]
      split <;> split <;> omega
theorem upTo_end (n : Nat) : upTo n n = List.range n := by
  unfold upTo
  apply List.ext_getElem
  · simp
  · intro i h1 h2
    simp only [List.getElem_map, List.getElem_range, List.length_map, List.length_range] at h1 ⊢
    rw [if_pos h1]
theorem newForest_any (n : Nat) (hn : n ≤ 24) (w : World) :
    Calls Tryz.prog 124 #[.int .i64 n] w fun e w' => ∃ g, e = .returned (.agg #[.slice (some ⟨g, 0, none⟩) n n]) ∧ Below w.heap.size w w' ∧ w.heap.size ≤ g ∧ NumB w' g (List.range n) := by
  go_enter Tryz.func124, Tryz.ntmps124
  (repeat' (first | go_values | go_skip | go_guarded | go_step | go_upon))
  rw [show ∀ W, Sem.run Tryz.prog (Instr.makeSlice 56 (.int .i64 n) (.int .i64 n)) W = _ from run_makeInts n (by omega), upTo_zero]
  (repeat' (first | go_values | go_skip | go_guarded | go_step | go_upon))
  go_loopw [11] (fun i wr => ∃ k : Nat, k ≤ n ∧ i = .int .i64 k ∧ Below w.heap.size w wr ∧ wr.heap.size = w.heap.size + 3 ∧ Blk wr (w.heap.size + 2) 190 #[.slice (some ⟨w.heap.size + 1, 0, none⟩) n n] ∧
      Blk wr w.heap.size 190 #[.slice none 0 0] ∧ Hid (NumB wr (w.heap.size + 1) (upTo n k))) (fun i _ => n - (intOf i).toNat)
  case atStart =>
    refine ⟨0, by omega, rfl, by (repeat' (first | (with_reducible exact Below.refl _ _) | (with_reducible assumption) | (with_reducible refine below_drewN ?_ _) | (with_reducible refine below_after (by assumption) ?_ ?_) | (with_reducible refine Below.drew ?_) | (with_reducible refine Below.alloc ?_ ?_ _) | (with_reducible refine Below.setCell ?_ ?_ _) | omega | (simp; omega) | (simp; done))), by simp, ?_, ?_, ?_⟩
    · have h := heap_alloc_new ((w.alloc (.cells #[.slice none 0 0] 190)).alloc (.cells (nums (upTo n 0)) 3)) (.cells #[.slice (some ⟨w.heap.size + 1, 0, none⟩) n n] 190)
      simp only [World.size_alloc] at h
      exact h
    · exact Blk.alloc (Blk.alloc (heap_alloc_new w _) _) _
    · have h := heap_alloc_new (w.alloc (.cells #[.slice none 0 0] 190)) (.cells (nums (upTo n 0)) 3)
      simp only [World.size_alloc] at h
      exact NumB.alloc h _
  case round =>
    obtain ⟨k, hk, rfl, hB, hz, b1, b2, hN⟩ := hrel
    have c1 : wr.cell? ⟨w.heap.size + 1 + 1, 0, none⟩ = some (.slice (some ⟨w.heap.size + 1, 0, none⟩) n n) := b1.cell 0
    have c2 : wr.cell? ⟨w.heap.size, 0, none⟩ = some (.slice none 0 0) := b2.cell 0
    have f2 := b2.frozen 0
    have B1 := Lib.hid b1
    have B2 := Lib.hid b2
    have hk0 : (0 : Int) ≤ (k : Int) := by omega
    clear b1 b2
    by_cases hlt : k < n
    · have hkn : (k : Int) < (n : Int) := by omega
      have cg : wr.cell? ⟨w.heap.size + 1, k, none⟩ = some (.int .i64 (0 : Nat)) := hN.out.cell (by simp [upTo, hlt])
      have fg := hN.out.frozen k
      (repeat' (first | go_values | go_skip | go_guarded | go_step | go_upon))
      go_roundw
      case rel =>
        refine ⟨k + 1, by omega, by go_num, by (repeat' (first | (with_reducible exact Below.refl _ _) | (with_reducible assumption) | (with_reducible refine below_drewN ?_ _) | (with_reducible refine below_after (by assumption) ?_ ?_) | (with_reducible refine Below.drew ?_) | (with_reducible refine Below.alloc ?_ ?_ _) | (with_reducible refine Below.setCell ?_ ?_ _) | omega | (simp; omega) | (simp; done))), by simp [hz], B1.out.far (by simp) _, B2.out.far (by simp) _, ?_⟩
        have h := hN.out.set_ k k
        rw [upTo_succ] at h
        exact h
      case measure => simp [intOf]; omega
    · obtain rfl : k = n := by omega
      (repeat' (first | go_values | go_skip | go_guarded | go_step | go_upon))
      refine bodyPost_ret (v := .agg #[.slice (some ⟨w.heap.size + 1, 0, none⟩) k k]) ?_ rfl ⟨_, rfl, by (repeat' (first | (with_reducible exact Below.refl _ _) | (with_reducible assumption) | (with_reducible refine below_drewN ?_ _) | (with_reducible refine below_after (by assumption) ?_ ?_) | (with_reducible refine Below.drew ?_) | (with_reducible refine Below.alloc ?_ ?_ _) | (with_reducible refine Below.setCell ?_ ?_ _) | omega | (simp; omega) | (simp; done))), by omega, ?_⟩
      · have := (B2.out.set_ 0 (.slice (some ⟨w.heap.size + 1, 0, none⟩) k k)).cell 0
        simp at this
        simp [results, Tryz.results124, go_sem, this]
      · have h := hN.out.far (p := ⟨w.heap.size, 0, none⟩) (by simp) (.slice (some ⟨w.heap.size + 1, 0, none⟩) k k)
        rw [upTo_end] at h
        exact h
end Go.Proofs.YtcnmfblbfpcghaaGreatDoor

/- plant.forest[int].join. -/
namespace Go.Proofs.YtcnmfblbfpcghaaGreatDoor
open Go.RowKit

/-- The forest in which the sets of two numbers are one. -/
def joinOf (l : List Nat) (a b : Nat) : List Nat := l.set (max (rootOf l a) (rootOf l b)) (min (rootOf l a) (rootOf l b))
theorem rootOf_le (l : List Nat) (x : Nat) : rootOf l x ≤ x := by
  induction x using Nat.strongRecOn with
  | _ x ih =>
    rw [rootOf]
    split
    · rename_i h
      exact Nat.le_trans (ih _ h) (Nat.le_of_lt h)
    · exact Nat.le_refl _
theorem JoinHeld.next {W0 w w' : World} {B : Nat} {p : Addr} {v : Value} (h : Below B W0 w ∧ w.cell? p = some v) (hB : B ≤ W0.heap.size) (hp : p.block < B) (hb : Below w.heap.size w w') : Below B W0 w' ∧ w'.cell? p = some v :=
  ⟨below_after hb hB h.1, (hb.cell (Nat.lt_of_lt_of_le hp (Nat.le_trans hB h.1.size))).trans h.2⟩
theorem JoinHeld.rd {w W : World} {o : Obj} {g : Nat} {l : List Nat} {n : Nat} {c : Prop} (h : Below (w.heap.size + 1) (w.alloc o) W ∧ c) (hl : NumB w g l) (hn : l.length = n) : Rd W W.heap.size 1 encN (some ⟨g, 0, none⟩) n l := by
  subst hn
  have h1 := hl.lt
  have h2 := (hl.alloc o).below h.1 (by omega)
  exact h2.rd h2.lt
set_option maxRecDepth 100000 in
theorem join_any (g n : Nat) (l : List Nat) (a b : Nat) (w : World) (hl : NumB w g l) (hn : l.length = n) (hd : DownTo l) (ha : a < n) (hb : b < n) (hm : n ≤ 24) :
    Calls Tryz.prog 126 #[.agg #[.slice (some ⟨g, 0, none⟩) n n], .int .i64 a, .int .i64 b] w fun e w' => e = .returned (.tuple #[]) ∧ w.grownBy w' (some g) ∧ NumB w' g (joinOf l a b) := by
  have HL := Lib.hid hl
  have HD := Lib.hid hd
  have hg := hl.lt
  clear hl hd
  go_enter Tryz.func126, Tryz.ntmps126
  (repeat' (first | go_values | go_skip | go_guarded | go_step | go_upon))
  go_region_held3 (fun w' => Below (w.heap.size + 1) (w.alloc (.cells #[.slice (some ⟨g, 0, none⟩) n n] 190)) w' ∧ w'.cell? ⟨w.heap.size, 0, none⟩ = some (.slice (some ⟨g, 0, none⟩) n n))
    (first | exact ⟨by (repeat' (first | (with_reducible exact Below.refl _ _) | (with_reducible assumption) | (with_reducible refine below_drewN ?_ _) | (with_reducible refine below_after (by assumption) ?_ ?_) | (with_reducible refine Below.drew ?_) | (with_reducible refine Below.alloc ?_ ?_ _) | (with_reducible refine Below.setCell ?_ ?_ _) | omega | (simp; omega) | (simp; done))), by simp [go_sem]⟩ | exact JoinHeld.next (by assumption) (by simp) (by simp) (by assumption))
    (first | (go_at_call 127; refine (root_any (some ⟨g, 0, none⟩) n n l _ _ (JoinHeld.rd (by assumption) HL.out hn) HD.out (by first | exact ha | exact hb) (by omega)).mono ?_; rintro e w' ⟨rfl, hB⟩))
  clear hB
  rename_i hS
  obtain ⟨hB, c0⟩ := hS
  have h1 := rootOf_le l a
  have h2 := rootOf_le l b
  have HN := Lib.hid ((HL.out.alloc _).below hB (by omega))
  have f0 := HN.out.frozen
  have hz := hB.size
  simp only [World.size_alloc] at hz
  have hg2 : g < w'.heap.size := by omega
  generalize hx : rootOf l a = x at *
  generalize hy : rootOf l b = y at *
  have hxl : x < l.length := by omega
  have hyl : y < l.length := by omega
  obtain ⟨u, cx⟩ : ∃ u : Nat, w'.cell? ⟨g, x, none⟩ = some (.int .i64 u) := ⟨_, HN.out.cell (List.getElem?_eq_getElem hxl)⟩
  obtain ⟨v, cy⟩ : ∃ u : Nat, w'.cell? ⟨g, y, none⟩ = some (.int .i64 u) := ⟨_, HN.out.cell (List.getElem?_eq_getElem hyl)⟩
  have hG : ∀ (i : Nat) (u : Value), w.grownBy (w'.setCell ⟨g, i, none⟩ u) (some g) := by
    intro i u
    have e := hB
    refine ⟨e.os, e.tape, e.output, by simp; omega, fun k hk hne => ?_⟩
    rw [Below.heap_setCell w' ⟨g, i, none⟩ u k (fun h => hne (by simp [h]))]
    rw [hB.block k (by omega), Below.heap_alloc w _ k hk]
  have HG := Lib.hid hG
  have hm1 : x < y → max x y = y ∧ min x y = x := by omega
  have hm2 : ¬ x < y → max x y = x ∧ min x y = y := by omega
  clear hG hxl hyl
  by_cases hq : x < y
  · have hr : ¬ y < x := by omega
    (repeat' (first | go_values | go_skip | go_guarded | go_step | go_upon))
    refine bodyPost_end (v := .tuple #[]) ?_ rfl ⟨rfl, HG.out _ _, ?_⟩
    · simp [results, Tryz.results126, go_sem]
    · have h := HN.out.set_ y x
      unfold joinOf
      rw [hx, hy, (hm1 hq).1, (hm1 hq).2]
      exact h
  · have e1 := hm2 hq
    by_cases hr : y < x
    · (repeat' (first | go_values | go_skip | go_guarded | go_step | go_upon))
      refine bodyPost_end (v := .tuple #[]) ?_ rfl ⟨rfl, HG.out _ _, ?_⟩
      · simp [results, Tryz.results126, go_sem]
      · have h := HN.out.set_ x y
        unfold joinOf
        rw [hx, hy, e1.1, e1.2]
        exact h
    · obtain rfl : x = y := by omega
      (repeat' (first | go_values | go_skip | go_guarded | go_step | go_upon))
      refine bodyPost_end (v := .tuple #[]) ?_ rfl ⟨rfl, HG.out _ _, ?_⟩
      · simp [results, Tryz.results126, go_sem]
      · have h := HN.out.set_ x x
        unfold joinOf
        rw [hx, hy, e1.1, e1.2]
        exact h
end Go.Proofs.YtcnmfblbfpcghaaGreatDoor
