/- meter: a reading enters a register. -/
import Derived.Test.YtcecbohaajocfaaMtFa
import Derived.Test.YtcecbohaajocfaaMtFb

set_option linter.unusedSimpArgs false
set_option linter.unusedVariables false
namespace Go.Proofs.Ytcecbohaajocfaa
open Go.RowKit

def Rg.slot (r : Rg) : Int × Int := (r.m, r.h)
theorem wf64 {x : Int} (h : 0 ≤ x ∧ x ≤ 1000000000) : (Lit.int .i64 x).wf = true := by
  simp only [Lit.wf, Bool.and_eq_true, decide_eq_true_eq]
  have e1 : IntKind.i64.min = -9223372036854775808 := rfl
  have e2 : IntKind.i64.max = 9223372036854775807 := rfl
  rw [e1, e2]
  omega
set_option maxRecDepth 100000 in
set_option maxHeartbeats 2000000 in
theorem enter_any (b : Nat) (met : List (Int × Int)) (r : Rg) (ok : RgOk r) (w : World) (hr : RegS w b met) (hn : r.slot ∉ met) (hl : met.length ≤ 10000) :
    Calls Try.prog 55 #[.map (some b), .agg #[.int .i64 r.m, .int .i64 r.h, .int .i64 r.v]] w fun e w' => e = .returned (.int .i64 0) ∧ RegS w' b (r.slot :: met) ∧ Keep (fun x => x = b) w w' := by
  have KR := Lib.hid (fun W => rightR_any r ok W)
  have hm := wf64 (x := r.m) (by have := ok.m; omega)
  have hh := wf64 (x := r.h) ok.h
  have HW := Lib.hid (And.intro hr (And.intro hn (And.intro hl (And.intro hm hh))))
  have hbz : b < w.heap.size := by obtain ⟨D, h1, _⟩ := hr; exact h1.lt
  have HBZ := Lib.hid hbz
  obtain ⟨m, h, v⟩ := r
  dsimp only at KR HW ⊢
  have g1 : w.heap.size < w.heap.size + 1 := by omega
  clear hr hn hl hm hh ok hbz
  go_enter Try.func55, Try.ntmps55
  go_wp2_with fail
  refine (KR.out _).mono ?_
  rintro e w2 ⟨rfl, hB⟩
  obtain ⟨xb, hxb⟩ : ∃ z, z = w.heap.size := ⟨_, rfl⟩
  obtain ⟨w1, hw1⟩ : ∃ z, z = w.alloc (.cells #[.int .i64 m, .int .i64 h, .int .i64 v] 65) := ⟨_, rfl⟩
  have hb1 : Below w.heap.size w w1 := by rw [hw1]; exact (Below.refl _ _).alloc (Nat.le_refl _) _
  have hx1 : Blk w1 xb 65 #[.int .i64 m, .int .i64 h, .int .i64 v] := by rw [hw1, hxb]; exact heap_alloc_new w _
  rw [← hw1] at hB
  rw [← hxb]
  have HX := Lib.hid (hx1.below hB hx1.lt)
  have HB2 := Lib.hid (below3 hb1 hB (Nat.le_refl _))
  clear hw1 hb1 hx1 hB hxb g1
  have c0 := HX.out.cell 0
  have c1 := HX.out.cell 1
  simp only [List.getElem?_toArray, List.getElem?_cons_zero, List.getElem?_cons_succ] at c0 c1
  have zx := HX.out.lt
  have g1 : w2.heap.size < w2.heap.size + 1 := by omega
  obtain ⟨w3, hw3⟩ : ∃ z, z = w2.alloc (.cells #[.int .i64 m, .int .i64 h] 159) := ⟨_, rfl⟩
  have hb3 : Below w.heap.size w w3 := by rw [hw3]; exact below3 HB2.out ((Below.refl _ _).alloc (Nat.le_refl _) _) (Nat.le_refl _)
  have hr3 := HW.out.1.next hb3
  have hlook := hr3.look m h HW.out.2.2.2.1 HW.out.2.2.2.2
  rw [show decide ((m, h) ∈ met) = false from decide_eq_false HW.out.2.1] at hlook
  obtain ⟨w4, hput, hr4, hg4⟩ := hr3.put m h HW.out.2.2.2.1 HW.out.2.2.2.2 HW.out.2.2.1
  have HF : Hid (RegS w4 b ((m, h) :: met) ∧ Keep (fun x => x = b) w w4) := Lib.hid ⟨hr4, by
    have hk : Keep (fun x => x = b) w w3 := Keep.of_below hb3
    exact hk.trans ⟨hg4.os, hg4.tape, hg4.output, hg4.size, fun k hk hne => hg4.block k hk (fun e => hne (Option.some.inj e))⟩⟩
  have HW3 := Lib.hid hw3
  rw [hw3] at hlook hput
  clear hr3 hr4 hg4 hb3 hw3
  go_wp2
  go_ret
  exact ⟨rfl, HF.out⟩
theorem RegS.kept {W W' : World} {b : Nat} {met : List (Int × Int)} {row : Option Nat} (h : RegS W b met) (hg : W.grownBy W' row) (hne : some b ≠ row) : RegS W' b met := by
  obtain ⟨D, h1, h2⟩ := h
  exact ⟨D, h1.kept hg hne, h2⟩
theorem RegS.lt {W : World} {b : Nat} {met : List (Int × Int)} (h : RegS W b met) : b < W.heap.size := by obtain ⟨D, h1, _⟩ := h; exact h1.lt
theorem RegS.ne {W : World} {b : Nat} {met : List (Int × Int)} (h : RegS W b met) {z n size : Nat} {e : TypeId} {v : Value} {xs : List Value} (hr : W.ownsRow z e size v n xs) : v.ownBlock ≠ some b := by
  obtain ⟨D, ⟨es, clock, hb, _⟩, _⟩ := h
  intro e9
  rcases hr.2 with ⟨rfl, _⟩ | ⟨g, cap, cur, rfl, _, hg, _⟩
  · simp [Value.ownBlock] at e9
  · have : g = b := by simpa [Value.ownBlock] using e9
    subst this
    rw [hg] at hb
    cases hb
theorem RegS.neB {W : World} {b g : Nat} {T : TypeId} {cs : Array Value} {met : List (Int × Int)} (h : RegS W b met) (hr : Blk W g T cs) : g ≠ b := by
  obtain ⟨D, ⟨es, clock, hb, _⟩, _⟩ := h
  rintro rfl
  have e2 := (show W.heap[g]? = _ from hr).symm.trans hb
  cases e2
/-- Signs of readings, one behind the other. -/
def rgA (l : List Rg) (i : Nat) : Rg := l.getD i ⟨0, 0, 0⟩
def sgK (key : Int) (l : List Rg) : Nat → Int
  | 0 => mixF key 1
  | k + 1 => signF key (sgK key l k) (rgA l k)
abbrev Lk := Rg × Int
def encLk (x : Lk) : List Value := [.int .i64 x.1.m, .int .i64 x.1.h, .int .i64 x.1.v, .int .u64 x.2]
def chL (key : Int) (l : List Rg) (k : Nat) : List Lk := (List.range k).map fun i => (rgA l i, sgK key l (i + 1))
theorem chL_succ (key : Int) (l : List Rg) (k : Nat) : chL key l (k + 1) = chL key l k ++ [(rgA l k, sgK key l (k + 1))] := by simp [chL, List.range_succ]
theorem chL_len (key : Int) (l : List Rg) (k : Nat) : (chL key l k).length = k := by simp [chL]
def slotsK (l : List Rg) : Nat → List (Int × Int)
  | 0 => []
  | k + 1 => (rgA l k).slot :: slotsK l k
theorem slotsK_len (l : List Rg) (k : Nat) : (slotsK l k).length = k := by
  induction k with
  | zero => rfl
  | succ k ih => simp [slotsK, ih]
theorem slotsK_not {l : List Rg} (hd : ∀ i j, i < j → j < l.length → (rgA l i).slot ≠ (rgA l j).slot) {k : Nat} (hk : k < l.length) : ∀ j, j ≤ k → (rgA l k).slot ∉ slotsK l j := by
  intro j
  induction j with
  | zero => intro _; simp [slotsK]
  | succ j ih =>
    intro hj h
    rcases List.mem_cons.1 h with h | h
    · exact hd j k (by omega) hk h.symm
    · exact ih (by omega) h
theorem rg_at {w : World} {B n k : Nat} {A : Option Addr} {l : List Rg} (h : Rd w B 3 Rg.enc A n l) (hk : k < n) : ∃ b o, A = some ⟨b, o, none⟩ ∧ b < B ∧ w.cell? ⟨b, o + k * 3, none⟩ = some (.int .i64 (rgA l k).m) ∧ w.cell? ⟨b, o + k * 3 + 1, none⟩ = some (.int .i64 (rgA l k).h) ∧ w.cell? ⟨b, o + k * 3 + 2, none⟩ = some (.int .i64 (rgA l k).v) := by
  obtain ⟨b, o, x, e, hb, hx, hc⟩ := h.at_ hk
  have hs : rgA l k = x := by unfold rgA; rw [List.getD_eq_getElem?_getD, hx]; rfl
  rw [hs]
  exact ⟨b, o, e, hb, hc 0 _ rfl, hc 1 _ rfl, hc 2 _ rfl⟩
/-- Readings that enter one after the other. -/
structure RgsOk (l : List Rg) : Prop where
  ok : ∀ i, i < l.length → RgOk (rgA l i)
  dis : ∀ i j, i < j → j < l.length → (rgA l i).slot ≠ (rgA l j).slot
end Go.Proofs.Ytcecbohaajocfaa
