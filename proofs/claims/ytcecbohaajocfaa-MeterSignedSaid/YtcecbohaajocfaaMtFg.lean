/- Readings of a slot: the closure of the reader, IndexFunc and ContainsFunc of it. -/
import Derived.Test.YtcecbohaajocfaaMtFc

set_option linter.unusedSimpArgs false
set_option linter.unusedVariables false
namespace Go.Proofs.Ytcecbohaajocfaa
open Go.RowKit

def hitR (x r : Rg) : Bool := decide (x.m = r.m) && decide (x.h = r.h)
theorem hitR_iff {x r : Rg} : hitR x r = true ↔ x.slot = r.slot := by
  unfold hitR Rg.slot
  rw [Bool.and_eq_true, decide_eq_true_eq, decide_eq_true_eq, Prod.mk.injEq]
set_option maxRecDepth 100000 in
theorem hit_any (x r : Rg) (bx : Nat) (w : World) (hb : Blk w bx 65 #[.int .i64 r.m, .int .i64 r.h, .int .i64 r.v]) :
    Calls Try.prog 53 #[.agg #[.int .i64 x.m, .int .i64 x.h, .int .i64 x.v], .pointer (some ⟨bx, 0, none⟩)] w fun e w' => e = .returned (.bool (hitR x r)) ∧ Below w.heap.size w w' := by
  have c0 := hb.cell 0
  have c1 := hb.cell 1
  simp only [List.getElem?_toArray, List.getElem?_cons_zero, List.getElem?_cons_succ] at c0 c1
  have zb := hb.lt
  have g1 : w.heap.size < w.heap.size + 1 := by omega
  obtain ⟨m, h, v⟩ := x
  obtain ⟨m2, h2, v2⟩ := r
  dsimp only at c0 c1 ⊢
  clear hb
  have H1 : Hid (m = m2 → h = h2 → hitR ⟨m, h, v⟩ ⟨m2, h2, v2⟩ = true) := Lib.hid (by rintro rfl rfl; simp [hitR])
  have H2 : Hid (m = m2 → h ≠ h2 → hitR ⟨m, h, v⟩ ⟨m2, h2, v2⟩ = false) := Lib.hid (by rintro rfl e; simp [hitR, e])
  have H3 : Hid (m ≠ m2 → hitR ⟨m, h, v⟩ ⟨m2, h2, v2⟩ = false) := Lib.hid (by intro e; simp [hitR, e])
  by_cases e1 : m = m2
  · by_cases e2 : h = h2
    · have HF := Lib.hid (H1.out e1 e2)
      clear H1 H2 H3
      subst e1 e2
      go_enter Try.func53, Try.ntmps53
      go_wp2
      go_ret
      exact ⟨by rw [HF.out]; rfl, by (repeat' (first | (with_reducible exact Below.refl _ _) | (with_reducible assumption) | (with_reducible refine below_drewN ?_ _) | (with_reducible refine below_after (by assumption) ?_ ?_) | (with_reducible refine Below.drew ?_) | (with_reducible refine Below.alloc ?_ ?_ _) | (with_reducible refine Below.setCell ?_ ?_ _) | omega | (simp; omega) | (simp; done)))⟩
    · have HF := Lib.hid (H2.out e1 e2)
      clear H1 H2 H3
      subst e1
      have f1 : (h == h2) = false := by rw [beq_eq_false_iff_ne]; exact e2
      go_enter Try.func53, Try.ntmps53
      go_wp2
      go_ret
      exact ⟨by rw [HF.out]; rfl, by (repeat' (first | (with_reducible exact Below.refl _ _) | (with_reducible assumption) | (with_reducible refine below_drewN ?_ _) | (with_reducible refine below_after (by assumption) ?_ ?_) | (with_reducible refine Below.drew ?_) | (with_reducible refine Below.alloc ?_ ?_ _) | (with_reducible refine Below.setCell ?_ ?_ _) | omega | (simp; omega) | (simp; done)))⟩
  · have HF := Lib.hid (H3.out e1)
    clear H1 H2 H3
    have f1 : (m == m2) = false := by rw [beq_eq_false_iff_ne]; exact e1
    go_enter Try.func53, Try.ntmps53
    go_wp2
    go_ret
    exact ⟨by rw [HF.out]; rfl, by (repeat' (first | (with_reducible exact Below.refl _ _) | (with_reducible assumption) | (with_reducible refine below_drewN ?_ _) | (with_reducible refine below_after (by assumption) ?_ ?_) | (with_reducible refine Below.drew ?_) | (with_reducible refine Below.alloc ?_ ?_ _) | (with_reducible refine Below.setCell ?_ ?_ _) | omega | (simp; omega) | (simp; done)))⟩
def hasR (l : List Rg) (r : Rg) : Bool := l.any fun x => hitR x r
theorem hasR_no {l : List Rg} {r : Rg} (h : ∀ i, i < l.length → hitR (rgA l i) r = false) : hasR l r = false := by
  unfold hasR
  rw [List.any_eq_false]
  intro x hx
  obtain ⟨i, hi, rfl⟩ := List.getElem_of_mem hx
  have := h i hi
  unfold rgA at this
  rw [List.getD_eq_getElem?_getD, List.getElem?_eq_getElem hi] at this
  simpa using this
theorem hasR_yes {l : List Rg} {r : Rg} {k : Nat} (hk : k < l.length) (h : hitR (rgA l k) r = true) : hasR l r = true := by
  unfold hasR
  rw [List.any_eq_true]
  refine ⟨l[k], List.getElem_mem hk, ?_⟩
  unfold rgA at h
  rw [List.getD_eq_getElem?_getD, List.getElem?_eq_getElem hk] at h
  simpa using h
set_option maxRecDepth 100000 in
set_option maxHeartbeats 2000000 in
theorem indexR (A : Option Addr) (n c : Nat) (l : List Rg) (r : Rg) (bx : Nat) (w : World) (hl : Rd w w.heap.size 3 Rg.enc A n l) (hn : n ≤ 1000000000) (hb : Blk w bx 65 #[.int .i64 r.m, .int .i64 r.h, .int .i64 r.v]) :
    Calls Try.prog 87 #[.slice A n c, .func (.func 53) #[] #[.pointer (some ⟨bx, 0, none⟩)]] w fun e w' => ∃ z : Int, e = .returned (.int .i64 z) ∧ decide (0 ≤ z) = hasR l r ∧ Below w.heap.size w w' := by
  have e2 : ∀ args W, Sem.run Try.prog (callFunc 53 args) W = .ok (.enter 53 args) W := enters_of Try.func53 (by kernel_rfl) rfl
  have HL := Lib.hid (And.intro hl hb)
  have hn0 : (0 : Int) ≤ (n : Int) := by omega
  clear hl hb
  go_enter Try.func87, Try.ntmps87
  go_wp2
  go_loopw [8] (fun i wr => ∃ k : Nat, k ≤ n ∧ i = .int .i64 ((k : Nat) : Int) ∧ Hid (Below w.heap.size w wr ∧ ∀ i, i < k → hitR (rgA l i) r = false)) (fun i _ => n - (intOf i).toNat)
  case atStart => exact ⟨0, by omega, rfl, Lib.hid ⟨Below.refl _ _, fun i hi => absurd hi (by omega)⟩⟩
  case round =>
    obtain ⟨k, hk, rfl, hB⟩ := hrel
    by_cases hlt : k < n
    · obtain ⟨ab, ao, eA, hab, ca0, ca1, ca2⟩ := rg_at HL.out.1 hlt
      have d0 := (hB.out.1.cell (p := ⟨ab, ao + k * 3, none⟩) hab).trans ca0
      have d1 := (hB.out.1.cell (p := ⟨ab, ao + k * 3 + 1, none⟩) hab).trans ca1
      have d2 := (hB.out.1.cell (p := ⟨ab, ao + k * 3 + 2, none⟩) hab).trans ca2
      have za : ab < wr.heap.size := Nat.lt_of_lt_of_le hab hB.out.1.size
      have K := Lib.hid (hit_any (rgA l k) r bx wr (HL.out.2.below hB.out.1 HL.out.2.lt))
      have HK : Hid (k < n ∧ l.length = n) := Lib.hid ⟨hlt, HL.out.1.1⟩
      have hk0 : (0 : Int) ≤ (k : Int) := by omega
      have hkn : (k : Int) < (n : Int) := by omega
      have wk : IntKind.i64.wrap ((k : Int) + 1) = (k : Int) + 1 := IntWalk.i64_in _ (by omega)
      obtain ⟨x, hx⟩ : ∃ z, z = rgA l k := ⟨_, rfl⟩
      rw [← hx] at d0 d1 d2 K
      obtain ⟨d, hd⟩ : ∃ z, z = hitR x r := ⟨_, rfl⟩
      rw [← hd] at K
      have HD : Hid (hitR (rgA l k) r = d) := Lib.hid (by rw [← hx, hd])
      clear ca0 ca1 ca2 hab hk hlt hx hd
      subst eA
      go_wp2_with fail
      refine K.out.mono ?_
      rintro e w2 ⟨rfl, hB2⟩
      have HB2 := Lib.hid (below3 hB.out.1 hB2 (Nat.le_refl _))
      clear hB2 d0 d1 d2 za
      cases d
      · have HN2 : Hid (Below w.heap.size w w2 ∧ ∀ i, i < k + 1 → hitR (rgA l i) r = false) := Lib.hid ⟨HB2.out, fun i hi => by
          rcases Nat.lt_succ_iff_lt_or_eq.1 hi with h | h
          · exact hB.out.2 i h
          · subst h; exact HD.out⟩
        go_wp2
        go_roundw
        case rel => exact ⟨k + 1, HK.out.1, by go_num, HN2⟩
        case measure => have := HK.out; simp [intOf]; omega
      · have HF : Hid (decide (0 ≤ ((k : Nat) : Int)) = hasR l r ∧ Below w.heap.size w w2) := Lib.hid ⟨by
          rw [hasR_yes (by rw [HK.out.2]; exact HK.out.1) HD.out]
          exact decide_eq_true (by omega), HB2.out⟩
        go_wp2
        go_ret
        exact ⟨_, rfl, HF.out⟩
    · obtain rfl : n = k := by omega
      have HF : Hid (decide ((0 : Int) ≤ (-1 : Int)) = hasR l r ∧ Below w.heap.size w wr) := Lib.hid ⟨by rw [hasR_no (fun i hi => hB.out.2 i (by have := HL.out.1.1; omega))]; decide, hB.out.1⟩
      clear hlt hk
      go_wp2
      go_ret
      exact ⟨_, rfl, HF.out⟩
theorem containsR (A : Option Addr) (n c : Nat) (l : List Rg) (r : Rg) (bx : Nat) (w : World) (hl : Rd w w.heap.size 3 Rg.enc A n l) (hn : n ≤ 1000000000) (hb : Blk w bx 65 #[.int .i64 r.m, .int .i64 r.h, .int .i64 r.v]) :
    Calls Try.prog 52 #[.slice A n c, .func (.func 53) #[] #[.pointer (some ⟨bx, 0, none⟩)]] w fun e w' => e = .returned (.bool (hasR l r)) ∧ Below w.heap.size w w' := by
  have K := Lib.hid (indexR A n c l r bx w hl hn hb)
  clear hl hb
  go_enter Try.func52, Try.ntmps52
  go_wp2_with fail
  refine K.out.mono ?_
  rintro e w2 ⟨z, rfl, hz, hB⟩
  have HB := Lib.hid (And.intro hz hB)
  clear hB hz
  go_wp2
  go_ret
  exact ⟨ret_bool (by simpa using HB.out.1), HB.out.2⟩
end Go.Proofs.Ytcecbohaajocfaa
