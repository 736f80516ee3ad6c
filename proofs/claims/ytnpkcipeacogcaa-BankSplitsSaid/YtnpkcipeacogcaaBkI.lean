/- bank: Check and its kin where all is valid. -/
import Derived.Test.YtnpkcipeacogcaaBkH

set_option linter.unusedSimpArgs false
set_option linter.unusedVariables false
namespace Go.Proofs.Ytnpkcipeacogcaa
open Go.RowKit

theorem within_yes (n a b : Int) (w : World) (h : a ≤ n ∧ n ≤ b) : Calls Try.prog 57 #[.int .i64 n, .int .i64 a, .int .i64 b] w fun e w' => e = .returned (.bool true) ∧ w' = w := by
  refine (within_any n a b w).mono ?_
  rintro e w' ⟨h1, h2⟩
  rw [decide_eq_true h] at h1
  exact ⟨h1, h2⟩

set_option maxRecDepth 100000 in
theorem right_bat (x : Bat) (w : World) (h : BatOk x) : Calls Try.prog 63 #[.agg #[.int .i64 x.energy, .int .i64 x.full, .int .i64 x.power, .int .i64 x.charge]] w fun e w' => e = .returned (.bool true) ∧ Below w.heap.size w w' := by
  have h0 : 0 ≤ x.full ∧ x.full ≤ 100000000000 := by obtain ⟨_, _, _, _, _, _, _⟩ := h; omega
  have h1 : 0 ≤ x.energy ∧ x.energy ≤ x.full := by obtain ⟨_, _, _, _, _, _, _⟩ := h; omega
  have h2 : 0 ≤ x.power ∧ x.power ≤ 1000000 := by obtain ⟨_, _, _, _, _, _, _⟩ := h; omega
  have h3 : 0 ≤ x.charge ∧ x.charge ≤ 1000000 := by obtain ⟨_, _, _, _, _, _, _⟩ := h; omega
  have K0 := Lib.hid (fun W => within_yes x.full 0 100000000000 W h0)
  have K1 := Lib.hid (fun W => within_yes x.energy 0 x.full W h1)
  have K2 := Lib.hid (fun W => within_yes x.power 0 1000000 W h2)
  have K3 := Lib.hid (fun W => within_yes x.charge 0 1000000 W h3)
  clear h0 h1 h2 h3
  clear h
  go_enter Try.func63, Try.ntmps63
  go_wp2_with fail
  refine (K0.out _).mono ?_
  rintro e w2 ⟨rfl, rfl⟩
  go_wp2_with fail
  refine (K1.out _).mono ?_
  rintro e w2 ⟨rfl, rfl⟩
  go_wp2_with fail
  refine (K2.out _).mono ?_
  rintro e w2 ⟨rfl, rfl⟩
  go_wp2_with fail
  refine (K3.out _).mono ?_
  rintro e w2 ⟨rfl, rfl⟩
  go_wp2
  go_ret
  exact ⟨rfl, by (repeat' (first | (with_reducible exact Below.refl _ _) | (with_reducible assumption) | (with_reducible refine below_drewN ?_ _) | (with_reducible refine below_after (by assumption) ?_ ?_) | (with_reducible refine Below.drew ?_) | (with_reducible refine Below.alloc ?_ ?_ _) | (with_reducible refine Below.setCell ?_ ?_ _) | omega | (simp; omega) | (simp; done)))⟩
theorem all1_bat (x : Bat) (bx : Nat) (w : World) (h : BatOk x) (hb : bx < w.heap.size) (hc : w.cell? ⟨bx, 0, none⟩ = some (.func (.func 63) #[] #[])) : Calls Try.prog 69 #[.agg #[.int .i64 x.energy, .int .i64 x.full, .int .i64 x.power, .int .i64 x.charge], .pointer (some ⟨bx, 0, none⟩)] w fun e w' => e = .returned (.bool false) ∧ Below w.heap.size w w' := by
  have K := Lib.hid (fun W => right_bat x W h)
  have eg : ∀ args W, Sem.run Try.prog (callFunc 63 args) W = .ok (.enter 63 args) W := enters_of Try.func63 (by kernel_rfl) rfl
  clear h
  go_enter Try.func69, Try.ntmps69
  go_wp2_with fail
  refine (K.out _).mono ?_
  rintro e w2 ⟨rfl, hB⟩
  have HB : Hid (Below w.heap.size w w2) := Lib.hid (((Below.refl w.heap.size w).alloc (Nat.le_refl _) _).trans (hB.mono (by simp)))
  clear hB
  go_wp2
  go_ret
  exact ⟨rfl, HB.out⟩
set_option maxRecDepth 100000 in
theorem index_bat (A : Option Addr) (n c : Nat) (l : List Bat) (bx : Nat) (w : World) (hl : Rd w w.heap.size 4 Bat.enc A n l) (hn : n ≤ 1000) (hok : ∀ x ∈ l, BatOk x) (hb : bx < w.heap.size) (hc : w.cell? ⟨bx, 0, none⟩ = some (.func (.func 63) #[] #[])) :
    Calls Try.prog 73 #[.slice A n c, .func (.func 69) #[] #[.pointer (some ⟨bx, 0, none⟩)]] w fun e w' => e = .returned (.int .i64 (-1)) ∧ Below w.heap.size w w' := by
  have HL := Lib.hid hl
  have HO := Lib.hid hok
  have HC := Lib.hid hc
  have eg : ∀ args W, Sem.run Try.prog (callFunc 69 args) W = .ok (.enter 69 args) W := enters_of Try.func69 (by kernel_rfl) rfl
  clear hl hok hc
  go_enter Try.func73, Try.ntmps73
  go_wp2
  go_loopw [8] (fun i wr => ∃ k : Nat, k ≤ n ∧ i = .int .i64 k ∧ Hid (Below w.heap.size w wr)) (fun i _ => n - (intOf i).toNat)
  case atStart => exact ⟨0, by omega, rfl, Below.refl _ _⟩
  case round =>
    obtain ⟨k, hk, rfl, hB⟩ := hrel
    by_cases hlt : k < n
    · obtain ⟨b, off, x, e1, hb2, hx, hcx⟩ := (HL.out.below hB.out).at_ hlt
      have hz := hB.out.size
      have K := Lib.hid (all1_bat x bx wr (HO.out x (List.mem_of_getElem? hx)) (by omega) ((hB.out.cell (p := ⟨bx, 0, none⟩) hb).trans HC.out))
      have x0 : wr.cell? ⟨b, off + k * 4, none⟩ = some (.int .i64 x.energy) := by simpa using hcx 0 _ rfl
      have x1 : wr.cell? ⟨b, off + k * 4 + 1, none⟩ = some (.int .i64 x.full) := by simpa using hcx 1 _ rfl
      have x2 : wr.cell? ⟨b, off + k * 4 + 2, none⟩ = some (.int .i64 x.power) := by simpa using hcx 2 _ rfl
      have x3 : wr.cell? ⟨b, off + k * 4 + 3, none⟩ = some (.int .i64 x.charge) := by simpa using hcx 3 _ rfl
      have zb : b < wr.heap.size := by omega
      have hk0 : (0 : Int) ≤ (k : Int) := by omega
      have hkn : (k : Int) < (n : Int) := by omega
      subst e1
      clear hx hcx
      go_wp2_with fail
      refine K.out.mono ?_
      rintro e w2 ⟨rfl, hB2⟩
      have HB2 := Lib.hid (hB.out.trans (hB2.mono hz))
      clear hB2
      go_wp2
      go_roundw
      case rel => exact ⟨k + 1, by omega, by go_num, HB2⟩
      case measure => simp [intOf]; omega
    · obtain rfl : k = n := by omega
      go_wp2
      go_ret
      exact ⟨rfl, hB.out⟩
theorem all_bat (A : Option Addr) (n c : Nat) (l : List Bat) (w : World) (hl : Rd w w.heap.size 4 Bat.enc A n l) (hn : n ≤ 1000) (hok : ∀ x ∈ l, BatOk x) :
    Calls Try.prog 62 #[.slice A n c, .func (.func 63) #[] #[]] w fun e w' => e = .returned (.bool true) ∧ Below w.heap.size w w' := by
  have KI := Lib.hid (fun W bx (h : Rd W W.heap.size 4 Bat.enc A n l) hb hc => index_bat A n c l bx W h hn hok hb hc)
  have KC : Hid (∀ (W : World) (bx : Nat) (h : Rd W W.heap.size 4 Bat.enc A n l) (hb : bx < W.heap.size) (hc : W.cell? ⟨bx, 0, none⟩ = some (.func (.func 63) #[] #[])), Calls Try.prog 68 #[.slice A n c, .func (.func 69) #[] #[.pointer (some ⟨bx, 0, none⟩)]] W fun e w' => e = .returned (.bool false) ∧ Below W.heap.size W w') := Lib.hid (by
    intro W bx h hb hc
    have K := Lib.hid (KI.out W bx h hb hc)
    clear h hc
    go_enter Try.func68, Try.ntmps68
    go_wp2_with fail
    refine K.out.mono ?_
    rintro e w2 ⟨rfl, hB⟩
    have HB := Lib.hid hB
    clear hB
    go_wp2
    go_ret
    exact ⟨rfl, HB.out⟩)
  have HL := Lib.hid hl
  clear hl hok KI
  go_enter Try.func62, Try.ntmps62
  go_wp2_with fail
  refine (KC.out _ w.heap.size (HL.out.next (by (repeat' (first | (with_reducible exact Below.refl _ _) | (with_reducible assumption) | (with_reducible refine below_drewN ?_ _) | (with_reducible refine below_after (by assumption) ?_ ?_) | (with_reducible refine Below.drew ?_) | (with_reducible refine Below.alloc ?_ ?_ _) | (with_reducible refine Below.setCell ?_ ?_ _) | omega | (simp; omega) | (simp; done))))) (by simp) (by simp [go_sem])).mono ?_
  rintro e w2 ⟨rfl, hB⟩
  have HB : Hid (Below w.heap.size w w2) := Lib.hid (((Below.refl w.heap.size w).alloc (Nat.le_refl _) _).trans (hB.mono (by simp)))
  clear hB
  go_wp2
  go_ret
  exact ⟨rfl, HB.out⟩

set_option maxRecDepth 100000 in
theorem right_gen (x : Gen) (w : World) (h : GenOk x) : Calls Try.prog 65 #[.agg #[.int .i64 x.power, .int .i64 x.ramp, .int .i64 x.delay, .int .i64 x.pause, .int .i64 x.tries]] w fun e w' => e = .returned (.bool true) ∧ Below w.heap.size w w' := by
  have h0 : 0 ≤ x.power ∧ x.power ≤ 1000000 := by obtain ⟨_, _, _, _, _, _, _, _, _, _⟩ := h; omega
  have h1 : 0 ≤ x.ramp ∧ x.ramp ≤ 1000000 := by obtain ⟨_, _, _, _, _, _, _, _, _, _⟩ := h; omega
  have h2 : 0 ≤ x.delay ∧ x.delay ≤ 3600 := by obtain ⟨_, _, _, _, _, _, _, _, _, _⟩ := h; omega
  have h3 : 0 ≤ x.pause ∧ x.pause ≤ 3600 := by obtain ⟨_, _, _, _, _, _, _, _, _, _⟩ := h; omega
  have h4 : 1 ≤ x.tries ∧ x.tries ≤ 5 := by obtain ⟨_, _, _, _, _, _, _, _, _, _⟩ := h; omega
  have K0 := Lib.hid (fun W => within_yes x.power 0 1000000 W h0)
  have K1 := Lib.hid (fun W => within_yes x.ramp 0 1000000 W h1)
  have K2 := Lib.hid (fun W => within_yes x.delay 0 3600 W h2)
  have K3 := Lib.hid (fun W => within_yes x.pause 0 3600 W h3)
  have K4 := Lib.hid (fun W => within_yes x.tries 1 5 W h4)
  clear h0 h1 h2 h3 h4
  clear h
  go_enter Try.func65, Try.ntmps65
  go_wp2_with fail
  refine (K0.out _).mono ?_
  rintro e w2 ⟨rfl, rfl⟩
  go_wp2_with fail
  refine (K1.out _).mono ?_
  rintro e w2 ⟨rfl, rfl⟩
  go_wp2_with fail
  refine (K2.out _).mono ?_
  rintro e w2 ⟨rfl, rfl⟩
  go_wp2_with fail
  refine (K3.out _).mono ?_
  rintro e w2 ⟨rfl, rfl⟩
  go_wp2_with fail
  refine (K4.out _).mono ?_
  rintro e w2 ⟨rfl, rfl⟩
  go_wp2
  go_ret
  exact ⟨rfl, by (repeat' (first | (with_reducible exact Below.refl _ _) | (with_reducible assumption) | (with_reducible refine below_drewN ?_ _) | (with_reducible refine below_after (by assumption) ?_ ?_) | (with_reducible refine Below.drew ?_) | (with_reducible refine Below.alloc ?_ ?_ _) | (with_reducible refine Below.setCell ?_ ?_ _) | omega | (simp; omega) | (simp; done)))⟩
theorem all1_gen (x : Gen) (bx : Nat) (w : World) (h : GenOk x) (hb : bx < w.heap.size) (hc : w.cell? ⟨bx, 0, none⟩ = some (.func (.func 65) #[] #[])) : Calls Try.prog 71 #[.agg #[.int .i64 x.power, .int .i64 x.ramp, .int .i64 x.delay, .int .i64 x.pause, .int .i64 x.tries], .pointer (some ⟨bx, 0, none⟩)] w fun e w' => e = .returned (.bool false) ∧ Below w.heap.size w w' := by
  have K := Lib.hid (fun W => right_gen x W h)
  have eg : ∀ args W, Sem.run Try.prog (callFunc 65 args) W = .ok (.enter 65 args) W := enters_of Try.func65 (by kernel_rfl) rfl
  clear h
  go_enter Try.func71, Try.ntmps71
  go_wp2_with fail
  refine (K.out _).mono ?_
  rintro e w2 ⟨rfl, hB⟩
  have HB : Hid (Below w.heap.size w w2) := Lib.hid (((Below.refl w.heap.size w).alloc (Nat.le_refl _) _).trans (hB.mono (by simp)))
  clear hB
  go_wp2
  go_ret
  exact ⟨rfl, HB.out⟩
set_option maxRecDepth 100000 in
theorem index_gen (A : Option Addr) (n c : Nat) (l : List Gen) (bx : Nat) (w : World) (hl : Rd w w.heap.size 5 Gen.enc A n l) (hn : n ≤ 1000) (hok : ∀ x ∈ l, GenOk x) (hb : bx < w.heap.size) (hc : w.cell? ⟨bx, 0, none⟩ = some (.func (.func 65) #[] #[])) :
    Calls Try.prog 74 #[.slice A n c, .func (.func 71) #[] #[.pointer (some ⟨bx, 0, none⟩)]] w fun e w' => e = .returned (.int .i64 (-1)) ∧ Below w.heap.size w w' := by
  have HL := Lib.hid hl
  have HO := Lib.hid hok
  have HC := Lib.hid hc
  have eg : ∀ args W, Sem.run Try.prog (callFunc 71 args) W = .ok (.enter 71 args) W := enters_of Try.func71 (by kernel_rfl) rfl
  clear hl hok hc
  go_enter Try.func74, Try.ntmps74
  go_wp2
  go_loopw [8] (fun i wr => ∃ k : Nat, k ≤ n ∧ i = .int .i64 k ∧ Hid (Below w.heap.size w wr)) (fun i _ => n - (intOf i).toNat)
  case atStart => exact ⟨0, by omega, rfl, Below.refl _ _⟩
  case round =>
    obtain ⟨k, hk, rfl, hB⟩ := hrel
    by_cases hlt : k < n
    · obtain ⟨b, off, x, e1, hb2, hx, hcx⟩ := (HL.out.below hB.out).at_ hlt
      have hz := hB.out.size
      have K := Lib.hid (all1_gen x bx wr (HO.out x (List.mem_of_getElem? hx)) (by omega) ((hB.out.cell (p := ⟨bx, 0, none⟩) hb).trans HC.out))
      have x0 : wr.cell? ⟨b, off + k * 5, none⟩ = some (.int .i64 x.power) := by simpa using hcx 0 _ rfl
      have x1 : wr.cell? ⟨b, off + k * 5 + 1, none⟩ = some (.int .i64 x.ramp) := by simpa using hcx 1 _ rfl
      have x2 : wr.cell? ⟨b, off + k * 5 + 2, none⟩ = some (.int .i64 x.delay) := by simpa using hcx 2 _ rfl
      have x3 : wr.cell? ⟨b, off + k * 5 + 3, none⟩ = some (.int .i64 x.pause) := by simpa using hcx 3 _ rfl
      have x4 : wr.cell? ⟨b, off + k * 5 + 4, none⟩ = some (.int .i64 x.tries) := by simpa using hcx 4 _ rfl
      have zb : b < wr.heap.size := by omega
      have hk0 : (0 : Int) ≤ (k : Int) := by omega
      have hkn : (k : Int) < (n : Int) := by omega
      subst e1
      clear hx hcx
      go_wp2_with fail
      refine K.out.mono ?_
      rintro e w2 ⟨rfl, hB2⟩
      have HB2 := Lib.hid (hB.out.trans (hB2.mono hz))
      clear hB2
      go_wp2
      go_roundw
      case rel => exact ⟨k + 1, by omega, by go_num, HB2⟩
      case measure => simp [intOf]; omega
    · obtain rfl : k = n := by omega
      go_wp2
      go_ret
      exact ⟨rfl, hB.out⟩
theorem all_gen (A : Option Addr) (n c : Nat) (l : List Gen) (w : World) (hl : Rd w w.heap.size 5 Gen.enc A n l) (hn : n ≤ 1000) (hok : ∀ x ∈ l, GenOk x) :
    Calls Try.prog 64 #[.slice A n c, .func (.func 65) #[] #[]] w fun e w' => e = .returned (.bool true) ∧ Below w.heap.size w w' := by
  have KI := Lib.hid (fun W bx (h : Rd W W.heap.size 5 Gen.enc A n l) hb hc => index_gen A n c l bx W h hn hok hb hc)
  have KC : Hid (∀ (W : World) (bx : Nat) (h : Rd W W.heap.size 5 Gen.enc A n l) (hb : bx < W.heap.size) (hc : W.cell? ⟨bx, 0, none⟩ = some (.func (.func 65) #[] #[])), Calls Try.prog 70 #[.slice A n c, .func (.func 71) #[] #[.pointer (some ⟨bx, 0, none⟩)]] W fun e w' => e = .returned (.bool false) ∧ Below W.heap.size W w') := Lib.hid (by
    intro W bx h hb hc
    have K := Lib.hid (KI.out W bx h hb hc)
    clear h hc
    go_enter Try.func70, Try.ntmps70
    go_wp2_with fail
    refine K.out.mono ?_
    rintro e w2 ⟨rfl, hB⟩
    have HB := Lib.hid hB
    clear hB
    go_wp2
    go_ret
    exact ⟨rfl, HB.out⟩)
  have HL := Lib.hid hl
  clear hl hok KI
  go_enter Try.func64, Try.ntmps64
  go_wp2_with fail
  refine (KC.out _ w.heap.size (HL.out.next (by (repeat' (first | (with_reducible exact Below.refl _ _) | (with_reducible assumption) | (with_reducible refine below_drewN ?_ _) | (with_reducible refine below_after (by assumption) ?_ ?_) | (with_reducible refine Below.drew ?_) | (with_reducible refine Below.alloc ?_ ?_ _) | (with_reducible refine Below.setCell ?_ ?_ _) | omega | (simp; omega) | (simp; done))))) (by simp) (by simp [go_sem])).mono ?_
  rintro e w2 ⟨rfl, hB⟩
  have HB : Hid (Below w.heap.size w w2) := Lib.hid (((Below.refl w.heap.size w).alloc (Nat.le_refl _) _).trans (hB.mono (by simp)))
  clear hB
  go_wp2
  go_ret
  exact ⟨rfl, HB.out⟩

set_option maxRecDepth 100000 in
theorem right_spn (x : Spn) (w : World) (h : SpnOk x) : Calls Try.prog 56 #[.agg #[.int .i64 x.secs, .int .i64 x.power]] w fun e w' => e = .returned (.bool true) ∧ Below w.heap.size w w' := by
  have h0 : 1 ≤ x.secs ∧ x.secs ≤ 3600 := by obtain ⟨_, _, _, _⟩ := h; omega
  have h1 : 0 ≤ x.power ∧ x.power ≤ 1000000 := by obtain ⟨_, _, _, _⟩ := h; omega
  have K0 := Lib.hid (fun W => within_yes x.secs 1 3600 W h0)
  have K1 := Lib.hid (fun W => within_yes x.power 0 1000000 W h1)
  clear h0 h1
  clear h
  go_enter Try.func56, Try.ntmps56
  go_wp2_with fail
  refine (K0.out _).mono ?_
  rintro e w2 ⟨rfl, rfl⟩
  go_wp2_with fail
  refine (K1.out _).mono ?_
  rintro e w2 ⟨rfl, rfl⟩
  go_wp2
  go_ret
  exact ⟨rfl, by (repeat' (first | (with_reducible exact Below.refl _ _) | (with_reducible assumption) | (with_reducible refine below_drewN ?_ _) | (with_reducible refine below_after (by assumption) ?_ ?_) | (with_reducible refine Below.drew ?_) | (with_reducible refine Below.alloc ?_ ?_ _) | (with_reducible refine Below.setCell ?_ ?_ _) | omega | (simp; omega) | (simp; done)))⟩
theorem all1_spn (x : Spn) (bx : Nat) (w : World) (h : SpnOk x) (hb : bx < w.heap.size) (hc : w.cell? ⟨bx, 0, none⟩ = some (.func (.func 56) #[] #[])) : Calls Try.prog 67 #[.agg #[.int .i64 x.secs, .int .i64 x.power], .pointer (some ⟨bx, 0, none⟩)] w fun e w' => e = .returned (.bool false) ∧ Below w.heap.size w w' := by
  have K := Lib.hid (fun W => right_spn x W h)
  have eg : ∀ args W, Sem.run Try.prog (callFunc 56 args) W = .ok (.enter 56 args) W := enters_of Try.func56 (by kernel_rfl) rfl
  clear h
  go_enter Try.func67, Try.ntmps67
  go_wp2_with fail
  refine (K.out _).mono ?_
  rintro e w2 ⟨rfl, hB⟩
  have HB : Hid (Below w.heap.size w w2) := Lib.hid (((Below.refl w.heap.size w).alloc (Nat.le_refl _) _).trans (hB.mono (by simp)))
  clear hB
  go_wp2
  go_ret
  exact ⟨rfl, HB.out⟩
set_option maxRecDepth 100000 in
theorem index_spn (A : Option Addr) (n c : Nat) (l : List Spn) (bx : Nat) (w : World) (hl : Rd w w.heap.size 2 Spn.enc A n l) (hn : n ≤ 1000) (hok : ∀ x ∈ l, SpnOk x) (hb : bx < w.heap.size) (hc : w.cell? ⟨bx, 0, none⟩ = some (.func (.func 56) #[] #[])) :
    Calls Try.prog 72 #[.slice A n c, .func (.func 67) #[] #[.pointer (some ⟨bx, 0, none⟩)]] w fun e w' => e = .returned (.int .i64 (-1)) ∧ Below w.heap.size w w' := by
  have HL := Lib.hid hl
  have HO := Lib.hid hok
  have HC := Lib.hid hc
  have eg : ∀ args W, Sem.run Try.prog (callFunc 67 args) W = .ok (.enter 67 args) W := enters_of Try.func67 (by kernel_rfl) rfl
  clear hl hok hc
  go_enter Try.func72, Try.ntmps72
  go_wp2
  go_loopw [8] (fun i wr => ∃ k : Nat, k ≤ n ∧ i = .int .i64 k ∧ Hid (Below w.heap.size w wr)) (fun i _ => n - (intOf i).toNat)
  case atStart => exact ⟨0, by omega, rfl, Below.refl _ _⟩
  case round =>
    obtain ⟨k, hk, rfl, hB⟩ := hrel
    by_cases hlt : k < n
    · obtain ⟨b, off, x, e1, hb2, hx, hcx⟩ := (HL.out.below hB.out).at_ hlt
      have hz := hB.out.size
      have K := Lib.hid (all1_spn x bx wr (HO.out x (List.mem_of_getElem? hx)) (by omega) ((hB.out.cell (p := ⟨bx, 0, none⟩) hb).trans HC.out))
      have x0 : wr.cell? ⟨b, off + k * 2, none⟩ = some (.int .i64 x.secs) := by simpa using hcx 0 _ rfl
      have x1 : wr.cell? ⟨b, off + k * 2 + 1, none⟩ = some (.int .i64 x.power) := by simpa using hcx 1 _ rfl
      have zb : b < wr.heap.size := by omega
      have hk0 : (0 : Int) ≤ (k : Int) := by omega
      have hkn : (k : Int) < (n : Int) := by omega
      subst e1
      clear hx hcx
      go_wp2_with fail
      refine K.out.mono ?_
      rintro e w2 ⟨rfl, hB2⟩
      have HB2 := Lib.hid (hB.out.trans (hB2.mono hz))
      clear hB2
      go_wp2
      go_roundw
      case rel => exact ⟨k + 1, by omega, by go_num, HB2⟩
      case measure => simp [intOf]; omega
    · obtain rfl : k = n := by omega
      go_wp2
      go_ret
      exact ⟨rfl, hB.out⟩
theorem all_spn (A : Option Addr) (n c : Nat) (l : List Spn) (w : World) (hl : Rd w w.heap.size 2 Spn.enc A n l) (hn : n ≤ 1000) (hok : ∀ x ∈ l, SpnOk x) :
    Calls Try.prog 55 #[.slice A n c, .func (.func 56) #[] #[]] w fun e w' => e = .returned (.bool true) ∧ Below w.heap.size w w' := by
  have KI := Lib.hid (fun W bx (h : Rd W W.heap.size 2 Spn.enc A n l) hb hc => index_spn A n c l bx W h hn hok hb hc)
  have KC : Hid (∀ (W : World) (bx : Nat) (h : Rd W W.heap.size 2 Spn.enc A n l) (hb : bx < W.heap.size) (hc : W.cell? ⟨bx, 0, none⟩ = some (.func (.func 56) #[] #[])), Calls Try.prog 66 #[.slice A n c, .func (.func 67) #[] #[.pointer (some ⟨bx, 0, none⟩)]] W fun e w' => e = .returned (.bool false) ∧ Below W.heap.size W w') := Lib.hid (by
    intro W bx h hb hc
    have K := Lib.hid (KI.out W bx h hb hc)
    clear h hc
    go_enter Try.func66, Try.ntmps66
    go_wp2_with fail
    refine K.out.mono ?_
    rintro e w2 ⟨rfl, hB⟩
    have HB := Lib.hid hB
    clear hB
    go_wp2
    go_ret
    exact ⟨rfl, HB.out⟩)
  have HL := Lib.hid hl
  clear hl hok KI
  go_enter Try.func55, Try.ntmps55
  go_wp2_with fail
  refine (KC.out _ w.heap.size (HL.out.next (by (repeat' (first | (with_reducible exact Below.refl _ _) | (with_reducible assumption) | (with_reducible refine below_drewN ?_ _) | (with_reducible refine below_after (by assumption) ?_ ?_) | (with_reducible refine Below.drew ?_) | (with_reducible refine Below.alloc ?_ ?_ _) | (with_reducible refine Below.setCell ?_ ?_ _) | omega | (simp; omega) | (simp; done))))) (by simp) (by simp [go_sem])).mono ?_
  rintro e w2 ⟨rfl, hB⟩
  have HB : Hid (Below w.heap.size w w2) := Lib.hid (((Below.refl w.heap.size w).alloc (Nat.le_refl _) _).trans (hB.mono (by simp)))
  clear hB
  go_wp2
  go_ret
  exact ⟨rfl, HB.out⟩

theorem secsL_sum {l : List Spn} {k : Nat} {s : Spn} (h : l[k]? = some s) (hs : 1 ≤ s.secs) : ((secsL (l.take (k + 1))).length : Int) = (secsL (l.take k)).length + s.secs := by
  rw [secsL_take h, List.length_append, List.length_replicate]
  omega
theorem secsL_take_le (l : List Spn) (k : Nat) : (secsL (l.take k)).length ≤ (secsL l).length := by
  have h1 : secsL l = secsL (l.take k) ++ secsL (l.drop k) := by
    unfold secsL
    rw [← List.flatMap_append, List.take_append_drop]
  rw [h1, List.length_append]
  omega
set_option maxRecDepth 100000 in
theorem length_any (A : Option Addr) (n c : Nat) (l : List Spn) (w : World) (hl : Rd w w.heap.size 2 Spn.enc A n l) (hn : n ≤ 1000) (hok : ∀ x ∈ l, SpnOk x) (hlen : (secsL l).length ≤ 1000000) :
    Calls Try.prog 48 #[.slice A n c] w fun e w' => e = .returned (.int .i64 ((secsL l).length : Nat)) ∧ Below w.heap.size w w' := by
  have HL := Lib.hid hl
  have HN := Lib.hid hl.1
  have HO := Lib.hid hok
  clear hl hok
  go_enter Try.func48, Try.ntmps48
  go_wp2
  go_loopw [3, 8] (fun t i wr => ∃ k : Nat, k ≤ n ∧ i = .int .i64 k ∧ t = .int .i64 ((secsL (l.take k)).length : Nat) ∧ Hid (Below w.heap.size w wr)) (fun _ i _ => n - (intOf i).toNat)
  case atStart => exact ⟨0, by omega, rfl, rfl, Below.refl _ _⟩
  case round =>
    obtain ⟨k, hk, rfl, rfl, hB⟩ := hrel
    by_cases hlt : k < n
    · obtain ⟨b, off, x, e1, hb2, hx, hcx⟩ := (HL.out.below hB.out).at_ hlt
      have hz := hB.out.size
      obtain ⟨s0, s1, p0, p1⟩ := HO.out x (List.mem_of_getElem? hx)
      have HS := Lib.hid (secsL_sum hx s0)
      have x0 : wr.cell? ⟨b, off + k * 2, none⟩ = some (.int .i64 x.secs) := by simpa using hcx 0 _ rfl
      have x1 : wr.cell? ⟨b, off + k * 2 + 1, none⟩ = some (.int .i64 x.power) := by simpa using hcx 1 _ rfl
      have hle := secsL_take_le l k
      obtain ⟨m, hm⟩ : ∃ z, z = (secsL (l.take k)).length := ⟨_, rfl⟩
      rw [← hm] at HS hle ⊢
      have zb : b < wr.heap.size := by omega
      have hk0 : (0 : Int) ≤ (k : Int) := by omega
      have hkn : (k : Int) < (n : Int) := by omega
      subst e1
      clear hx hcx hm
      go_wp2
      go_roundw
      case rel => exact ⟨k + 1, by omega, by go_num, by rw [HS.out], hB.out.alloc hB.out.size _⟩
      case measure => simp [intOf]; omega
    · obtain rfl : k = n := by omega
      have e1 : l.take k = l := by rw [← HN.out, List.take_length]
      rw [e1]
      clear e1
      go_wp2
      go_ret
      exact ⟨rfl, hB.out⟩
/-- How many lists of fails there are. -/
def cntL : List Gen → Int
  | [] => 1
  | g :: gs => (g.tries + 1) * cntL gs
theorem cntL_append (a b : List Gen) : cntL (a ++ b) = cntL a * cntL b := by
  induction a with
  | nil => simp [cntL]
  | cons g a ih => simp only [List.cons_append, cntL, ih, Int.mul_assoc]
theorem cntL_bd : ∀ {l : List Gen}, (∀ g ∈ l, GenOk g) → 1 ≤ cntL l ∧ cntL l ≤ 6 ^ l.length := by
  intro l
  induction l with
  | nil => intro _; simp [cntL]
  | cons g l ih =>
    intro h
    obtain ⟨h1, h2⟩ := ih (fun x hx => h x (List.mem_cons_of_mem _ hx))
    have t0 := (h g (List.mem_cons_self ..)).t0
    have t1 := (h g (List.mem_cons_self ..)).t1
    simp only [cntL, List.length_cons]
    have k1 : 1 * 1 ≤ (g.tries + 1) * cntL l := Int.mul_le_mul (by omega) h1 (by omega) (by omega)
    have k2 : (g.tries + 1) * cntL l ≤ 6 * 6 ^ l.length := Int.mul_le_mul (by omega) h2 (by omega) (by omega)
    rw [Int.pow_succ]
    omega
theorem cntL_small {l : List Gen} (h : ∀ g ∈ l, GenOk g) (hl : l.length ≤ 6) : 1 ≤ cntL l ∧ cntL l ≤ 46656 := by
  obtain ⟨h1, h2⟩ := cntL_bd h
  refine ⟨h1, Int.le_trans h2 ?_⟩
  have : l.length = 0 ∨ l.length = 1 ∨ l.length = 2 ∨ l.length = 3 ∨ l.length = 4 ∨ l.length = 5 ∨ l.length = 6 := by omega
  rcases this with h | h | h | h | h | h | h <;> rw [h] <;> decide
set_option maxRecDepth 100000 in
theorem count_any (A : Option Addr) (n c : Nat) (l : List Gen) (w : World) (hl : Rd w w.heap.size 5 Gen.enc A n l) (hn : n ≤ 6) (hok : ∀ x ∈ l, GenOk x) :
    Calls Try.prog 47 #[.slice A n c] w fun e w' => e = .returned (.int .i64 (cntL l)) ∧ Below w.heap.size w w' := by
  have HL := Lib.hid hl
  have HN := Lib.hid hl.1
  have HO := Lib.hid hok
  clear hl hok
  go_enter Try.func47, Try.ntmps47
  go_wp2
  go_loopw [3, 8] (fun t i wr => ∃ k : Nat, k ≤ n ∧ i = .int .i64 k ∧ t = .int .i64 (cntL (l.take k)) ∧ Hid (Below w.heap.size w wr)) (fun _ i _ => n - (intOf i).toNat)
  case atStart => exact ⟨0, by omega, rfl, rfl, Below.refl _ _⟩
  case round =>
    obtain ⟨k, hk, rfl, rfl, hB⟩ := hrel
    by_cases hlt : k < n
    · obtain ⟨b, off, x, e1, hb2, hx, hcx⟩ := (HL.out.below hB.out).at_ hlt
      have hz := hB.out.size
      have hxo := HO.out x (List.mem_of_getElem? hx)
      have t0 := hxo.t0
      have t1 := hxo.t1
      have HS : Hid (cntL (l.take (k + 1)) = cntL (l.take k) * (x.tries + 1)) := Lib.hid (by rw [take_at hx, cntL_append]; simp [cntL])
      have x0 : wr.cell? ⟨b, off + k * 5, none⟩ = some (.int .i64 x.power) := by simpa using hcx 0 _ rfl
      have x1 : wr.cell? ⟨b, off + k * 5 + 1, none⟩ = some (.int .i64 x.ramp) := by simpa using hcx 1 _ rfl
      have x2 : wr.cell? ⟨b, off + k * 5 + 2, none⟩ = some (.int .i64 x.delay) := by simpa using hcx 2 _ rfl
      have x3 : wr.cell? ⟨b, off + k * 5 + 3, none⟩ = some (.int .i64 x.pause) := by simpa using hcx 3 _ rfl
      have x4 : wr.cell? ⟨b, off + k * 5 + 4, none⟩ = some (.int .i64 x.tries) := by simpa using hcx 4 _ rfl
      obtain ⟨q1, q2⟩ := cntL_small (l := l.take k) (fun g hg => HO.out g (List.mem_of_mem_take hg)) (by rw [List.length_take]; omega)
      obtain ⟨m, hm⟩ : ∃ z, z = cntL (l.take k) := ⟨_, rfl⟩
      rw [← hm] at HS q1 q2 ⊢
      have zb : b < wr.heap.size := by omega
      have hk0 : (0 : Int) ≤ (k : Int) := by omega
      have hkn : (k : Int) < (n : Int) := by omega
      have m1 : 0 ≤ m * (x.tries + 1) := Int.mul_nonneg (by omega) (by omega)
      have m2 : m * (x.tries + 1) ≤ 46656 * 6 := Int.mul_le_mul q2 (by omega) (by omega) (by omega)
      subst e1
      clear hx hcx hm hxo
      go_wp2
      go_roundw
      case rel => exact ⟨k + 1, by omega, by go_num, by rw [HS.out], hB.out.alloc hB.out.size _⟩
      case measure => simp [intOf]; omega
    · obtain rfl : k = n := by omega
      have e1 : l.take k = l := by rw [← HN.out, List.take_length]
      rw [e1]
      clear e1
      go_wp2
      go_ret
      exact ⟨rfl, hB.out⟩
set_option maxRecDepth 100000 in
theorem areFails_any (gA fA : Option Addr) (gn gc fn fc : Nat) (gs : List Gen) (fs : List Int) (w : World) (hg : Rd w w.heap.size 5 Gen.enc gA gn gs) (hf : Rd w w.heap.size 1 encI fA fn fs) (hgn : gn ≤ 1000) (ok : FailsOk gs fs) :
    Calls Try.prog 41 #[.slice gA gn gc, .slice fA fn fc] w fun e w' => e = .returned (.bool true) ∧ Below w.heap.size w w' := by
  have HG := Lib.hid hg
  have HF := Lib.hid hf
  have OK := Lib.hid ok
  obtain rfl : fn = gn := by have := hg.1; have := hf.1; have := ok.1; omega
  have en : ((fn : Int) == (fn : Int)) = true := by simp
  have en2 : ((fn : Int) != (fn : Int)) = false := by simp
  clear hg hf ok
  go_enter Try.func41, Try.ntmps41
  go_wp2
  go_loopw [14] (fun i wr => ∃ k : Nat, k ≤ fn ∧ i = .int .i64 k ∧ Hid (Below w.heap.size w wr)) (fun i _ => fn - (intOf i).toNat)
  case atStart => exact ⟨0, by omega, rfl, Below.refl _ _⟩
  case round =>
    obtain ⟨k, hk, rfl, hB⟩ := hrel
    by_cases hlt : k < fn
    · obtain ⟨b, off, x, e1, hb2, hx, hcx⟩ := (HG.out.below hB.out).at_ hlt
      obtain ⟨fb, fo, f, e2, hfb, hfx, hcf⟩ := (HF.out.below hB.out).at_ hlt
      have hz := hB.out.size
      have K := Lib.hid (fun W => within_yes f 0 x.tries W (OK.out.2 k x f hx hfx))
      have x4 : wr.cell? ⟨b, off + k * 5 + 4, none⟩ = some (.int .i64 x.tries) := by simpa using hcx 4 _ rfl
      have y0 : wr.cell? ⟨fb, fo + k, none⟩ = some (.int .i64 f) := by simpa using hcf 0 _ rfl
      have zb : b < wr.heap.size := by omega
      have zf : fb < wr.heap.size := by omega
      have hk0 : (0 : Int) ≤ (k : Int) := by omega
      have hkn : (k : Int) < (fn : Int) := by omega
      subst e1
      subst e2
      clear hx hcx hfx hcf
      go_wp2_with fail
      refine (K.out _).mono ?_
      rintro e w2 ⟨rfl, rfl⟩
      go_wp2
      go_roundw
      case rel => exact ⟨k + 1, by omega, by go_num, hB⟩
      case measure => simp [intOf]; omega
    · obtain rfl : k = fn := by omega
      go_wp2
      go_ret
      exact ⟨rfl, hB.out⟩
theorem below3 {B : Nat} {w w1 w2 : World} (h : Below B w w1) (k : Below w1.heap.size w1 w2) (hB : B ≤ w.heap.size) : Below B w w2 := h.trans (k.mono (Nat.le_trans hB h.size))
set_option maxRecDepth 100000 in
theorem check_any (bA gA : Option Addr) (bn bc gn gc : Nat) (bs : List Bat) (gs : List Gen) (w : World) (hb : Rd w w.heap.size 4 Bat.enc bA bn bs) (hg : Rd w w.heap.size 5 Gen.enc gA gn gs) (hbn : bn ≤ 8) (hgn : gn ≤ 6) (okb : ∀ b ∈ bs, BatOk b) (okg : ∀ g ∈ gs, GenOk g) :
    Calls Try.prog 54 #[.agg #[.slice bA bn bc, .slice gA gn gc]] w fun e w' => e = .returned (.int .i64 0) ∧ Below w.heap.size w w' := by
  have HB := Lib.hid hb
  have HG := Lib.hid hg
  have KB := Lib.hid (fun W h => all_bat bA bn bc bs W h (by omega) okb)
  have KG := Lib.hid (fun W h => all_gen gA gn gc gs W h (by omega) okg)
  have d1 : decide ((8 : Int) < (bn : Int)) = false := decide_eq_false (by omega)
  have d2 : decide ((6 : Int) < (gn : Int)) = false := decide_eq_false (by omega)
  clear hb hg okb okg
  go_enter Try.func54, Try.ntmps54
  go_wp2_with fail
  refine (KB.out _ (HB.out.next (by (repeat' (first | (with_reducible exact Below.refl _ _) | (with_reducible assumption) | (with_reducible refine below_drewN ?_ _) | (with_reducible refine below_after (by assumption) ?_ ?_) | (with_reducible refine Below.drew ?_) | (with_reducible refine Below.alloc ?_ ?_ _) | (with_reducible refine Below.setCell ?_ ?_ _) | omega | (simp; omega) | (simp; done)))))).mono ?_
  rintro e w1 ⟨rfl, hB1⟩
  have HL : Hid (Below w.heap.size w w1) := Lib.hid (below3 ((Below.refl w.heap.size w).alloc (Nat.le_refl _) _) hB1 (Nat.le_refl _))
  have c1 : w1.cell? ⟨w.heap.size, 1, none⟩ = some (.slice gA gn gc) := (hB1.cell (p := ⟨w.heap.size, 1, none⟩) (by simp)).trans (by simp [go_sem])
  have z1 : w.heap.size < w1.heap.size := by have := hB1.size; simp at this; omega
  clear hB1
  go_wp2_with fail
  refine (KG.out _ (HG.out.next HL.out)).mono ?_
  rintro e w2 ⟨rfl, hB2⟩
  have HL2 := Lib.hid (below3 HL.out hB2 (Nat.le_refl _))
  clear hB2
  go_wp2
  go_ret
  exact ⟨rfl, HL2.out⟩
set_option maxRecDepth 100000 in
theorem checkLoad_any (bA gA lA : Option Addr) (bn bc gn gc ln lc : Nat) (bs : List Bat) (gs : List Gen) (l : List Spn) (w : World) (hin : ArgsIn w w.heap.size bA bn bs gA gn gs lA ln l) (ok : ArgsOk bs gs l) :
    Calls Try.prog 40 #[.agg #[.slice bA bn bc, .slice gA gn gc], .slice lA ln lc] w fun e w' => e = .returned (.int .i64 0) ∧ Below w.heap.size w w' := by
  have HIN := Lib.hid hin
  have hbn : bn ≤ 8 := by have := ok.nb; have := hin.bat.1; omega
  have hgn : gn ≤ 6 := by have := ok.ng; have := hin.gen.1; omega
  have hln : ln ≤ 64 := by have := ok.nl; have := hin.load.1; omega
  have KC := Lib.hid (fun W h1 h2 => check_any bA gA bn bc gn gc bs gs W h1 h2 hbn hgn ok.bat ok.gen)
  have KA := Lib.hid (fun W h => all_spn lA ln lc l W h (by omega) ok.spn)
  have KL := Lib.hid (fun W h => length_any lA ln lc l W h (by omega) ok.spn (by have := ok.len; omega))
  have hlen := ok.len
  have d1 : ¬ (64 : Int) < (ln : Int) := by omega
  obtain ⟨sn, hsn⟩ : ∃ z, z = (secsL l).length := ⟨_, rfl⟩
  rw [← hsn] at KL hlen
  have d2 : ¬ (20000 : Int) < (sn : Int) := by omega
  clear hin ok hsn
  go_enter Try.func40, Try.ntmps40
  go_wp2_with fail
  refine (KC.out _ (HIN.out.bat.next (by (repeat' (first | (with_reducible exact Below.refl _ _) | (with_reducible assumption) | (with_reducible refine below_drewN ?_ _) | (with_reducible refine below_after (by assumption) ?_ ?_) | (with_reducible refine Below.drew ?_) | (with_reducible refine Below.alloc ?_ ?_ _) | (with_reducible refine Below.setCell ?_ ?_ _) | omega | (simp; omega) | (simp; done))))) (HIN.out.gen.next (by (repeat' (first | (with_reducible exact Below.refl _ _) | (with_reducible assumption) | (with_reducible refine below_drewN ?_ _) | (with_reducible refine below_after (by assumption) ?_ ?_) | (with_reducible refine Below.drew ?_) | (with_reducible refine Below.alloc ?_ ?_ _) | (with_reducible refine Below.setCell ?_ ?_ _) | omega | (simp; omega) | (simp; done)))))).mono ?_
  rintro e w1 ⟨rfl, hB1⟩
  have HL : Hid (Below w.heap.size w w1) := Lib.hid (below3 ((Below.refl w.heap.size w).alloc (Nat.le_refl _) _) hB1 (Nat.le_refl _))
  clear hB1
  go_wp2_with fail
  refine (KA.out _ (HIN.out.load.next HL.out)).mono ?_
  rintro e w2 ⟨rfl, hB2⟩
  have HL2 := Lib.hid (below3 HL.out hB2 (Nat.le_refl _))
  clear hB2
  go_wp2_with fail
  refine (KL.out _ (HIN.out.load.next HL2.out)).mono ?_
  rintro e w3 ⟨rfl, hB3⟩
  have HL3 := Lib.hid (below3 HL2.out hB3 (Nat.le_refl _))
  clear hB3
  go_wp2
  go_ret
  exact ⟨rfl, HL3.out⟩
set_option maxRecDepth 100000 in
theorem checkRun_any (bA gA lA fA : Option Addr) (bn bc gn gc ln lc fn fc : Nat) (bs : List Bat) (gs : List Gen) (l : List Spn) (fs : List Int) (w : World) (hin : ArgsIn w w.heap.size bA bn bs gA gn gs lA ln l) (hf : Rd w w.heap.size 1 encI fA fn fs) (ok : ArgsOk bs gs l) (okf : FailsOk gs fs) :
    Calls Try.prog 26 #[.agg #[.slice bA bn bc, .slice gA gn gc], .slice lA ln lc, .slice fA fn fc] w fun e w' => e = .returned (.int .i64 0) ∧ Below w.heap.size w w' := by
  have HIN := Lib.hid hin
  have HF := Lib.hid hf
  have KC := Lib.hid (fun W h => checkLoad_any bA gA lA bn bc gn gc ln lc bs gs l W h ok)
  have KA := Lib.hid (fun W h1 h2 => areFails_any gA fA gn gc fn fc gs fs W h1 h2 (by have := ok.ng; have := hin.gen.1; omega) okf)
  clear hin hf ok okf
  go_enter Try.func26, Try.ntmps26
  go_wp2_with fail
  refine (KC.out _ (HIN.out.next (by (repeat' (first | (with_reducible exact Below.refl _ _) | (with_reducible assumption) | (with_reducible refine below_drewN ?_ _) | (with_reducible refine below_after (by assumption) ?_ ?_) | (with_reducible refine Below.drew ?_) | (with_reducible refine Below.alloc ?_ ?_ _) | (with_reducible refine Below.setCell ?_ ?_ _) | omega | (simp; omega) | (simp; done)))))).mono ?_
  rintro e w1 ⟨rfl, hB1⟩
  have HL : Hid (Below w.heap.size w w1) := Lib.hid (below3 ((Below.refl w.heap.size w).alloc (Nat.le_refl _) _) hB1 (Nat.le_refl _))
  have c1 : w1.cell? ⟨w.heap.size, 1, none⟩ = some (.slice gA gn gc) := (hB1.cell (p := ⟨w.heap.size, 1, none⟩) (by simp)).trans (by simp [go_sem])
  have z1 : w.heap.size < w1.heap.size := by have := hB1.size; simp at this; omega
  clear hB1
  go_wp2_with fail
  refine (KA.out _ (HIN.out.gen.next HL.out) (HF.out.next HL.out)).mono ?_
  rintro e w2 ⟨rfl, hB2⟩
  have HL2 := Lib.hid (below3 HL.out hB2 (Nat.le_refl _))
  clear hB2
  go_wp2
  go_ret
  exact ⟨rfl, HL2.out⟩
set_option maxRecDepth 100000 in
theorem checkSearch_any (bA gA lA : Option Addr) (bn bc gn gc ln lc : Nat) (bs : List Bat) (gs : List Gen) (l : List Spn) (most : Int) (w : World) (hin : ArgsIn w w.heap.size bA bn bs gA gn gs lA ln l) (ok : ArgsOk bs gs l) (h0 : 0 ≤ most) (hs : cntL gs * ((secsL l).length : Nat) ≤ 4194304) :
    Calls Try.prog 34 #[.agg #[.slice bA bn bc, .slice gA gn gc], .slice lA ln lc, .int .i64 most] w fun e w' => e = .returned (.int .i64 0) ∧ Below w.heap.size w w' := by
  have HIN := Lib.hid hin
  have hln : ln ≤ 64 := by have := ok.nl; have := hin.load.1; omega
  have hgn : gn ≤ 6 := by have := ok.ng; have := hin.gen.1; omega
  have KC := Lib.hid (fun W h => checkLoad_any bA gA lA bn bc gn gc ln lc bs gs l W h ok)
  have KL := Lib.hid (fun W h => length_any lA ln lc l W h (by omega) ok.spn (by have := ok.len; omega))
  have KN := Lib.hid (fun W h => count_any gA gn gc gs W h hgn ok.gen)
  obtain ⟨sn, hsn⟩ : ∃ z, z = (secsL l).length := ⟨_, rfl⟩
  obtain ⟨cn, hcn⟩ : ∃ z, z = cntL gs := ⟨_, rfl⟩
  have q1 := (cntL_small ok.gen ok.ng).1
  rw [← hsn] at KL hs
  rw [← hcn] at KN hs q1
  have m1 : 0 ≤ cn * (sn : Int) := Int.mul_nonneg (by omega) (by omega)
  have d2 : ¬ 4194304 < cn * (sn : Int) := by omega
  have d3 : ¬ most < 0 := by omega
  clear hin ok hsn hcn hs
  go_enter Try.func34, Try.ntmps34
  go_wp2_with fail
  refine (KC.out _ (HIN.out.next (by (repeat' (first | (with_reducible exact Below.refl _ _) | (with_reducible assumption) | (with_reducible refine below_drewN ?_ _) | (with_reducible refine below_after (by assumption) ?_ ?_) | (with_reducible refine Below.drew ?_) | (with_reducible refine Below.alloc ?_ ?_ _) | (with_reducible refine Below.setCell ?_ ?_ _) | omega | (simp; omega) | (simp; done)))))).mono ?_
  rintro e w1 ⟨rfl, hB1⟩
  have HL : Hid (Below w.heap.size w w1) := Lib.hid (below3 ((Below.refl w.heap.size w).alloc (Nat.le_refl _) _) hB1 (Nat.le_refl _))
  have c1 : w1.cell? ⟨w.heap.size, 1, none⟩ = some (.slice gA gn gc) := (hB1.cell (p := ⟨w.heap.size, 1, none⟩) (by simp)).trans (by simp [go_sem])
  have z1 : w.heap.size < w1.heap.size := by have := hB1.size; simp at this; omega
  clear hB1
  go_wp2_with fail
  refine (KN.out _ (HIN.out.gen.next HL.out)).mono ?_
  rintro e w2 ⟨rfl, hB2⟩
  have HL2 := Lib.hid (below3 HL.out hB2 (Nat.le_refl _))
  clear hB2
  go_wp2_with fail
  refine (KL.out _ (HIN.out.load.next HL2.out)).mono ?_
  rintro e w3 ⟨rfl, hB3⟩
  have HL3 := Lib.hid (below3 HL2.out hB3 (Nat.le_refl _))
  clear hB3
  go_wp2
  go_ret
  exact ⟨rfl, HL3.out⟩
end Go.Proofs.Ytnpkcipeacogcaa
