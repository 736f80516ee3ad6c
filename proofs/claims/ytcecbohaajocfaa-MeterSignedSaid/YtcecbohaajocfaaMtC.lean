/- meter: canHold; all, over numbers. -/
import Derived.Test.YtcecbohaajocfaaMtF

set_option linter.unusedSimpArgs false
set_option linter.unusedVariables false
namespace Go.Proofs.Ytcecbohaajocfaa
open Go.RowKit

theorem all1S (a b : Int) (bx : Nat) (w : World) (hb : bx < w.heap.size) (hc : w.cell? ⟨bx, 0, none⟩ = some (.func (.func 85) #[] #[])) :
    Calls Try.prog 109 #[.agg #[.int .i64 a, .int .i64 b], .pointer (some ⟨bx, 0, none⟩)] w fun e w' => e = .returned (.bool (!(inB a a b))) ∧ Below w.heap.size w w' := by
  have K := Lib.hid (fun W => isSome_any a b W)
  have eg : ∀ args W, Sem.run Try.prog (callFunc 85 args) W = .ok (.enter 85 args) W := enters_of Try.func85 (by kernel_rfl) rfl
  go_enter Try.func109, Try.ntmps109
  go_wp2_with fail
  refine (K.out _).mono ?_
  rintro e w2 ⟨rfl, hB⟩
  have HB : Hid (Below w.heap.size w w2) := Lib.hid (((Below.refl w.heap.size w).alloc (Nat.le_refl _) _).trans (hB.mono (by simp)))
  clear hB
  go_wp2
  go_ret
  exact ⟨rfl, HB.out⟩
def allS (S : Nat → Sp) (n : Nat) : Bool := (List.range n).all fun i => inB (S i).1 (S i).1 (S i).2
theorem allS_iff {S : Nat → Sp} {n : Nat} : allS S n = true ↔ ∀ i, i < n → inB (S i).1 (S i).1 (S i).2 = true := by simp [allS]
theorem indexS (sp n c : Nat) (S : Nat → Sp) (bx : Nat) (w : World) (hn : n ≤ 1000) (hl : RowW w sp 138 encS (some ⟨sp, 0, none⟩) (mpS S n)) (hb : bx < w.heap.size) (hc : w.cell? ⟨bx, 0, none⟩ = some (.func (.func 85) #[] #[])) :
    Calls Try.prog 113 #[.slice (some ⟨sp, 0, none⟩) n c, .func (.func 109) #[] #[.pointer (some ⟨bx, 0, none⟩)]] w fun e w' => ∃ r : Int, e = .returned (.int .i64 r) ∧ decide (0 ≤ r) = !(allS S n) ∧ Below w.heap.size w w' := by
  have HL := Lib.hid hl
  have HC := Lib.hid hc
  have e2 : ∀ args W, Sem.run Try.prog (callFunc 109 args) W = .ok (.enter 109 args) W := enters_of Try.func109 (by kernel_rfl) rfl
  clear hl hc
  go_enter Try.func113, Try.ntmps113
  go_wp2
  go_loopw [8] (fun i wr => ∃ k : Nat, k ≤ n ∧ i = .int .i64 k ∧ Hid (Below w.heap.size w wr ∧ ∀ i, i < k → inB (S i).1 (S i).1 (S i).2 = true)) (fun i _ => n - (intOf i).toNat)
  case atStart => exact ⟨0, by omega, rfl, Lib.hid ⟨Below.refl _ _, fun i hi => absurd hi (by omega)⟩⟩
  case round =>
    obtain ⟨k, hk, rfl, hB⟩ := hrel
    have hz := hB.out.1.size
    by_cases hlt : k < n
    · obtain ⟨c0, c1, zb, _⟩ := rowS_at (HL.out.below9 hB.out.1) (mpS_get (f := S) hlt)
      obtain ⟨a, ha⟩ : ∃ z, z = (S k).1 := ⟨_, rfl⟩
      obtain ⟨b, hb9⟩ : ∃ z, z = (S k).2 := ⟨_, rfl⟩
      rw [← ha] at c0
      rw [← hb9] at c1
      have K := Lib.hid (all1S a b bx wr (by omega) ((hB.out.1.cell (p := ⟨bx, 0, none⟩) hb).trans HC.out))
      have hk0 : (0 : Int) ≤ (k : Int) := by omega
      have hkn : (k : Int) < (n : Int) := by omega
      obtain ⟨d, hd⟩ : ∃ z, z = inB a a b := ⟨_, rfl⟩
      rw [← hd] at K
      have HD : Hid (inB (S k).1 (S k).1 (S k).2 = d) := Lib.hid (by rw [← ha, ← hb9, hd])
      clear ha hb9 hd
      go_wp2_with fail
      refine K.out.mono ?_
      rintro e w2 ⟨rfl, hB2⟩
      have HB2 := Lib.hid (below3 hB.out.1 hB2 (Nat.le_refl _))
      clear hB2 c0 c1 zb
      cases d
      · have HF : Hid (decide (0 ≤ ((k : Nat) : Int)) = !(allS S n) ∧ Below w.heap.size w w2) := Lib.hid ⟨by
          have h1 : allS S n = false := by
            cases h9 : allS S n with
            | false => rfl
            | true => rw [allS_iff] at h9; rw [h9 k hlt] at HD; exact absurd HD.out (by simp)
          rw [h1]
          exact decide_eq_true (by omega), HB2.out⟩
        go_wp2
        go_ret
        exact ⟨_, rfl, HF.out⟩
      · have HN2 : Hid (Below w.heap.size w w2 ∧ ∀ i, i < k + 1 → inB (S i).1 (S i).1 (S i).2 = true) := Lib.hid ⟨HB2.out, fun i hi => by
          rcases Nat.lt_succ_iff_lt_or_eq.1 hi with h | h
          · exact hB.out.2 i h
          · subst h; exact HD.out⟩
        go_wp2
        go_roundw
        case rel => exact ⟨k + 1, by omega, by go_num, HN2⟩
        case measure => simp [intOf]; omega
    · obtain rfl : n = k := by omega
      have HF : Hid (decide ((0 : Int) ≤ (-1 : Int)) = !(allS S n) ∧ Below w.heap.size w wr) := Lib.hid ⟨by rw [allS_iff.2 hB.out.2]; decide, hB.out.1⟩
      go_wp2
      go_ret
      exact ⟨_, rfl, HF.out⟩
theorem canHold_any (nA vA : Option Addr) (n nc vc sc sp : Nat) (S : Nat → Sp) (w : World) (hn : n ≤ 1000) (hl : RowW w sp 138 encS (some ⟨sp, 0, none⟩) (mpS S n)) :
    Calls Try.prog 48 #[.agg #[.slice nA n nc, .slice vA n vc, .slice (some ⟨sp, 0, none⟩) n sc]] w fun e w' => e = .returned (.bool (allS S n)) ∧ Below w.heap.size w w' := by
  have KC : Hid (∀ (W : World) (bx : Nat) (hW : Below w.heap.size w W) (hb : bx < W.heap.size) (hc : W.cell? ⟨bx, 0, none⟩ = some (.func (.func 85) #[] #[])), Calls Try.prog 108 #[.slice (some ⟨sp, 0, none⟩) n sc, .func (.func 109) #[] #[.pointer (some ⟨bx, 0, none⟩)]] W fun e w' => e = .returned (.bool (!(allS S n))) ∧ Below W.heap.size W w') := Lib.hid (by
    intro W bx hW hb hc
    have K := Lib.hid (indexS sp n sc S bx W hn (hl.below9 hW) hb hc)
    clear hc hl
    go_enter Try.func108, Try.ntmps108
    go_wp2_with fail
    refine K.out.mono ?_
    rintro e w2 ⟨r, rfl, hd, hB⟩
    have HB := Lib.hid hB
    have HD := Lib.hid hd
    clear hB hd
    go_wp2
    go_ret
    exact ⟨ret_bool (by simpa using HD.out), HB.out⟩)
  have KA : Hid (∀ (W : World) (hW : Below w.heap.size w W), Calls Try.prog 84 #[.slice (some ⟨sp, 0, none⟩) n sc, .func (.func 85) #[] #[]] W fun e w' => e = .returned (.bool (allS S n)) ∧ Below W.heap.size W w') := Lib.hid (by
    intro W hW
    have HWW := Lib.hid hW
    clear hl
    go_enter Try.func84, Try.ntmps84
    go_wp2_with fail
    refine (KC.out _ W.heap.size (HWW.out.trans (((Below.refl W.heap.size W).alloc (Nat.le_refl _) _).mono HWW.out.size)) (by simp) (by simp [go_sem])).mono ?_
    rintro e w2 ⟨rfl, hB⟩
    have HB : Hid (Below W.heap.size W w2) := Lib.hid (((Below.refl W.heap.size W).alloc (Nat.le_refl _) _).trans (hB.mono (by simp)))
    clear hB
    go_wp2
    go_ret
    exact ⟨ret_bool (by simp), HB.out⟩)
  have g1 : w.heap.size < w.heap.size + 1 := by omega
  clear hl
  go_enter Try.func48, Try.ntmps48
  go_wp2_with fail
  refine (KA.out _ ((Below.refl w.heap.size w).alloc (Nat.le_refl _) _)).mono ?_
  rintro e w2 ⟨rfl, hB⟩
  have HB : Hid (Below w.heap.size w w2) := Lib.hid (((Below.refl w.heap.size w).alloc (Nat.le_refl _) _).trans (hB.mono (by simp)))
  clear hB
  go_wp2
  go_ret
  exact ⟨rfl, HB.out⟩
theorem allS_can {c : Ks} {set : List Nat} : allS (narS c (iniS c set)) c.n = canB c set := by
  unfold allS canB inB
  congr 1
  funext i
  simp
end Go.Proofs.Ytcecbohaajocfaa
