/- meter: Least. -/
import Derived.Test.YtcecbohaajocfaaMtX

set_option linter.unusedSimpArgs false
set_option linter.unusedVariables false
namespace Go.Proofs.Ytcecbohaajocfaa
open Go.RowKit

theorem filter_snd (p : List Nat → Bool) (pre : List SetE) : (pre.filter fun x => p x.2).map Prod.snd = (pre.map Prod.snd).filter p := by
  induction pre with
  | nil => rfl
  | cons x l ih =>
    rw [List.filter_cons, List.map_cons, List.filter_cons]
    split
    · rw [List.map_cons, ih]
    · exact ih
/-- The least sets as they lie in memory. -/
def LeastV (W : World) (z : Nat) (c : Ks) (v : Value) : Prop := ∃ (A : Option Addr) (ca k : Nat) (L : List SetE), v = .slice A L.length ca ∧ LeastIs c (L.map Prod.snd) k ∧ W.ownsRow z 22 1 v L.length (L.flatMap (setV k)) ∧ ∀ x ∈ L, ∃ b, RowW W b 3 encN x.1.1 x.2
set_option maxRecDepth 100000 in
set_option maxHeartbeats 4000000 in
theorem Least_any (c : Ks) (ok : KsOk c) (nA vA : Option Addr) (n nc vc : Nat) (w : World) (hin : KsIn w w.heap.size n nA vA c) :
    Calls Try.prog 14 #[.agg #[.slice nA n nc, .slice vA n vc]] w fun e w' => ((∃ v, e = .returned (.tuple #[v, .int .i64 0]) ∧ LeastV w' w.heap.size c v) ∨ (e = .returned (.tuple #[.slice none 0 0, .int .i64 4]) ∧ ∀ s, Vc n s → canB c s = false)) ∧ Below w.heap.size w w' := by
  have hcn := hin.len
  have h14 : n ≤ 14 := by rw [← hcn]; exact ok.n14
  have HC := Lib.hid (And.intro hcn h14)
  have KC := Lib.hid (fun W (hW : Below w.heap.size w W) => Check_ok nA vA n nc vc c W (hin.next hW) ok)
  have KE := Lib.hid (fun (k : Nat) W (hk : k ≤ n) (hW : Below w.heap.size w W) => explaining_any c ok nA vA n nc vc k W hk (hin.next hW))
  have g1 : w.heap.size < w.heap.size + 1 := by omega
  have wn : IntKind.i64.wrap ((n : Int) + 1) = (n : Int) + 1 := IntWalk.i64_in _ (by omega)
  clear hin ok hcn h14
  go_enter Try.func14, Try.ntmps14
  go_wp2_with fail
  obtain ⟨bx, hbx⟩ : ∃ z, z = w.heap.size := ⟨_, rfl⟩
  obtain ⟨w1, hw1⟩ : ∃ z, z = w.alloc (.cells #[.slice nA n nc, .slice vA n vc] 35) := ⟨_, rfl⟩
  have BX : Hid (Blk w1 bx 35 #[.slice nA n nc, .slice vA n vc]) := Lib.hid (by rw [hw1, hbx]; exact heap_alloc_new w _)
  have Sw1 : Hid (w1.heap.size = bx + 1) := Lib.hid (by rw [hw1, hbx, World.size_alloc])
  have Zbx : Hid (w.heap.size ≤ bx) := Lib.hid (by rw [hbx]; exact Nat.le_refl _)
  have hBn : Below w.heap.size w w1 := by rw [hw1]; exact (Below.refl _ _).alloc (Nat.le_refl _) _
  rw [← hw1, ← hbx]
  have B0 : Hid (Below w.heap.size w w1) := Lib.hid hBn
  clear hw1 hbx hBn
  refine (KC.out _ B0.out).mono ?_
  rintro e w2 ⟨rfl, hB⟩
  have B1 : Hid (Below w1.heap.size w1 w2) := Lib.hid hB
  clear hB
  have hbk := BX.out.below B1.out BX.out.lt
  have d0 := hbk.cell 0
  have d1 := hbk.cell 1
  simp only [List.getElem?_toArray, List.getElem?_cons_zero, List.getElem?_cons_succ] at d0 d1
  have zd := hbk.lt
  clear hbk
  clear g1
  go_wp2
  clear d0 d1 zd
  go_loopw [16] (fun iv wr => ∃ k : Nat, k ≤ n + 1 ∧ iv = .int .i64 ((k : Nat) : Int) ∧ Hid (Below w2.heap.size w2 wr ∧ ∀ s, Vc n s → s.length < k → canB c s = false)) (fun iv _ => n + 1 - (intOf iv).toNat)
  case atStart => exact ⟨0, Nat.zero_le _, rfl, Lib.hid ⟨Below.refl _ _, fun s _ h => absurd h (by omega)⟩⟩
  case round =>
    obtain ⟨k, hk, rfl, HW⟩ := hrel
    by_cases hlt : k < n + 1
    · have HLT : Hid (k < n + 1) := Lib.hid hlt
      have hk0 : (0 : Int) ≤ (k : Int) := by omega
      have hkn : (k : Int) < (n : Int) + 1 := by omega
      have hk9 : (k : Int) ≤ 14 := by have := HC.out; omega
      have C := Lib.hid (KE.out k wr (by omega) (below3 (below3 B0.out B1.out (Nat.le_refl _)) HW.out.1 (Nat.le_refl _)))
      have hbk := BX.out.below (below3 B1.out HW.out.1 (Nat.le_refl _)) BX.out.lt
      have d0 := hbk.cell 0
      have d1 := hbk.cell 1
      simp only [List.getElem?_toArray, List.getElem?_cons_zero, List.getElem?_cons_succ] at d0 d1
      have zd := hbk.lt
      clear hbk hlt hk
      go_wp2_with fail
      refine C.out.mono ?_
      rintro e w5 ⟨v, pre, rfl, hall, hrow, hels, hB⟩
      obtain ⟨A9, c9, rfl⟩ := row_slice hrow
      obtain ⟨ln, hln⟩ : ∃ z, z = (pre.filter fun x => canB c x.2).length := ⟨_, rfl⟩
      have HLN := Lib.hid hln
      have HA := Lib.hid (And.intro hall (And.intro hrow (And.intro hels hB)))
      rw [← hln]
      have hl0 : (0 : Int) ≤ (ln : Int) := by omega
      clear hall hrow hels hB hln C d0 d1 zd
      by_cases h0 : ln = 0
      · have HN2 : Hid (Below w2.heap.size w2 w5 ∧ ∀ s, Vc n s → s.length < k + 1 → canB c s = false) := Lib.hid ⟨below3 HW.out.1 HA.out.2.2.2 (Nat.le_refl _), by
          have h1 := least_none (c := c) (k := k) (by have := HC.out; have := HLT.out; omega) (by rw [HC.out.1]; exact HA.out.1) (by rw [HC.out.1]; exact HW.out.2) (by rw [← filter_snd, List.eq_nil_of_length_eq_zero (HLN.out.symm.trans h0)]; rfl)
          rw [HC.out.1] at h1
          exact h1⟩
        have h9 : ¬ (0 : Int) < (ln : Int) := by omega
        have h8 : ¬ 0 < ln := by omega
        clear h0
        go_wp2
        go_roundw
        case rel => exact ⟨k + 1, by have := HLT.out; omega, by go_num, HN2⟩
        case measure => have := HLT.out; simp [intOf]; omega
      · have HF : Hid (LeastV w5 w.heap.size c (.slice A9 ln c9) ∧ Below w.heap.size w w5) := Lib.hid ⟨by
          have h1 := least_is (c := c) (k := k) (by have := HC.out; have := HLT.out; omega) (by rw [HC.out.1]; exact HA.out.1) (by rw [HC.out.1]; exact HW.out.2) (by
            rw [← filter_snd]
            intro e
            have := congrArg List.length e
            rw [List.length_map, ← HLN.out] at this
            exact h0 (by simpa using this))
          rw [← filter_snd] at h1
          have h2 := row_low HA.out.2.1 (below3 (below3 B0.out B1.out (Nat.le_refl _)) HW.out.1 (Nat.le_refl _)).size
          refine ⟨A9, c9, k, _, by rw [← HLN.out], h1, ?_, HA.out.2.2.1⟩
          rw [← HLN.out] at h2 ⊢
          exact h2, below3 (below3 (below3 B0.out B1.out (Nat.le_refl _)) HW.out.1 (Nat.le_refl _)) HA.out.2.2.2 (Nat.le_refl _)⟩
        have h9 : (0 : Int) < (ln : Int) := by omega
        have h8 : 0 < ln := by omega
        clear h0
        go_wp2
        refine bodyPost_ret (v := .tuple #[.slice A9 ln c9, .int .i64 0]) (by simp [results, Try.results14, go_sem]) rfl ?_
        exact ⟨.inl ⟨_, rfl, HF.out.1⟩, HF.out.2⟩
    · obtain rfl : k = n + 1 := by omega
      have HF : Hid ((∀ s, Vc n s → canB c s = false) ∧ Below w.heap.size w wr) := Lib.hid ⟨fun s hs => HW.out.2 s hs (by have := hs.len; omega), below3 (below3 B0.out B1.out (Nat.le_refl _)) HW.out.1 (Nat.le_refl _)⟩
      have hnn : ((n + 1 : Nat) : Int) = (n : Int) + 1 := by omega
      go_wp2
      refine bodyPost_ret (v := .tuple #[.slice none 0 0, .int .i64 4]) (by simp [results, Try.results14, go_sem]) rfl ?_
      exact ⟨.inr ⟨rfl, HF.out.1⟩, HF.out.2⟩
end Go.Proofs.Ytcecbohaajocfaa
