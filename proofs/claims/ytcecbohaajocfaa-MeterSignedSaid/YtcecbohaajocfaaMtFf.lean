/- slices.Clone and slices.Delete of links. -/
import Derived.Test.YtcecbohaajocfaaMtFd
import Derived.Test.YtcecbohaajocfaaMtFe
import Derived.Laws.OwnMore

set_option linter.unusedSimpArgs false
set_option linter.unusedVariables false
namespace Go.Proofs.Ytcecbohaajocfaa
open Go.RowKit

set_option maxRecDepth 100000 in
set_option maxHeartbeats 1000000 in
theorem clone_links (A : Option Addr) (n c : Nat) (l : List Lk) (w : World) (hr : Rd w w.heap.size 4 encLk A n l) (hn : n ≤ 1000000) :
    Calls Try.prog 24 #[.slice A n c] w fun e w' => ∃ (A' : Option Addr) (c' : Nat), e = .returned (.slice A' n c') ∧ w'.ownsRow w.heap.size 67 4 (.slice A' n c') n (l.flatMap encLk) ∧ Below w.heap.size w w' ∧ (A.isSome = true → A'.isSome = true) := by
  have hlen := hr.1
  have hN := fun (W : World) => Lib.run_eql_slice_nil (P := Try.prog) W 58 67 A n c 0 0 Try.underlying58
  obtain ⟨i0, hi, hz0, hz1, hz2⟩ := info_parts linkInfo
  cases A with
  | none =>
    have hn0 : n = 0 := by
      rcases Nat.eq_zero_or_pos n with h | h
      · exact h
      · obtain ⟨_, _, e, _⟩ := hr.2 h
        cases e
    subst hn0
    have hl0 : l = [] := List.eq_nil_of_length_eq_zero hlen
    subst hl0
    clear hr hlen hn hi hz0 hz1 hz2
    simp only [Option.isNone_none] at hN
    go_enter Try.func24, Try.ntmps24
    go_wp2
    go_ret
    exact ⟨none, 0, rfl, World.ownsRow_nil _ _ _ _, Below.refl _ _, fun h => h⟩
  | some ad =>
    simp only [Option.isNone_some] at hN
    have hnews : Hid (∀ W, Below w.heap.size w W → ∀ j u, (l.flatMap encLk)[j]? = some u → W.cell? (ad.add j) = some u) := fun W hW => (hr.below hW).news (fun _ _ => rfl)
    clear hr
    go_enter Try.func24, Try.ntmps24
    go_wp2_with (at_builtin; refine wpList_append_own_at _ rfl (.tmp 5) (.tmp 6) 58 rfl w.heap.size 67 i0 (.agg #[.int .i64 0, .int .i64 0, .int .i64 0, .int .u64 0]) 4 32 Try.underlying58 hi hz0 hz1 hz2 rfl (by decide) (.slice (some ⟨w.heap.size, 0, none⟩) 0 0) 0 [] rfl (World.ownsRow_made w #[] 0 (Nat.le_refl _) (by simp [maxLen]) (by simp)) ad n c (l.flatMap encLk) rfl ?_ (hnews.out _ (by (repeat' (first | (with_reducible exact Below.refl _ _) | (with_reducible assumption) | (with_reducible refine below_drewN ?_ _) | (with_reducible refine below_after (by assumption) ?_ ?_) | (with_reducible refine Below.drew ?_) | (with_reducible refine Below.alloc ?_ ?_ _) | (with_reducible refine Below.setCell ?_ ?_ _) | omega | (simp; omega) | (simp; done))))) ?_ ?_ ?_ ?_ ?_)
    case _ => rw [flatMap_size l (size := 4) (fun _ _ => rfl), hlen]
    case _ =>
      refine one_flat (fun x _ u hu => ?_)
      simp only [encLk, List.mem_cons, List.mem_nil_iff, or_false] at hu
      rcases hu with rfl | rfl | rfl | rfl <;> rfl
    case _ => simp only [maxLen]; omega
    case _ => omega
    case _ => simp
    intro v' w1 hown hg hnil hat
    have hB : Below w.heap.size w w1 := Below.grown (w := w.alloc (.cells #[] 67)) (by (repeat' (first | (with_reducible exact Below.refl _ _) | (with_reducible assumption) | (with_reducible refine below_drewN ?_ _) | (with_reducible refine below_after (by assumption) ?_ ?_) | (with_reducible refine Below.drew ?_) | (with_reducible refine Below.alloc ?_ ?_ _) | (with_reducible refine Below.setCell ?_ ?_ _) | omega | (simp; omega) | (simp; done)))) hg (by simp) (fun k e => by simp [Value.ownBlock] at e; omega)
    have hown : World.ownsRow w1 w.heap.size 67 4 v' n (l.flatMap encLk) := by simpa using hown
    obtain ⟨A', c', rfl⟩ := row_slice hown
    have hA' : A'.isSome = true := by
      rcases hat with h | h <;> (cases A' with | none => simp [Value.ownBlock] at h | some a => rfl)
    have HO := Lib.hid hown
    clear hown hat hg hnil
    go_wp2
    go_ret
    exact ⟨A', c', rfl, HO.out, hB, fun _ => hA'⟩
end Go.Proofs.Ytcecbohaajocfaa
