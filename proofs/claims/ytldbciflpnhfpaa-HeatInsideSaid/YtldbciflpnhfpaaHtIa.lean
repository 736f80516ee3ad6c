/- heat: always, one case so many times. -/
import Derived.Test.YtldbciflpnhfpaaRgX
import Derived.Test.YtldbciflpnhfpaaRound
import Derived.Test.YtldbciflpnhfpaaHtP
import Derived.Shelf.Abstract
import Derived.Maps.OwnIn

set_option linter.unusedSimpArgs false
set_option linter.unusedVariables false
namespace Go.Proofs.Ytldbciflpnhfpaa
open Go.RowKit Go.Shelf
attribute [local go_sem] Oper.semAt_some

set_option maxRecDepth 100000 in
set_option maxHeartbeats 4000000 in
theorem always1_in (F : Fence) (n : Nat) (hf : F.fn 70) (hro : F.round = none) (hn : 1 ≤ n) (l nB cB cnt : Nat) (c0 c1 c2 : Value) (Sf : Nat → Prop) (hcnt : cnt ≤ 100000)
    (hnB : Sf nB) (hcB : Sf cB) (J Jx : List Unit → World → Prop) (W : World)
    (hY : ∀ (pre : List Unit) W1, J pre W1 → pre.length < cnt → YieldAt F (n - 1) Try.prog l #[.agg #[c0, c1, c2]] W1 fun e W' =>
      (e = .returned (.bool true) ∧ J (pre ++ [()]) W' ∧ KpB Sf W1 W') ∨ (e = .returned (.bool false) ∧ Jx (pre ++ [()]) W'))
    (cn : W.cell? ⟨nB, 0, none⟩ = some (.int .i64 (cnt : Int))) (cc0 : W.cell? ⟨cB, 0, none⟩ = some c0) (cc1 : W.cell? ⟨cB, 1, none⟩ = some c1) (cc2 : W.cell? ⟨cB, 2, none⟩ = some c2)
    (h0 : J [] W) :
    CallsIn F n Try.prog 70 #[.func (.yield l) #[] #[], .pointer (some ⟨nB, 0, none⟩), .pointer (some ⟨cB, 0, none⟩)] W fun e W' => (∃ v, e = .returned v) ∧ ((∃ ys : List Unit, ys.length = cnt ∧ J ys W') ∨ (∃ pre, True ∧ Jx pre W')) := by
  refine callsIn_of_wp Try.func70 rfl hf ?_ hro
  simp only [Try.ntmps70, List.size_toArray, List.length_cons, List.length_nil, Nat.reduceAdd, Nat.reduceSub, Array.replicate_succ, Array.replicate_zero, List.push_toArray, List.append_toArray, List.nil_append, List.cons_append]
  have hz1 : nB < W.heap.size := block_of_cell cn
  have HC : Hid (W.cell? ⟨cB, 0, none⟩ = some c0 ∧ W.cell? ⟨cB, 1, none⟩ = some c1 ∧ W.cell? ⟨cB, 2, none⟩ = some c2) := Lib.hid ⟨cc0, cc1, cc2⟩
  clear cc0 cc1 cc2
  gi_wp2
  clear cn hz1
  gi_loopw [5] (fun i wr => ∃ k : Nat, k ≤ cnt ∧ i = .int .i64 k ∧ J (List.replicate k ()) wr ∧ KpB Sf W wr) (fun i _ => cnt - (intOf i).toNat)
  case atStart => exact ⟨0, Nat.zero_le _, rfl, h0, KpB.refl _ _⟩
  case round =>
    obtain ⟨k, hk, rfl, hJs, hK⟩ := hrel
    by_cases hlt : k < cnt
    · have r0 := hK.ks.2 _ _ hcB HC.out.1
      have r1 := hK.ks.2 _ _ hcB HC.out.2.1
      have r2 := hK.ks.2 _ _ hcB HC.out.2.2
      have HY := Lib.hid hY
      have HK := Lib.hid hK
      have HS := Lib.hid hJs
      have hk0 : (0 : Int) ≤ (k : Int) := by omega
      have hkn : (k : Int) < (cnt : Int) := by omega
      have z6 := block_of_cell r0
      dsimp only at z6
      clear hY hK hJs
      obtain ⟨fn, tmps, assign, body, hy', hR⟩ := HY.out _ _ HS.out (by simpa using hlt)
      gi_wp2
      refine hR.mono ?_
      rintro e W3 (⟨rfl, hJ3, hk3⟩ | ⟨rfl, hJx3⟩)
      · have HJ3 : Hid (J (List.replicate (k + 1) ()) W3) := Lib.hid (by rw [List.replicate_succ']; exact hJ3)
        have HK3 := Lib.hid (HK.out.trans hk3)
        clear hJ3 hk3
        gi_wp2
        go_roundw
        case rel => exact ⟨k + 1, by omega, by go_num, HJ3.out, HK3.out⟩
        case measure => simp [intOf]; omega
      · have HX3 := Lib.hid hJx3
        clear hJx3
        gi_wp2
        refine bodyPost_ret (results_none rfl _ _ _) rfl ?_
        exact ⟨⟨_, rfl⟩, .inr ⟨_, trivial, HX3.out⟩⟩
    · obtain rfl : cnt = k := by omega
      gi_wp2
      go_end0
      exact ⟨⟨_, rfl⟩, .inl ⟨_, by simp, hJs⟩⟩
theorem always_stops (F : Fence) (n : Nat) (hf : F.fn 70) (hro : F.round = none) (hn : 1 ≤ n) (nB cB cnt : Nat) (c0 c1 c2 : Value) (Sf : Nat → Prop) (hcnt : cnt ≤ 100000) (hnB : Sf nB) (hcB : Sf cB) (w : World)
    (cn : w.cell? ⟨nB, 0, none⟩ = some (.int .i64 (cnt : Int))) (cc0 : w.cell? ⟨cB, 0, none⟩ = some c0) (cc1 : w.cell? ⟨cB, 1, none⟩ = some c1) (cc2 : w.cell? ⟨cB, 2, none⟩ = some c2) :
    SeqStopsK F n Try.prog 70 #[.pointer (some ⟨nB, 0, none⟩), .pointer (some ⟨cB, 0, none⟩)] (fun _ : Unit => #[.agg #[c0, c1, c2]]) (KpB Sf) (fun ys => ys.length = cnt) (fun _ => True) cnt w := fun l J Jx W hW _ _ hY h0 =>
  always1_in F n hf hro hn l nB cB cnt c0 c1 c2 Sf hcnt hnB hcB J Jx W (fun pre W1 => hY pre () W1) ((hW.cell (block_of_cell cn)).trans cn) ((hW.cell (block_of_cell cc0)).trans cc0) ((hW.cell (block_of_cell cc1)).trans cc1) ((hW.cell (block_of_cell cc2)).trans cc2) h0
theorem always_in (F : Fence) (n : Nat) (hf : F.fn 44) (hro : F.round = none) (c0 c1 c2 : Value) (cnt : Int) (w : World) :
    CallsIn F n Try.prog 44 #[.agg #[c0, c1, c2], .int .i64 cnt] w fun e w' => e = .returned (.func (.func 70) #[] #[.pointer (some ⟨w.heap.size + 1, 0, none⟩), .pointer (some ⟨w.heap.size, 0, none⟩)]) ∧ w' = (w.alloc (.cells #[c0, c1, c2] 35)).alloc (.cells #[.int .i64 cnt] 3) := by
  refine callsIn_of_wp Try.func44 rfl hf ?_ hro
  simp only [Try.ntmps44, List.size_toArray, List.length_cons, List.length_nil, Nat.reduceAdd, Nat.reduceSub, Array.replicate_succ, Array.replicate_zero, List.push_toArray, List.append_toArray, List.nil_append, List.cons_append]
  gi_wp2
  go_ret
  exact ⟨rfl, rfl⟩
theorem seconds_in (F : Fence) (n : Nat) (hf : F.fn 40) (hro : F.round = none) (h0 h1 h2 h3 : Value) (tA : Option Addr) (tn tc : Nat) (qf : Fn) (q1 q2 : Array Value) (w : World) :
    CallsIn F n Try.prog 40 #[.agg #[h0, h1, h2, h3], .slice tA tn tc, .func qf q1 q2] w fun e w' => e = .returned (.func (.func 68) #[] #[.pointer (some ⟨w.heap.size + 1, 0, none⟩), .pointer (some ⟨w.heap.size + 1 + 1, 0, none⟩), .pointer (some ⟨w.heap.size, 0, none⟩)]) ∧ w' = ((w.alloc (.cells #[h0, h1, h2, h3] 28)).alloc (.cells #[.slice tA tn tc] 30)).alloc (.cells #[.func qf q1 q2] 97) := by
  refine callsIn_of_wp Try.func40 rfl hf ?_ hro
  simp only [Try.ntmps40, List.size_toArray, List.length_cons, List.length_nil, Nat.reduceAdd, Nat.reduceSub, Array.replicate_succ, Array.replicate_zero, List.push_toArray, List.append_toArray, List.nil_append, List.cons_append]
  gi_wp2
  go_ret
  exact ⟨rfl, rfl⟩
end Go.Proofs.Ytldbciflpnhfpaa
