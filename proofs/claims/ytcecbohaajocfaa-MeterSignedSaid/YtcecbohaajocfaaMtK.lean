/- meter: isRight of a tariff and of a use, bill. -/
import Derived.Test.YtcecbohaajocfaaMtM

set_option linter.unusedSimpArgs false
set_option linter.unusedVariables false
namespace Go.Proofs.Ytcecbohaajocfaa
open Go.RowKit

set_option maxRecDepth 100000 in
set_option maxHeartbeats 2000000 in
theorem TisRight_yes (price : List Int) (base : Int) (l : List Sp) (credit : Int) (pA tA : Option Addr) (pc tn tc : Nat) (w : World) (ok : TrfOk ⟨price, base, l, credit⟩) (hin : TrfIn w w.heap.size tn pA tA ⟨price, base, l, credit⟩) :
    Calls Try.prog 57 #[.agg #[.slice pA 24 pc, .int .i64 base, .slice tA tn tc, .int .i64 credit]] w fun e w' => e = .returned (.bool true) ∧ Below w.heap.size w w' := by
  have HI := Lib.hid hin
  have KA := Lib.hid (fun W (h : Below w.heap.size w W) => allN pA 24 pc price 90 W (enters_of Try.func90 (by kernel_rfl) rfl) (hin.next h).p (by omega) (fun x hx W' _ => rightPrice_yes (ok.pb x hx) W'))
  have KT := Lib.hid (fun W (h : Below w.heap.size w W) => areRight_yes tA tn tc l W ok.tl (hin.next h).t ok.ti)
  have K1 := Lib.hid (fun W => within_yes (n := base) (a := 0) (b := 1000000000) ok.b W)
  have K2 := Lib.hid (fun W => within_yes (n := credit) (a := 0) (b := 100) ok.cr W)
  have g1 : w.heap.size < w.heap.size + 1 := by omega
  clear ok hin
  go_enter Try.func57, Try.ntmps57
  go_wp2_with fail
  obtain ⟨tb, htb⟩ : ∃ z, z = w.heap.size := ⟨_, rfl⟩
  obtain ⟨w1, hw1⟩ : ∃ z, z = w.alloc (.cells #[.slice pA 24 pc, .int .i64 base, .slice tA tn tc, .int .i64 credit] 25) := ⟨_, rfl⟩
  have TB : Hid (Blk w1 tb 25 #[.slice pA 24 pc, .int .i64 base, .slice tA tn tc, .int .i64 credit]) := Lib.hid (by rw [hw1, htb]; exact heap_alloc_new w _)
  have Sw1 : Hid (w1.heap.size = tb + 1) := Lib.hid (by rw [hw1, htb, World.size_alloc])
  have Ztb : Hid (w.heap.size ≤ tb) := Lib.hid (by rw [htb]; exact Nat.le_refl _)
  have hBn : Below w.heap.size w w1 := by rw [hw1]; exact (Below.refl _ _).alloc (Nat.le_refl _) _
  rw [← hw1, ← htb]
  have B0 : Hid (Below w.heap.size w w1) := Lib.hid hBn
  clear hw1 htb hBn
  clear g1
  refine (KA.out _ B0.out).mono ?_
  rintro e w2 ⟨rfl, hB⟩
  have B1 : Hid (Below w1.heap.size w1 w2) := Lib.hid hB
  clear hB
  have hbk := TB.out.below B1.out TB.out.lt
  have t1 := hbk.cell 1
  have t2 := hbk.cell 2
  have t3 := hbk.cell 3
  simp only [List.getElem?_toArray, List.getElem?_cons_zero, List.getElem?_cons_succ] at t1 t2 t3
  have zt := hbk.lt
  clear hbk
  go_wp2_with fail
  refine (K1.out _).mono ?_
  rintro e w5 ⟨rfl, hw9⟩
  obtain rfl := hw9.symm
  go_wp2_with fail
  refine (KT.out _ (below3 B0.out B1.out (Nat.le_refl _))).mono ?_
  rintro e w3 ⟨rfl, hB⟩
  have B2 : Hid (Below w2.heap.size w2 w3) := Lib.hid hB
  clear hB
  clear t1 t2 t3 zt
  have hbk := TB.out.below (below3 B1.out B2.out (Nat.le_refl _)) TB.out.lt
  have t3 := hbk.cell 3
  simp only [List.getElem?_toArray, List.getElem?_cons_zero, List.getElem?_cons_succ] at t3
  have zt := hbk.lt
  clear hbk
  go_wp2_with fail
  refine (K2.out _).mono ?_
  rintro e w5 ⟨rfl, hw9⟩
  obtain rfl := hw9.symm
  go_wp2
  go_ret
  exact ⟨rfl, (below3 (below3 B0.out B1.out (Nat.le_refl _)) B2.out (Nat.le_refl _))⟩
theorem UisRight_yes (vals : List Int) (out : Int) (uA : Option Addr) (un uc : Nat) (w : World) (h1 : vals.length ≤ 1000) (hv : ∀ x ∈ vals, 0 ≤ x ∧ x ≤ 100000) (ho : 0 ≤ out ∧ out ≤ 50000) (hin : Rd w w.heap.size 1 encI uA un vals) :
    Calls Try.prog 58 #[.agg #[.slice uA un uc, .int .i64 out]] w fun e w' => e = .returned (.bool true) ∧ Below w.heap.size w w' := by
  have KA := Lib.hid (fun W (h : Below w.heap.size w W) => allN uA un uc vals 93 W (enters_of Try.func93 (by kernel_rfl) rfl) (hin.next h) (by have := hin.1; omega) (fun x hx W' _ => rightValue_yes (hv x hx) W'))
  have K1 := Lib.hid (fun W => within_yes (n := out) (a := 0) (b := 50000) ho W)
  have g1 : w.heap.size < w.heap.size + 1 := by omega
  clear h1 hv ho hin
  go_enter Try.func58, Try.ntmps58
  go_wp2_with fail
  obtain ⟨tb, htb⟩ : ∃ z, z = w.heap.size := ⟨_, rfl⟩
  obtain ⟨w1, hw1⟩ : ∃ z, z = w.alloc (.cells #[.slice uA un uc, .int .i64 out] 28) := ⟨_, rfl⟩
  have TB : Hid (Blk w1 tb 28 #[.slice uA un uc, .int .i64 out]) := Lib.hid (by rw [hw1, htb]; exact heap_alloc_new w _)
  have Sw1 : Hid (w1.heap.size = tb + 1) := Lib.hid (by rw [hw1, htb, World.size_alloc])
  have Ztb : Hid (w.heap.size ≤ tb) := Lib.hid (by rw [htb]; exact Nat.le_refl _)
  have hBn : Below w.heap.size w w1 := by rw [hw1]; exact (Below.refl _ _).alloc (Nat.le_refl _) _
  rw [← hw1, ← htb]
  have B0 : Hid (Below w.heap.size w w1) := Lib.hid hBn
  clear hw1 htb hBn
  clear g1
  refine (KA.out _ B0.out).mono ?_
  rintro e w2 ⟨rfl, hB⟩
  have B1 : Hid (Below w1.heap.size w1 w2) := Lib.hid hB
  clear hB
  have hbk := TB.out.below B1.out TB.out.lt
  have t1 := hbk.cell 1
  simp only [List.getElem?_toArray, List.getElem?_cons_zero, List.getElem?_cons_succ] at t1
  have zt := hbk.lt
  clear hbk
  go_wp2_with fail
  refine (K1.out _).mono ?_
  rintro e w5 ⟨rfl, hw9⟩
  obtain rfl := hw9.symm
  go_wp2
  go_ret
  exact ⟨rfl, (below3 B0.out B1.out (Nat.le_refl _))⟩
end Go.Proofs.Ytcecbohaajocfaa
