/- slices.Index and slices.Contains of numbers. -/
import Derived.Test.YtcecbohaajocfaaMtB

set_option linter.unusedSimpArgs false
set_option linter.unusedVariables false
namespace Go.Proofs.Ytcecbohaajocfaa
open Go.RowKit

theorem rd_ints {w : World} {B n : Nat} {A : Option Addr} {s : List Nat} (h : Rd w B 1 encN A n s) : Rd w B 1 encI A n (s.map fun x => ((x : Nat) : Int)) := by
  refine ⟨by rw [List.length_map]; exact h.1, fun h0 => ?_⟩
  obtain ⟨b, off, e, hb, hc⟩ := h.2 h0
  refine ⟨b, off, e, hb, fun i x hx j u hu => ?_⟩
  rw [List.getElem?_map] at hx
  obtain ⟨y, hy, rfl⟩ := Option.map_eq_some_iff.1 hx
  exact hc i y hy j u hu
theorem mem_ints {s : List Nat} {x : Nat} : ((x : Nat) : Int) ∈ (s.map fun x => ((x : Nat) : Int)) ↔ x ∈ s := by
  rw [List.mem_map]
  constructor
  · rintro ⟨y, hy, e⟩
    have : y = x := by omega
    rwa [← this]
  · intro h
    exact ⟨x, h, rfl⟩
set_option maxRecDepth 100000 in
set_option maxHeartbeats 2000000 in
theorem index_any (A : Option Addr) (n c : Nat) (l : List Int) (v : Int) (w : World) (hr : Rd w w.heap.size 1 encI A n l) (hn : n ≤ 1000000) :
    Calls Try.prog 42 #[.slice A n c, .int .i64 v] w fun e w' => ∃ r : Int, e = .returned (.int .i64 r) ∧ (0 ≤ r ↔ v ∈ l) ∧ Below w.heap.size w w' := by
  have HR := Lib.hid hr
  have HL := Lib.hid hr.1
  have HN := Lib.hid hn
  clear hr hn
  go_enter Try.func42, Try.ntmps42
  have hn0 : (0 : Int) ≤ (n : Int) := by omega
  go_wp2
  go_loopw [8] (fun iv wr => ∃ k : Nat, k ≤ n ∧ iv = .int .i64 ((k : Nat) : Int) ∧ Hid (Below w.heap.size w wr ∧ ∀ x ∈ l.take k, x ≠ v)) (fun iv _ => n - (intOf iv).toNat)
  case atStart => exact ⟨0, Nat.zero_le _, rfl, Lib.hid ⟨Below.refl _ _, fun x h => by simp at h⟩⟩
  case round =>
    obtain ⟨k, hk, rfl, HW⟩ := hrel
    by_cases hlt : k < n
    · have HLT := Lib.hid hlt
      have hk0 : (0 : Int) ≤ (k : Int) := by omega
      have hkn : (k : Int) < (n : Int) := by omega
      have hk9 : (k : Int) ≤ 1000000 := by have := HN.out; omega
      obtain ⟨gb, go9, x, eA, hgb, hx, hcx⟩ := HR.out.at_ hlt
      have cx := hcx 0 _ rfl
      rw [Nat.mul_one, Nat.add_zero] at cx
      have cx1 := (HW.out.1.cell (p := ⟨gb, go9 + k, none⟩) hgb).trans cx
      have zx : gb < wr.heap.size := Nat.lt_of_lt_of_le hgb HW.out.1.size
      have HX := Lib.hid hx
      clear hx hcx cx hgb hlt hk
      subst eA
      by_cases hv : v = x
      · have HM : Hid (v ∈ l) := Lib.hid (by rw [hv]; exact List.mem_of_getElem? HX.out)
        subst hv
        go_wp2
        go_ret
        exact ⟨(k : Int), rfl, ⟨fun _ => HM.out, fun _ => by omega⟩, HW.out.1⟩
      · have hv2 : ¬ (x = v) := fun e => hv e.symm
        have HN9 : Hid (Below w.heap.size w wr ∧ ∀ y ∈ l.take (k + 1), y ≠ v) := Lib.hid ⟨HW.out.1, fun y hy => by
          rw [List.take_add_one, HX.out] at hy
          rcases List.mem_append.1 hy with hy | hy
          · exact HW.out.2 y hy
          · have : y = x := by simpa using hy
            rw [this]; exact hv2⟩
        go_wp2
        go_roundw
        case rel => exact ⟨k + 1, by have := HLT.out; omega, by go_num, HN9⟩
        case measure => have := HLT.out; simp [intOf]; omega
    · obtain rfl : n = k := by omega
      have HF : Hid (¬ v ∈ l) := Lib.hid (fun h => HW.out.2 v (by rw [← HL.out, List.take_length]; exact h) rfl)
      go_wp2
      go_ret
      exact ⟨-1, rfl, ⟨fun h => by omega, fun h => absurd h HF.out⟩, HW.out.1⟩
set_option maxRecDepth 100000 in
set_option maxHeartbeats 2000000 in
theorem contains_any (A : Option Addr) (n c : Nat) (l : List Int) (v : Int) (w : World) (hr : Rd w w.heap.size 1 encI A n l) (hn : n ≤ 1000000) :
    Calls Try.prog 12 #[.slice A n c, .int .i64 v] w fun e w' => e = .returned (.bool (decide (v ∈ l))) ∧ Below w.heap.size w w' := by
  have K := Lib.hid (index_any A n c l v w hr hn)
  clear hr hn
  go_enter Try.func12, Try.ntmps12
  go_wp2_with fail
  refine K.out.mono ?_
  rintro e w2 ⟨r, rfl, hr, hB⟩
  have HB := Lib.hid hB
  clear hB
  have HV : Hid (decide (v ∈ l) = decide (0 ≤ r)) := Lib.hid (decide_eq_decide.2 hr.symm)
  clear hr
  go_wp2
  go_ret
  exact ⟨by rw [HV.out]; rfl, HB.out⟩
end Go.Proofs.Ytcecbohaajocfaa
