/- The law's big. -/
import Derived.Test.YtcidcadopeokoaaDoorCopy
namespace Go.Proofs.YtcidcadopeokoaaDoor
open Go.RowKit Go.Shelf

/-- Is a plant too big for the statements? -/
def bigP (p : Plt) : Bool := decide (60 < p.sn) || decide (60 < p.ln) || decide (60 < p.rn) || p.lnks.any fun x => decide (20 < x.tn)
set_option maxRecDepth 100000 in
set_option maxHeartbeats 4000000 in
theorem big_any (p : Plt) (w : World) (hp : PltIn w w.heap.size p) :
    Calls Tryd.prog 5 #[p.val] w fun e w' => e = .returned (.bool (bigP p)) ∧ Below w.heap.size w w' := by
  have HP := Lib.hid hp
  have h1 := hp.hs
  have h2 := hp.hl
  have h3 := hp.hr
  have e2 := Lib.hid hp.lnk.1
  clear hp
  unfold Plt.val
  go_enter Tryd.func5, Tryd.ntmps5
  by_cases q1 : (60 : Int) < (p.sn : Int)
  · go_wp2
    go_ret
    exact ⟨ret_bool (by simp [bigP]; omega), by (repeat' (first | (with_reducible exact Below.refl _ _) | (with_reducible assumption) | (with_reducible refine below_drewN ?_ _) | (with_reducible refine below_after (by assumption) ?_ ?_) | (with_reducible refine Below.drew ?_) | (with_reducible refine Below.alloc ?_ ?_ _) | (with_reducible refine Below.setCell ?_ ?_ _) | omega | (simp; omega) | (simp; done)))⟩
  by_cases q2 : (60 : Int) < (p.ln : Int)
  · go_wp2
    go_ret
    exact ⟨ret_bool (by simp [bigP]; omega), by (repeat' (first | (with_reducible exact Below.refl _ _) | (with_reducible assumption) | (with_reducible refine below_drewN ?_ _) | (with_reducible refine below_after (by assumption) ?_ ?_) | (with_reducible refine Below.drew ?_) | (with_reducible refine Below.alloc ?_ ?_ _) | (with_reducible refine Below.setCell ?_ ?_ _) | omega | (simp; omega) | (simp; done)))⟩
  by_cases q3 : (60 : Int) < (p.rn : Int)
  · go_wp2
    go_ret
    exact ⟨ret_bool (by simp [bigP]; omega), by (repeat' (first | (with_reducible exact Below.refl _ _) | (with_reducible assumption) | (with_reducible refine below_drewN ?_ _) | (with_reducible refine below_after (by assumption) ?_ ?_) | (with_reducible refine Below.drew ?_) | (with_reducible refine Below.alloc ?_ ?_ _) | (with_reducible refine Below.setCell ?_ ?_ _) | omega | (simp; omega) | (simp; done)))⟩
  have q1' : (p.sn : Int) ≤ 60 := by omega
  have q2' : (p.ln : Int) ≤ 60 := by omega
  have q3' : (p.rn : Int) ≤ 60 := by omega
  go_wp2
  go_loopw [3] (fun i wr => ∃ k : Nat, k ≤ p.ln ∧ i = .int .i64 k ∧ wr = w.alloc (.cells #[.int .i64 p.buses, .slice p.sA p.sn p.sc, .slice p.lA p.ln p.lc, .slice p.rA p.rn p.rc] 26) ∧ Hid (∀ i (y : Lnk), i < k → p.lnks[i]? = some y → decide (20 < y.tn) = false)) (fun i _ => p.ln - (intOf i).toNat)
  case atStart => exact ⟨0, by omega, rfl, rfl, fun i y hi => absurd hi (by omega)⟩
  case round =>
    obtain ⟨k, hk, rfl, rfl, hE⟩ := hrel
    by_cases hlt : k < p.ln
    · obtain ⟨b, off, x, e1, hb, hx, hcx⟩ := HP.out.lnk.at_ hlt
      obtain ⟨d0, d1, d2, d3, d4, d5⟩ := Lnk.cells hcx
      have ht := HP.out.ht x (List.mem_of_getElem? hx)
      have HX := Lib.hid hx
      clear hx hcx
      have hk0 : (0 : Int) ≤ (k : Int) := by omega
      have hkn : (k : Int) < (p.ln : Int) := by omega
      by_cases q : (20 : Int) < (x.tn : Int)
      · have hd : bigP p = true := by
          unfold bigP
          simp only [Bool.or_eq_true]
          refine .inr (List.any_eq_true.2 ⟨x, List.mem_of_getElem? HX.out, ?_⟩)
          simp; omega
        go_wp2
        go_ret
        exact ⟨ret_bool hd.symm, by (repeat' (first | (with_reducible exact Below.refl _ _) | (with_reducible assumption) | (with_reducible refine below_drewN ?_ _) | (with_reducible refine below_after (by assumption) ?_ ?_) | (with_reducible refine Below.drew ?_) | (with_reducible refine Below.alloc ?_ ?_ _) | (with_reducible refine Below.setCell ?_ ?_ _) | omega | (simp; omega) | (simp; done)))⟩
      · have hE' : Hid (∀ i (y : Lnk), i < k + 1 → p.lnks[i]? = some y → decide (20 < y.tn) = false) := by
          intro i y hi hy
          rcases Nat.lt_or_ge i k with h | h
          · exact hE.out i y h hy
          · obtain rfl : i = k := by omega
            rw [HX.out] at hy
            cases hy
            simp; omega
        clear hE
        go_wp2
        go_roundw
        case rel => exact ⟨k + 1, by omega, by go_num, by simp only [e1], hE'⟩
        case measure => simp [intOf]; omega
    · have hd : bigP p = false := by
        unfold bigP
        simp only [Bool.or_eq_false_iff, decide_eq_false_iff_not]
        refine ⟨⟨⟨by omega, by omega⟩, by omega⟩, ?_⟩
        rw [List.any_eq_false]
        intro x hx
        obtain ⟨i, hi⟩ := List.getElem?_of_mem hx
        have hil := (List.getElem?_eq_some_iff.1 hi).1
        rw [e2.out] at hil
        simpa using hE.out i x (by omega) hi
      go_wp2
      go_ret
      exact ⟨ret_bool hd.symm, by (repeat' (first | (with_reducible exact Below.refl _ _) | (with_reducible assumption) | (with_reducible refine below_drewN ?_ _) | (with_reducible refine below_after (by assumption) ?_ ?_) | (with_reducible refine Below.drew ?_) | (with_reducible refine Below.alloc ?_ ?_ _) | (with_reducible refine Below.setCell ?_ ?_ _) | omega | (simp; omega) | (simp; done)))⟩
end Go.Proofs.YtcidcadopeokoaaDoor
