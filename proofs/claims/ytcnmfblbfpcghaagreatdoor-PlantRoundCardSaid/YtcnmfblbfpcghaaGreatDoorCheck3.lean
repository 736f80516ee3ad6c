/- slices.IndexFunc, slices.ContainsFunc and plant.all at sources, links and racks. -/
import Derived.Test.YtcnmfblbfpcghaaGreatDoorCheck2

set_option linter.unusedSimpArgs false
set_option linter.unusedVariables false
namespace Go.Proofs.YtcnmfblbfpcghaaGreatDoor
open Go.RowKit

/-- The first place at which a test says yes, or -1. -/
def findI {α : Type} (q : α → Bool) (l : List α) : Int := match l.findIdx? q with | some k => (k : Int) | none => -1
section
variable {α : Type} {q : α → Bool} {l : List α}
theorem findI_hit {k : Nat} {x : α} (hx : l[k]? = some x) (hq : q x = true) (h : ∀ i y, i < k → l[i]? = some y → q y = false) : findI q l = k := by
  obtain ⟨hk, rfl⟩ := List.getElem?_eq_some_iff.1 hx
  have : l.findIdx? q = some k := by
    rw [List.findIdx?_eq_some_iff_getElem]
    refine ⟨hk, hq, fun j hj => ?_⟩
    have := h j l[j] hj (List.getElem?_eq_getElem _)
    simp [this]
  simp [findI, this]
theorem findI_none (h : ∀ i y, i < l.length → l[i]? = some y → q y = false) : findI q l = -1 := by
  have : l.findIdx? q = none := by
    rw [List.findIdx?_eq_none_iff]
    intro x hx
    obtain ⟨i, hi, rfl⟩ := List.getElem_of_mem hx
    exact h i _ hi (List.getElem?_eq_getElem hi)
  simp [findI, this]
theorem findI_ge (q : α → Bool) (l : List α) : decide (0 ≤ findI q l) = l.any q := by
  unfold findI
  cases h : l.findIdx? q with
  | none =>
    rw [List.findIdx?_eq_none_iff] at h
    simp only [Int.reduceNeg, Int.reduceLE, decide_false]
    exact (List.any_eq_false.2 (fun x hx => by simp [h x hx])).symm
  | some k =>
    rw [List.findIdx?_eq_some_iff_getElem] at h
    obtain ⟨hk, hq, _⟩ := h
    simp only [Int.natCast_nonneg, decide_true]
    exact (List.any_eq_true.2 ⟨l[k], List.getElem_mem hk, hq⟩).symm
theorem before_succ {k : Nat} {x : α} (h : ∀ i y, i < k → l[i]? = some y → q y = false) (hx : l[k]? = some x) (hq : q x = false) : ∀ i y, i < k + 1 → l[i]? = some y → q y = false := by
  intro i y hi hy
  rcases Nat.lt_or_ge i k with h' | h'
  · exact h i y h' hy
  · obtain rfl : i = k := by omega
    rw [hx] at hy; cases hy; exact hq
end

/-- The closure that `all` hands to ContainsFunc. -/
theorem all1Src_any (x : Src) (buses : Int) (bp bi bz : Nat) (w : World) (h : BusAt w buses bp bi) (hz : bz < w.heap.size) (cz : w.cell? ⟨bz, 0, none⟩ = some (.func (.func 75) #[] #[.pointer (some ⟨bi, 0, none⟩)])) :
    Calls Tryz.prog 119 #[x.val, .pointer (some ⟨bz, 0, none⟩)] w fun e w' => e = .returned (.bool (!srcOk buses x)) ∧ Below w.heap.size w w' := by
  have HB := Lib.hid h
  clear h
  unfold Src.val
  go_enter Tryz.func119, Tryz.ntmps119
  go_wp2_with (go_at_call 75; refine (isSource_any x buses bp bi _ (HB.out.next (by (repeat' (first | (with_reducible exact Below.refl _ _) | (with_reducible assumption) | (with_reducible refine below_drewN ?_ _) | (with_reducible refine below_after (by assumption) ?_ ?_) | (with_reducible refine Below.drew ?_) | (with_reducible refine Below.alloc ?_ ?_ _) | (with_reducible refine Below.setCell ?_ ?_ _) | omega | (simp; omega) | (simp; done)))))).mono ?_; rintro e w' ⟨rfl, hB⟩)
  go_ret
  exact ⟨rfl, by (repeat' (first | (with_reducible exact Below.refl _ _) | (with_reducible assumption) | (with_reducible refine below_drewN ?_ _) | (with_reducible refine below_after (by assumption) ?_ ?_) | (with_reducible refine Below.drew ?_) | (with_reducible refine Below.alloc ?_ ?_ _) | (with_reducible refine Below.setCell ?_ ?_ _) | omega | (simp; omega) | (simp; done)))⟩

set_option maxHeartbeats 1000000 in
theorem indexSrc_any (A : Option Addr) (n c : Nat) (l : List Src) (buses : Int) (bp bi bz : Nat) (w : World) (hl : Rd w w.heap.size 5 Src.enc A n l) (hn : n ≤ 9223372036854775807) (h : BusAt w buses bp bi) (hz : bz < w.heap.size)
    (cz : w.cell? ⟨bz, 0, none⟩ = some (.func (.func 75) #[] #[.pointer (some ⟨bi, 0, none⟩)])) :
    Calls Tryz.prog 144 #[.slice A n c, .func (.func 119) #[] #[.pointer (some ⟨bz, 0, none⟩)]] w
      fun e w' => e = .returned (.int .i64 (findI (fun x => !srcOk buses x) l)) ∧ Below w.heap.size w w' := by
  have hlen := hl.1
  have HB := Lib.hid h
  have CZ := Lib.hid cz
  clear h cz
  go_enter Tryz.func144, Tryz.ntmps144
  go_wp2
  go_loopw [8] (fun i wr => ∃ k : Nat, k ≤ n ∧ i = .int .i64 k ∧ Below w.heap.size w wr ∧ Hid (∀ i y, i < k → l[i]? = some y → (!srcOk buses y) = false)) (fun i _ => n - (intOf i).toNat)
  case atStart => exact ⟨0, by omega, rfl, Below.refl _ _, fun i y hi => absurd hi (by omega)⟩
  case round =>
    obtain ⟨k, hk, rfl, hB, hE⟩ := hrel
    have hz' := hB.size
    by_cases hlt : k < n
    · obtain ⟨b, off, x, rfl, hb, hx, hcx⟩ := (hl.below hB).at_ hlt
      obtain ⟨c0, c1, c2, c3, c4⟩ := Src.cells hcx
      go_wp2_with (go_at_call 119; refine (all1Src_any x buses bp bi bz _ (HB.out.next hB) (by omega) ((hB.cell hz).trans CZ.out)).mono ?_; rintro e w' ⟨rfl, hB1⟩)
      · go_ret
        exact ⟨ret_int (findI_hit hx (by assumption) hE.out).symm, by (repeat' (first | (with_reducible exact Below.refl _ _) | (with_reducible assumption) | (with_reducible refine below_drewN ?_ _) | (with_reducible refine below_after (by assumption) ?_ ?_) | (with_reducible refine Below.drew ?_) | (with_reducible refine Below.alloc ?_ ?_ _) | (with_reducible refine Below.setCell ?_ ?_ _) | omega | (simp; omega) | (simp; done)))⟩
      · have hE' := Lib.hid (before_succ hE.out hx (by assumption))
        clear hE
        go_roundw
        case rel => exact ⟨k + 1, by omega, by go_num, by (repeat' (first | (with_reducible exact Below.refl _ _) | (with_reducible assumption) | (with_reducible refine below_drewN ?_ _) | (with_reducible refine below_after (by assumption) ?_ ?_) | (with_reducible refine Below.drew ?_) | (with_reducible refine Below.alloc ?_ ?_ _) | (with_reducible refine Below.setCell ?_ ?_ _) | omega | (simp; omega) | (simp; done))), hE'.out⟩
        case measure => simp [intOf]; omega
    · go_wp2
      go_ret
      exact ⟨ret_int (findI_none (fun i y hi => hE.out i y (by omega))).symm, hB⟩

theorem containsSrc_any (A : Option Addr) (n c : Nat) (l : List Src) (buses : Int) (bp bi bz : Nat) (w : World) (hl : Rd w w.heap.size 5 Src.enc A n l) (hn : n ≤ 9223372036854775807) (h : BusAt w buses bp bi) (hz : bz < w.heap.size)
    (cz : w.cell? ⟨bz, 0, none⟩ = some (.func (.func 75) #[] #[.pointer (some ⟨bi, 0, none⟩)])) :
    Calls Tryz.prog 118 #[.slice A n c, .func (.func 119) #[] #[.pointer (some ⟨bz, 0, none⟩)]] w
      fun e w' => e = .returned (.bool (l.any fun x => !srcOk buses x)) ∧ Below w.heap.size w w' := by
  have C := Lib.hid (indexSrc_any A n c l buses bp bi bz w hl hn h hz cz)
  clear hl h cz
  go_enter Tryz.func118, Tryz.ntmps118
  go_wp2_with (go_at_call 144; refine C.out.mono ?_; rintro e w' ⟨rfl, hB⟩)
  all_goals (go_ret; exact ⟨ret_bool (by rw [← findI_ge]), hB⟩)

/-- all: at most so many, and each is right. -/
theorem allSrc_any (A : Option Addr) (n c : Nat) (most : Int) (l : List Src) (buses : Int) (bp bi : Nat) (w : World) (hl : Rd w w.heap.size 5 Src.enc A n l) (hn : n ≤ 9223372036854775807) (h : BusAt w buses bp bi) :
    Calls Tryz.prog 84 #[.slice A n c, .int .i64 most, .func (.func 75) #[] #[.pointer (some ⟨bi, 0, none⟩)]] w
      fun e w' => e = .returned (.bool (decide ((l.length : Int) ≤ most) && l.all (srcOk buses))) ∧ Below w.heap.size w w' := by
  obtain rfl : l.length = n := hl.1
  have HR := Lib.hid hl
  have HB := Lib.hid h
  clear hl h
  by_cases hm : (l.length : Int) ≤ most
  · go_enter Tryz.func84, Tryz.ntmps84
    go_wp2_with (go_at_call 118; refine (containsSrc_any A _ c l buses bp bi _ _ (HR.out.next (by (repeat' (first | (with_reducible exact Below.refl _ _) | (with_reducible assumption) | (with_reducible refine below_drewN ?_ _) | (with_reducible refine below_after (by assumption) ?_ ?_) | (with_reducible refine Below.drew ?_) | (with_reducible refine Below.alloc ?_ ?_ _) | (with_reducible refine Below.setCell ?_ ?_ _) | omega | (simp; omega) | (simp; done))))) hn (HB.out.next (by (repeat' (first | (with_reducible exact Below.refl _ _) | (with_reducible assumption) | (with_reducible refine below_drewN ?_ _) | (with_reducible refine below_after (by assumption) ?_ ?_) | (with_reducible refine Below.drew ?_) | (with_reducible refine Below.alloc ?_ ?_ _) | (with_reducible refine Below.setCell ?_ ?_ _) | omega | (simp; omega) | (simp; done))))) (by simp) (by simp)).mono ?_; rintro e w' ⟨rfl, hB⟩)
    all_goals (go_ret; exact ⟨ret_bool (by simp [hm, List.all_eq_not_any_not]), by (repeat' (first | (with_reducible exact Below.refl _ _) | (with_reducible assumption) | (with_reducible refine below_drewN ?_ _) | (with_reducible refine below_after (by assumption) ?_ ?_) | (with_reducible refine Below.drew ?_) | (with_reducible refine Below.alloc ?_ ?_ _) | (with_reducible refine Below.setCell ?_ ?_ _) | omega | (simp; omega) | (simp; done)))⟩)
  · go_enter Tryz.func84, Tryz.ntmps84
    go_wp2
    go_ret
    exact ⟨ret_bool (by rw [decide_eq_false (by omega : ¬ (l.length : Int) ≤ most)]; simp), by (repeat' (first | (with_reducible exact Below.refl _ _) | (with_reducible assumption) | (with_reducible refine below_drewN ?_ _) | (with_reducible refine below_after (by assumption) ?_ ?_) | (with_reducible refine Below.drew ?_) | (with_reducible refine Below.alloc ?_ ?_ _) | (with_reducible refine Below.setCell ?_ ?_ _) | omega | (simp; omega) | (simp; done)))⟩

/-- The closure that `all` hands to ContainsFunc. -/
theorem all1Lnk_any (x : Lnk) (buses : Int) (bp bi bz : Nat) (w : World) (h : BusAt w buses bp bi) (hz : bz < w.heap.size) (cz : w.cell? ⟨bz, 0, none⟩ = some (.func (.func 77) #[] #[.pointer (some ⟨bi, 0, none⟩)])) (ht : Rd w w.heap.size 2 Trp.enc x.tA x.tn x.trip) (hn : x.tn ≤ 9223372036854775807) :
    Calls Tryz.prog 121 #[x.val, .pointer (some ⟨bz, 0, none⟩)] w fun e w' => e = .returned (.bool (!lnkOk buses x)) ∧ Below w.heap.size w w' := by
  have HB := Lib.hid h
  have HT := Lib.hid ht
  clear ht
  clear h
  unfold Lnk.val
  go_enter Tryz.func121, Tryz.ntmps121
  go_wp2_with (go_at_call 77; refine (isLink_any x buses bp bi _ (HB.out.next (by (repeat' (first | (with_reducible exact Below.refl _ _) | (with_reducible assumption) | (with_reducible refine below_drewN ?_ _) | (with_reducible refine below_after (by assumption) ?_ ?_) | (with_reducible refine Below.drew ?_) | (with_reducible refine Below.alloc ?_ ?_ _) | (with_reducible refine Below.setCell ?_ ?_ _) | omega | (simp; omega) | (simp; done))))) (HT.out.next (by (repeat' (first | (with_reducible exact Below.refl _ _) | (with_reducible assumption) | (with_reducible refine below_drewN ?_ _) | (with_reducible refine below_after (by assumption) ?_ ?_) | (with_reducible refine Below.drew ?_) | (with_reducible refine Below.alloc ?_ ?_ _) | (with_reducible refine Below.setCell ?_ ?_ _) | omega | (simp; omega) | (simp; done))))) hn).mono ?_; rintro e w' ⟨rfl, hB⟩)
  go_ret
  exact ⟨rfl, by (repeat' (first | (with_reducible exact Below.refl _ _) | (with_reducible assumption) | (with_reducible refine below_drewN ?_ _) | (with_reducible refine below_after (by assumption) ?_ ?_) | (with_reducible refine Below.drew ?_) | (with_reducible refine Below.alloc ?_ ?_ _) | (with_reducible refine Below.setCell ?_ ?_ _) | omega | (simp; omega) | (simp; done)))⟩

set_option maxHeartbeats 1000000 in
theorem indexLnk_any (A : Option Addr) (n c : Nat) (l : List Lnk) (buses : Int) (bp bi bz : Nat) (w : World) (hl : Rd w w.heap.size 6 Lnk.enc A n l) (hn : n ≤ 9223372036854775807) (h : BusAt w buses bp bi) (hz : bz < w.heap.size)
    (cz : w.cell? ⟨bz, 0, none⟩ = some (.func (.func 77) #[] #[.pointer (some ⟨bi, 0, none⟩)]))
    (ht : ∀ x ∈ l, Rd w w.heap.size 2 Trp.enc x.tA x.tn x.trip ∧ x.tn ≤ 9223372036854775807) :
    Calls Tryz.prog 145 #[.slice A n c, .func (.func 121) #[] #[.pointer (some ⟨bz, 0, none⟩)]] w
      fun e w' => e = .returned (.int .i64 (findI (fun x => !lnkOk buses x) l)) ∧ Below w.heap.size w w' := by
  have hlen := hl.1
  have HB := Lib.hid h
  have CZ := Lib.hid cz
  have HT := Lib.hid ht
  clear ht
  clear h cz
  go_enter Tryz.func145, Tryz.ntmps145
  go_wp2
  go_loopw [8] (fun i wr => ∃ k : Nat, k ≤ n ∧ i = .int .i64 k ∧ Below w.heap.size w wr ∧ Hid (∀ i y, i < k → l[i]? = some y → (!lnkOk buses y) = false)) (fun i _ => n - (intOf i).toNat)
  case atStart => exact ⟨0, by omega, rfl, Below.refl _ _, fun i y hi => absurd hi (by omega)⟩
  case round =>
    obtain ⟨k, hk, rfl, hB, hE⟩ := hrel
    have hz' := hB.size
    by_cases hlt : k < n
    · obtain ⟨b, off, x, rfl, hb, hx, hcx⟩ := (hl.below hB).at_ hlt
      obtain ⟨c0, c1, c2, c3, c4, c5⟩ := Lnk.cells hcx
      go_wp2_with (go_at_call 121; refine (all1Lnk_any x buses bp bi bz _ (HB.out.next hB) (by omega) ((hB.cell hz).trans CZ.out) ((HT.out x (List.mem_of_getElem? hx)).1.next hB) (HT.out x (List.mem_of_getElem? hx)).2).mono ?_; rintro e w' ⟨rfl, hB1⟩)
      · go_ret
        exact ⟨ret_int (findI_hit hx (by assumption) hE.out).symm, by (repeat' (first | (with_reducible exact Below.refl _ _) | (with_reducible assumption) | (with_reducible refine below_drewN ?_ _) | (with_reducible refine below_after (by assumption) ?_ ?_) | (with_reducible refine Below.drew ?_) | (with_reducible refine Below.alloc ?_ ?_ _) | (with_reducible refine Below.setCell ?_ ?_ _) | omega | (simp; omega) | (simp; done)))⟩
      · have hE' := Lib.hid (before_succ hE.out hx (by assumption))
        clear hE
        go_roundw
        case rel => exact ⟨k + 1, by omega, by go_num, by (repeat' (first | (with_reducible exact Below.refl _ _) | (with_reducible assumption) | (with_reducible refine below_drewN ?_ _) | (with_reducible refine below_after (by assumption) ?_ ?_) | (with_reducible refine Below.drew ?_) | (with_reducible refine Below.alloc ?_ ?_ _) | (with_reducible refine Below.setCell ?_ ?_ _) | omega | (simp; omega) | (simp; done))), hE'.out⟩
        case measure => simp [intOf]; omega
    · go_wp2
      go_ret
      exact ⟨ret_int (findI_none (fun i y hi => hE.out i y (by omega))).symm, hB⟩

theorem containsLnk_any (A : Option Addr) (n c : Nat) (l : List Lnk) (buses : Int) (bp bi bz : Nat) (w : World) (hl : Rd w w.heap.size 6 Lnk.enc A n l) (hn : n ≤ 9223372036854775807) (h : BusAt w buses bp bi) (hz : bz < w.heap.size)
    (cz : w.cell? ⟨bz, 0, none⟩ = some (.func (.func 77) #[] #[.pointer (some ⟨bi, 0, none⟩)]))
    (ht : ∀ x ∈ l, Rd w w.heap.size 2 Trp.enc x.tA x.tn x.trip ∧ x.tn ≤ 9223372036854775807) :
    Calls Tryz.prog 120 #[.slice A n c, .func (.func 121) #[] #[.pointer (some ⟨bz, 0, none⟩)]] w
      fun e w' => e = .returned (.bool (l.any fun x => !lnkOk buses x)) ∧ Below w.heap.size w w' := by
  have C := Lib.hid (indexLnk_any A n c l buses bp bi bz w hl hn h hz cz ht)
  clear hl h cz ht
  go_enter Tryz.func120, Tryz.ntmps120
  go_wp2_with (go_at_call 145; refine C.out.mono ?_; rintro e w' ⟨rfl, hB⟩)
  all_goals (go_ret; exact ⟨ret_bool (by rw [← findI_ge]), hB⟩)

/-- all: at most so many, and each is right. -/
theorem allLnk_any (A : Option Addr) (n c : Nat) (most : Int) (l : List Lnk) (buses : Int) (bp bi : Nat) (w : World) (hl : Rd w w.heap.size 6 Lnk.enc A n l) (hn : n ≤ 9223372036854775807) (h : BusAt w buses bp bi)
    (ht : ∀ x ∈ l, Rd w w.heap.size 2 Trp.enc x.tA x.tn x.trip ∧ x.tn ≤ 9223372036854775807) :
    Calls Tryz.prog 86 #[.slice A n c, .int .i64 most, .func (.func 77) #[] #[.pointer (some ⟨bi, 0, none⟩)]] w
      fun e w' => e = .returned (.bool (decide ((l.length : Int) ≤ most) && l.all (lnkOk buses))) ∧ Below w.heap.size w w' := by
  obtain rfl : l.length = n := hl.1
  have HR := Lib.hid hl
  have HB := Lib.hid h
  have HT := Lib.hid ht
  clear ht
  clear hl h
  by_cases hm : (l.length : Int) ≤ most
  · go_enter Tryz.func86, Tryz.ntmps86
    go_wp2_with (go_at_call 120; refine (containsLnk_any A _ c l buses bp bi _ _ (HR.out.next (by (repeat' (first | (with_reducible exact Below.refl _ _) | (with_reducible assumption) | (with_reducible refine below_drewN ?_ _) | (with_reducible refine below_after (by assumption) ?_ ?_) | (with_reducible refine Below.drew ?_) | (with_reducible refine Below.alloc ?_ ?_ _) | (with_reducible refine Below.setCell ?_ ?_ _) | omega | (simp; omega) | (simp; done))))) hn (HB.out.next (by (repeat' (first | (with_reducible exact Below.refl _ _) | (with_reducible assumption) | (with_reducible refine below_drewN ?_ _) | (with_reducible refine below_after (by assumption) ?_ ?_) | (with_reducible refine Below.drew ?_) | (with_reducible refine Below.alloc ?_ ?_ _) | (with_reducible refine Below.setCell ?_ ?_ _) | omega | (simp; omega) | (simp; done))))) (by simp) (by simp) (fun x hx => ⟨(HT.out x hx).1.next (by (repeat' (first | (with_reducible exact Below.refl _ _) | (with_reducible assumption) | (with_reducible refine below_drewN ?_ _) | (with_reducible refine below_after (by assumption) ?_ ?_) | (with_reducible refine Below.drew ?_) | (with_reducible refine Below.alloc ?_ ?_ _) | (with_reducible refine Below.setCell ?_ ?_ _) | omega | (simp; omega) | (simp; done)))), (HT.out x hx).2⟩)).mono ?_; rintro e w' ⟨rfl, hB⟩)
    all_goals (go_ret; exact ⟨ret_bool (by simp [hm, List.all_eq_not_any_not]), by (repeat' (first | (with_reducible exact Below.refl _ _) | (with_reducible assumption) | (with_reducible refine below_drewN ?_ _) | (with_reducible refine below_after (by assumption) ?_ ?_) | (with_reducible refine Below.drew ?_) | (with_reducible refine Below.alloc ?_ ?_ _) | (with_reducible refine Below.setCell ?_ ?_ _) | omega | (simp; omega) | (simp; done)))⟩)
  · go_enter Tryz.func86, Tryz.ntmps86
    go_wp2
    go_ret
    exact ⟨ret_bool (by rw [decide_eq_false (by omega : ¬ (l.length : Int) ≤ most)]; simp), by (repeat' (first | (with_reducible exact Below.refl _ _) | (with_reducible assumption) | (with_reducible refine below_drewN ?_ _) | (with_reducible refine below_after (by assumption) ?_ ?_) | (with_reducible refine Below.drew ?_) | (with_reducible refine Below.alloc ?_ ?_ _) | (with_reducible refine Below.setCell ?_ ?_ _) | omega | (simp; omega) | (simp; done)))⟩

/-- The closure that `all` hands to ContainsFunc. -/
theorem all1Rck_any (x : Rck) (buses : Int) (bp bi bz : Nat) (w : World) (h : BusAt w buses bp bi) (hz : bz < w.heap.size) (cz : w.cell? ⟨bz, 0, none⟩ = some (.func (.func 79) #[] #[.pointer (some ⟨bi, 0, none⟩)])) :
    Calls Tryz.prog 123 #[x.val, .pointer (some ⟨bz, 0, none⟩)] w fun e w' => e = .returned (.bool (!rckOk buses x)) ∧ Below w.heap.size w w' := by
  have HB := Lib.hid h
  clear h
  unfold Rck.val
  go_enter Tryz.func123, Tryz.ntmps123
  go_wp2_with (go_at_call 79; refine (isRack_any x buses bp bi _ (HB.out.next (by (repeat' (first | (with_reducible exact Below.refl _ _) | (with_reducible assumption) | (with_reducible refine below_drewN ?_ _) | (with_reducible refine below_after (by assumption) ?_ ?_) | (with_reducible refine Below.drew ?_) | (with_reducible refine Below.alloc ?_ ?_ _) | (with_reducible refine Below.setCell ?_ ?_ _) | omega | (simp; omega) | (simp; done)))))).mono ?_; rintro e w' ⟨rfl, hB⟩)
  go_ret
  exact ⟨rfl, by (repeat' (first | (with_reducible exact Below.refl _ _) | (with_reducible assumption) | (with_reducible refine below_drewN ?_ _) | (with_reducible refine below_after (by assumption) ?_ ?_) | (with_reducible refine Below.drew ?_) | (with_reducible refine Below.alloc ?_ ?_ _) | (with_reducible refine Below.setCell ?_ ?_ _) | omega | (simp; omega) | (simp; done)))⟩

set_option maxHeartbeats 1000000 in
theorem indexRck_any (A : Option Addr) (n c : Nat) (l : List Rck) (buses : Int) (bp bi bz : Nat) (w : World) (hl : Rd w w.heap.size 4 Rck.enc A n l) (hn : n ≤ 9223372036854775807) (h : BusAt w buses bp bi) (hz : bz < w.heap.size)
    (cz : w.cell? ⟨bz, 0, none⟩ = some (.func (.func 79) #[] #[.pointer (some ⟨bi, 0, none⟩)])) :
    Calls Tryz.prog 146 #[.slice A n c, .func (.func 123) #[] #[.pointer (some ⟨bz, 0, none⟩)]] w
      fun e w' => e = .returned (.int .i64 (findI (fun x => !rckOk buses x) l)) ∧ Below w.heap.size w w' := by
  have hlen := hl.1
  have HB := Lib.hid h
  have CZ := Lib.hid cz
  clear h cz
  go_enter Tryz.func146, Tryz.ntmps146
  go_wp2
  go_loopw [8] (fun i wr => ∃ k : Nat, k ≤ n ∧ i = .int .i64 k ∧ Below w.heap.size w wr ∧ Hid (∀ i y, i < k → l[i]? = some y → (!rckOk buses y) = false)) (fun i _ => n - (intOf i).toNat)
  case atStart => exact ⟨0, by omega, rfl, Below.refl _ _, fun i y hi => absurd hi (by omega)⟩
  case round =>
    obtain ⟨k, hk, rfl, hB, hE⟩ := hrel
    have hz' := hB.size
    by_cases hlt : k < n
    · obtain ⟨b, off, x, rfl, hb, hx, hcx⟩ := (hl.below hB).at_ hlt
      obtain ⟨c0, c1, c2, c3⟩ := Rck.cells hcx
      go_wp2_with (go_at_call 123; refine (all1Rck_any x buses bp bi bz _ (HB.out.next hB) (by omega) ((hB.cell hz).trans CZ.out)).mono ?_; rintro e w' ⟨rfl, hB1⟩)
      · go_ret
        exact ⟨ret_int (findI_hit hx (by assumption) hE.out).symm, by (repeat' (first | (with_reducible exact Below.refl _ _) | (with_reducible assumption) | (with_reducible refine below_drewN ?_ _) | (with_reducible refine below_after (by assumption) ?_ ?_) | (with_reducible refine Below.drew ?_) | (with_reducible refine Below.alloc ?_ ?_ _) | (with_reducible refine Below.setCell ?_ ?_ _) | omega | (simp; omega) | (simp; done)))⟩
      · have hE' := Lib.hid (before_succ hE.out hx (by assumption))
        clear hE
        go_roundw
        case rel => exact ⟨k + 1, by omega, by go_num, by (repeat' (first | (with_reducible exact Below.refl _ _) | (with_reducible assumption) | (with_reducible refine below_drewN ?_ _) | (with_reducible refine below_after (by assumption) ?_ ?_) | (with_reducible refine Below.drew ?_) | (with_reducible refine Below.alloc ?_ ?_ _) | (with_reducible refine Below.setCell ?_ ?_ _) | omega | (simp; omega) | (simp; done))), hE'.out⟩
        case measure => simp [intOf]; omega
    · go_wp2
      go_ret
      exact ⟨ret_int (findI_none (fun i y hi => hE.out i y (by omega))).symm, hB⟩

theorem containsRck_any (A : Option Addr) (n c : Nat) (l : List Rck) (buses : Int) (bp bi bz : Nat) (w : World) (hl : Rd w w.heap.size 4 Rck.enc A n l) (hn : n ≤ 9223372036854775807) (h : BusAt w buses bp bi) (hz : bz < w.heap.size)
    (cz : w.cell? ⟨bz, 0, none⟩ = some (.func (.func 79) #[] #[.pointer (some ⟨bi, 0, none⟩)])) :
    Calls Tryz.prog 122 #[.slice A n c, .func (.func 123) #[] #[.pointer (some ⟨bz, 0, none⟩)]] w
      fun e w' => e = .returned (.bool (l.any fun x => !rckOk buses x)) ∧ Below w.heap.size w w' := by
  have C := Lib.hid (indexRck_any A n c l buses bp bi bz w hl hn h hz cz)
  clear hl h cz
  go_enter Tryz.func122, Tryz.ntmps122
  go_wp2_with (go_at_call 146; refine C.out.mono ?_; rintro e w' ⟨rfl, hB⟩)
  all_goals (go_ret; exact ⟨ret_bool (by rw [← findI_ge]), hB⟩)

/-- all: at most so many, and each is right. -/
theorem allRck_any (A : Option Addr) (n c : Nat) (most : Int) (l : List Rck) (buses : Int) (bp bi : Nat) (w : World) (hl : Rd w w.heap.size 4 Rck.enc A n l) (hn : n ≤ 9223372036854775807) (h : BusAt w buses bp bi) :
    Calls Tryz.prog 88 #[.slice A n c, .int .i64 most, .func (.func 79) #[] #[.pointer (some ⟨bi, 0, none⟩)]] w
      fun e w' => e = .returned (.bool (decide ((l.length : Int) ≤ most) && l.all (rckOk buses))) ∧ Below w.heap.size w w' := by
  obtain rfl : l.length = n := hl.1
  have HR := Lib.hid hl
  have HB := Lib.hid h
  clear hl h
  by_cases hm : (l.length : Int) ≤ most
  · go_enter Tryz.func88, Tryz.ntmps88
    go_wp2_with (go_at_call 122; refine (containsRck_any A _ c l buses bp bi _ _ (HR.out.next (by (repeat' (first | (with_reducible exact Below.refl _ _) | (with_reducible assumption) | (with_reducible refine below_drewN ?_ _) | (with_reducible refine below_after (by assumption) ?_ ?_) | (with_reducible refine Below.drew ?_) | (with_reducible refine Below.alloc ?_ ?_ _) | (with_reducible refine Below.setCell ?_ ?_ _) | omega | (simp; omega) | (simp; done))))) hn (HB.out.next (by (repeat' (first | (with_reducible exact Below.refl _ _) | (with_reducible assumption) | (with_reducible refine below_drewN ?_ _) | (with_reducible refine below_after (by assumption) ?_ ?_) | (with_reducible refine Below.drew ?_) | (with_reducible refine Below.alloc ?_ ?_ _) | (with_reducible refine Below.setCell ?_ ?_ _) | omega | (simp; omega) | (simp; done))))) (by simp) (by simp)).mono ?_; rintro e w' ⟨rfl, hB⟩)
    all_goals (go_ret; exact ⟨ret_bool (by simp [hm, List.all_eq_not_any_not]), by (repeat' (first | (with_reducible exact Below.refl _ _) | (with_reducible assumption) | (with_reducible refine below_drewN ?_ _) | (with_reducible refine below_after (by assumption) ?_ ?_) | (with_reducible refine Below.drew ?_) | (with_reducible refine Below.alloc ?_ ?_ _) | (with_reducible refine Below.setCell ?_ ?_ _) | omega | (simp; omega) | (simp; done)))⟩)
  · go_enter Tryz.func88, Tryz.ntmps88
    go_wp2
    go_ret
    exact ⟨ret_bool (by rw [decide_eq_false (by omega : ¬ (l.length : Int) ≤ most)]; simp), by (repeat' (first | (with_reducible exact Below.refl _ _) | (with_reducible assumption) | (with_reducible refine below_drewN ?_ _) | (with_reducible refine below_after (by assumption) ?_ ?_) | (with_reducible refine Below.drew ?_) | (with_reducible refine Below.alloc ?_ ?_ _) | (with_reducible refine Below.setCell ?_ ?_ _) | omega | (simp; omega) | (simp; done)))⟩

end Go.Proofs.YtcnmfblbfpcghaaGreatDoor
