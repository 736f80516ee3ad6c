/- The law's conducts and big; the kit's Pick. -/
import Derived.Test.YtfcpenoenpdnlaaDoorCopy
namespace Go.Proofs.YtfcpenoenpdnlaaDoor
open Go.RowKit Go.Shelf

set_option maxRecDepth 100000 in
set_option maxHeartbeats 4000000 in
theorem conducts_any (p : Plt) (s : Stt) (B : Nat) (L : List (LnkOf B)) (S : Sound p s B L) (k : Nat) (y : LnkOf B) (hy : L[k]? = some y) (w : World) (hp : PltIn w w.heap.size p) (hs : SttIn w w.heap.size s) :
    Calls Tryd.prog 10 #[p.val, s.val, .int .i64 k] w fun e w' => e = .returned (.bool (conds s k y.1)) ∧ Below w.heap.size w w' := by
  have hlt : k < p.ln := by
    rw [← hp.lnk.1, S.lnks, List.length_map]
    exact (List.getElem?_eq_some_iff.1 hy).1
  obtain ⟨b, off, x', e1, hb, hx, hcx⟩ := hp.lnk.at_ hlt
  rw [S.lnks, List.getElem?_map, hy] at hx
  simp only [Option.map_some, Option.some.injEq] at hx
  subst hx
  obtain ⟨⟨x, hxa, hxb⟩, rfl⟩ : ∃ z, z = y := ⟨_, rfl⟩
  dsimp only at hcx
  obtain ⟨d0, d1, d2, d3, d4, d5⟩ := Lnk.cells hcx
  have hlen := S.lens
  obtain ⟨g0, o0, a0, v0, r0⟩ := hs.closed.at_ (k := k) (by rw [hlen.closed]; exact hlt)
  obtain ⟨g2, o2, a2, v2, r2⟩ := hs.badLink.at_ (k := k) (by rw [hlen.badLink]; exact hlt)
  obtain ⟨g6, o6, a6, v6, r6⟩ := hs.badBus.at_ (k := x.a.toNat) (by rw [hlen.badBus]; omega)
  obtain ⟨g7, o7, a7, v7, r7⟩ := hs.badBus.at_ (k := x.b.toNat) (by rw [hlen.badBus]; omega)
  obtain ⟨rfl, rfl⟩ : g6 = g7 ∧ o6 = o7 := by rw [a6] at a7; simp at a7; exact a7
  have n0 := hlen.closed
  have n2 := hlen.badLink
  have n6 := hlen.badBus
  have hk0 : (0 : Int) ≤ (k : Int) := by omega
  have hkn : (k : Int) < (p.ln : Int) := by omega
  have hkc : (k : Int) < (s.closed.n : Int) := by omega
  have hkd : (k : Int) < (s.badLink.n : Int) := by omega
  obtain ⟨xa0, xa1⟩ := hxa
  obtain ⟨xb0, xb1⟩ := hxb
  have hka : x.a < (s.badBus.n : Int) := by omega
  have hkb : x.b < (s.badBus.n : Int) := by omega
  have zs : b < w.heap.size + 1 ∧ b < w.heap.size + 1 + 1 ∧ g0 < w.heap.size + 1 ∧ g0 < w.heap.size + 1 + 1 ∧ g2 < w.heap.size + 1 ∧ g2 < w.heap.size + 1 + 1 ∧ g6 < w.heap.size + 1 ∧ g6 < w.heap.size + 1 + 1 := by omega
  obtain ⟨t1, t2, t3, t4, t5, t6, t7, t8⟩ := zs
  unfold Plt.val Stt.val
  rw [e1, a0, a2, a6]
  clear n0 n2 n6
  clear hp hs hcx hlen S e1 a0 a2 a6 a7 hy
  obtain ⟨c0, hc0⟩ : ∃ c, bit s.closed k = c := ⟨_, rfl⟩
  obtain ⟨c2, hc2⟩ : ∃ c, bit s.badLink k = c := ⟨_, rfl⟩
  obtain ⟨c6, hc6⟩ : ∃ c, bit s.badBus x.a.toNat = c := ⟨_, rfl⟩
  obtain ⟨c7, hc7⟩ : ∃ c, bit s.badBus x.b.toNat = c := ⟨_, rfl⟩
  have hr : conds s k x = (c0 && !c2 && !c6 && !c7) := by simp [conds, hc0, hc2, hc6, hc7]
  rw [hc0] at r0
  rw [hc2] at r2
  rw [hc6] at r6
  rw [hc7] at r7
  dsimp only
  rw [hr]
  clear hr hc0 hc2 hc6 hc7
  go_enter Tryd.func10, Tryd.ntmps10
  cases c0
  · go_wp2
    go_ret
    exact ⟨rfl, by (repeat' (first | (with_reducible exact Below.refl _ _) | (with_reducible assumption) | (with_reducible refine below_drewN ?_ _) | (with_reducible refine below_after (by assumption) ?_ ?_) | (with_reducible refine Below.drew ?_) | (with_reducible refine Below.alloc ?_ ?_ _) | (with_reducible refine Below.setCell ?_ ?_ _) | omega | (simp; omega) | (simp; done)))⟩
  · cases c2
    · cases c6
      · cases c7
        · go_wp2
          go_ret
          exact ⟨rfl, by (repeat' (first | (with_reducible exact Below.refl _ _) | (with_reducible assumption) | (with_reducible refine below_drewN ?_ _) | (with_reducible refine below_after (by assumption) ?_ ?_) | (with_reducible refine Below.drew ?_) | (with_reducible refine Below.alloc ?_ ?_ _) | (with_reducible refine Below.setCell ?_ ?_ _) | omega | (simp; omega) | (simp; done)))⟩
        · go_wp2
          go_ret
          exact ⟨rfl, by (repeat' (first | (with_reducible exact Below.refl _ _) | (with_reducible assumption) | (with_reducible refine below_drewN ?_ _) | (with_reducible refine below_after (by assumption) ?_ ?_) | (with_reducible refine Below.drew ?_) | (with_reducible refine Below.alloc ?_ ?_ _) | (with_reducible refine Below.setCell ?_ ?_ _) | omega | (simp; omega) | (simp; done)))⟩
      · go_wp2
        go_ret
        exact ⟨rfl, by (repeat' (first | (with_reducible exact Below.refl _ _) | (with_reducible assumption) | (with_reducible refine below_drewN ?_ _) | (with_reducible refine below_after (by assumption) ?_ ?_) | (with_reducible refine Below.drew ?_) | (with_reducible refine Below.alloc ?_ ?_ _) | (with_reducible refine Below.setCell ?_ ?_ _) | omega | (simp; omega) | (simp; done)))⟩
    · go_wp2
      go_ret
      exact ⟨rfl, by (repeat' (first | (with_reducible exact Below.refl _ _) | (with_reducible assumption) | (with_reducible refine below_drewN ?_ _) | (with_reducible refine below_after (by assumption) ?_ ?_) | (with_reducible refine Below.drew ?_) | (with_reducible refine Below.alloc ?_ ?_ _) | (with_reducible refine Below.setCell ?_ ?_ _) | omega | (simp; omega) | (simp; done)))⟩

/-- Is a plant too big for the statements? -/
def bigP (p : Plt) : Bool := decide (60 < p.sn) || decide (60 < p.ln) || decide (60 < p.rn) || p.lnks.any fun x => decide (20 < x.tn)
set_option maxRecDepth 100000 in
set_option maxHeartbeats 4000000 in
theorem big_any (p : Plt) (w : World) (hp : PltIn w w.heap.size p) :
    Calls Tryd.prog 5 #[p.val] w fun e w' => e = .returned (.bool (bigP p)) ∧ Below w.heap.size w w' := by
  have HP := Lib.hid hp
  have h1 := hp.hs
  have h2 := hp.hl
  have h3 := hp.hr
  have e2 := Lib.hid hp.lnk.1
  clear hp
  unfold Plt.val
  go_enter Tryd.func5, Tryd.ntmps5
  by_cases q1 : (60 : Int) < (p.sn : Int)
  · go_wp2
    go_ret
    exact ⟨ret_bool (by simp [bigP]; omega), by (repeat' (first | (with_reducible exact Below.refl _ _) | (with_reducible assumption) | (with_reducible refine below_drewN ?_ _) | (with_reducible refine below_after (by assumption) ?_ ?_) | (with_reducible refine Below.drew ?_) | (with_reducible refine Below.alloc ?_ ?_ _) | (with_reducible refine Below.setCell ?_ ?_ _) | omega | (simp; omega) | (simp; done)))⟩
  by_cases q2 : (60 : Int) < (p.ln : Int)
  · go_wp2
    go_ret
    exact ⟨ret_bool (by simp [bigP]; omega), by (repeat' (first | (with_reducible exact Below.refl _ _) | (with_reducible assumption) | (with_reducible refine below_drewN ?_ _) | (with_reducible refine below_after (by assumption) ?_ ?_) | (with_reducible refine Below.drew ?_) | (with_reducible refine Below.alloc ?_ ?_ _) | (with_reducible refine Below.setCell ?_ ?_ _) | omega | (simp; omega) | (simp; done)))⟩
  by_cases q3 : (60 : Int) < (p.rn : Int)
  · go_wp2
    go_ret
    exact ⟨ret_bool (by simp [bigP]; omega), by (repeat' (first | (with_reducible exact Below.refl _ _) | (with_reducible assumption) | (with_reducible refine below_drewN ?_ _) | (with_reducible refine below_after (by assumption) ?_ ?_) | (with_reducible refine Below.drew ?_) | (with_reducible refine Below.alloc ?_ ?_ _) | (with_reducible refine Below.setCell ?_ ?_ _) | omega | (simp; omega) | (simp; done)))⟩
  have q1' : (p.sn : Int) ≤ 60 := by omega
  have q2' : (p.ln : Int) ≤ 60 := by omega
  have q3' : (p.rn : Int) ≤ 60 := by omega
  go_wp2
  go_loopw [3] (fun i wr => ∃ k : Nat, k ≤ p.ln ∧ i = .int .i64 k ∧ wr = w.alloc (.cells #[.int .i64 p.buses, .slice p.sA p.sn p.sc, .slice p.lA p.ln p.lc, .slice p.rA p.rn p.rc] 26) ∧ Hid (∀ i (y : Lnk), i < k → p.lnks[i]? = some y → decide (20 < y.tn) = false)) (fun i _ => p.ln - (intOf i).toNat)
  case atStart => exact ⟨0, by omega, rfl, rfl, fun i y hi => absurd hi (by omega)⟩
  case round =>
    obtain ⟨k, hk, rfl, rfl, hE⟩ := hrel
    by_cases hlt : k < p.ln
    · obtain ⟨b, off, x, e1, hb, hx, hcx⟩ := HP.out.lnk.at_ hlt
      obtain ⟨d0, d1, d2, d3, d4, d5⟩ := Lnk.cells hcx
      have ht := HP.out.ht x (List.mem_of_getElem? hx)
      have HX := Lib.hid hx
      clear hx hcx
      have hk0 : (0 : Int) ≤ (k : Int) := by omega
      have hkn : (k : Int) < (p.ln : Int) := by omega
      by_cases q : (20 : Int) < (x.tn : Int)
      · have hd : bigP p = true := by
          unfold bigP
          simp only [Bool.or_eq_true]
          refine .inr (List.any_eq_true.2 ⟨x, List.mem_of_getElem? HX.out, ?_⟩)
          simp; omega
        go_wp2
        go_ret
        exact ⟨ret_bool hd.symm, by (repeat' (first | (with_reducible exact Below.refl _ _) | (with_reducible assumption) | (with_reducible refine below_drewN ?_ _) | (with_reducible refine below_after (by assumption) ?_ ?_) | (with_reducible refine Below.drew ?_) | (with_reducible refine Below.alloc ?_ ?_ _) | (with_reducible refine Below.setCell ?_ ?_ _) | omega | (simp; omega) | (simp; done)))⟩
      · have hE' : Hid (∀ i (y : Lnk), i < k + 1 → p.lnks[i]? = some y → decide (20 < y.tn) = false) := by
          intro i y hi hy
          rcases Nat.lt_or_ge i k with h | h
          · exact hE.out i y h hy
          · obtain rfl : i = k := by omega
            rw [HX.out] at hy
            cases hy
            simp; omega
        clear hE
        go_wp2
        go_roundw
        case rel => exact ⟨k + 1, by omega, by go_num, by simp only [e1], hE'⟩
        case measure => simp [intOf]; omega
    · have hd : bigP p = false := by
        unfold bigP
        simp only [Bool.or_eq_false_iff, decide_eq_false_iff_not]
        refine ⟨⟨⟨by omega, by omega⟩, by omega⟩, ?_⟩
        rw [List.any_eq_false]
        intro x hx
        obtain ⟨i, hi⟩ := List.getElem?_of_mem hx
        have hil := (List.getElem?_eq_some_iff.1 hi).1
        rw [e2.out] at hil
        simpa using hE.out i x (by omega) hi
      go_wp2
      go_ret
      exact ⟨ret_bool hd.symm, by (repeat' (first | (with_reducible exact Below.refl _ _) | (with_reducible assumption) | (with_reducible refine below_drewN ?_ _) | (with_reducible refine below_after (by assumption) ?_ ?_) | (with_reducible refine Below.drew ?_) | (with_reducible refine Below.alloc ?_ ?_ _) | (with_reducible refine Below.setCell ?_ ?_ _) | omega | (simp; omega) | (simp; done)))⟩

/-- A number of a list's length: the kit's Pick. -/
def pick (x n : Int) : Int := if n < 1 then 0 else if x.tmod n < 0 then x.tmod n + n else x.tmod n
theorem neg_lt_tmod (x n : Int) (h : 0 < n) : -n < x.tmod n := by
  have h1 := Int.tmod_lt_of_pos (-x) h
  rw [Int.neg_tmod] at h1
  omega
theorem pick_in (x n : Int) (h : 1 ≤ n) : 0 ≤ pick x n ∧ pick x n < n := by
  unfold pick
  have h1 := Int.tmod_lt_of_pos x (show 0 < n by omega)
  have h2 := neg_lt_tmod x n (by omega)
  rw [if_neg (by omega)]
  split <;> omega
theorem Pick_any (x n : Int) (hn : n ≤ 9223372036854775807) (w : World) :
    Calls Tryd.prog 13 #[.int .i64 x, .int .i64 n] w fun e w' => e = .returned (.int .i64 (pick x n)) ∧ w = w' := by
  go_enter Tryd.func13, Tryd.ntmps13
  by_cases h1 : n < 1
  · go_wp2
    go_ret
    exact ⟨ret_int (by simp [pick, h1]), rfl⟩
  · have h2 := Int.tmod_lt_of_pos x (show 0 < n by omega)
    have h3 := neg_lt_tmod x n (by omega)
    have hw : IntKind.i64.wrap (x.tmod n) = x.tmod n := IntWalk.i64_in _ (by omega)
    have h0 : (n = 0) = False := by simp; omega
    go_wp2
    · go_ret
      exact ⟨ret_int (by unfold pick; rw [if_neg (by omega), if_pos (by omega)]), rfl⟩
    · go_ret
      exact ⟨ret_int (by unfold pick; rw [if_neg (by omega), if_neg (by omega)]), rfl⟩
end Go.Proofs.YtfcpenoenpdnlaaDoor
