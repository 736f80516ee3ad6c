/- The reference's Check, whole. -/
import Derived.Test.YtigefkjabjnmjaaGreatDoorRefC
import Derived.Lib.QuietBelow
namespace Go.Proofs.YtigefkjabjnmjaaGreatDoor
open Go.RowKit

structure ChkIs (buses : Int) (sn ln rn : Nat) (srcs : List Src) (lnks : List Lnk) (rcks : List Rck) (cv : Int) : Prop where
  h10 : within buses 1 24 = false → cv = 10
  h11a : within buses 1 24 = true → 8 < sn → cv = 11
  h11 : within buses 1 24 = true → ∀ (k : Nat) x, srcs[k]? = some x → srcOk buses x = false → cv = 11
  h12a : within buses 1 24 = true → sn ≤ 8 → (∀ (k : Nat) x, srcs[k]? = some x → srcOk buses x = true) → 40 < ln → cv = 12
  h12 : within buses 1 24 = true → sn ≤ 8 → (∀ (k : Nat) x, srcs[k]? = some x → srcOk buses x = true) → ∀ (k : Nat) x, lnks[k]? = some x → lnkOk buses x = false → cv = 12
  h13a : within buses 1 24 = true → sn ≤ 8 → (∀ (k : Nat) x, srcs[k]? = some x → srcOk buses x = true) → ln ≤ 40 → (∀ (k : Nat) x, lnks[k]? = some x → lnkOk buses x = true) → 24 < rn → cv = 13
  h13 : within buses 1 24 = true → sn ≤ 8 → (∀ (k : Nat) x, srcs[k]? = some x → srcOk buses x = true) → ln ≤ 40 → (∀ (k : Nat) x, lnks[k]? = some x → lnkOk buses x = true) → ∀ (k : Nat) x, rcks[k]? = some x → rckOk buses x = false → cv = 13
  h0 : within buses 1 24 = true → sn ≤ 8 → (∀ (k : Nat) x, srcs[k]? = some x → srcOk buses x = true) → ln ≤ 40 → (∀ (k : Nat) x, lnks[k]? = some x → lnkOk buses x = true) → rn ≤ 24 → (∀ (k : Nat) x, rcks[k]? = some x → rckOk buses x = true) → cv = 0
theorem all_no {α : Type} {q : α → Bool} {l : List α} {k : Nat} {x : α} (h : l[k]? = some x) (hq : q x = false) : l.all q = false := by
  rw [List.all_eq_false]
  exact ⟨x, List.mem_of_getElem? h, by simp [hq]⟩
theorem all_yes {α : Type} {q : α → Bool} {l : List α} (h : ∀ (k : Nat) x, l[k]? = some x → q x = true) : l.all q = true := by
  rw [List.all_eq_true]
  intro x hx
  obtain ⟨k, hk⟩ := List.getElem?_of_mem hx
  exact h k x hk
theorem check_is (p : Plt) (h1 : p.srcs.length = p.sn) (h2 : p.lnks.length = p.ln) (h3 : p.rcks.length = p.rn) : ChkIs p.buses p.sn p.ln p.rn p.srcs p.lnks p.rcks (check p) := by
  have a1 : p.sn ≤ 8 → (∀ (k : Nat) x, p.srcs[k]? = some x → srcOk p.buses x = true) → srcsOk p = true := fun a b => by unfold srcsOk; rw [all_yes b]; simp; omega
  have a2 : p.ln ≤ 40 → (∀ (k : Nat) x, p.lnks[k]? = some x → lnkOk p.buses x = true) → lnksOk p = true := fun a b => by unfold lnksOk; rw [all_yes b]; simp; omega
  have a3 : p.rn ≤ 24 → (∀ (k : Nat) x, p.rcks[k]? = some x → rckOk p.buses x = true) → rcksOk p = true := fun a b => by unfold rcksOk; rw [all_yes b]; simp; omega
  refine ⟨fun a => ?_, fun a b => ?_, fun a k x b c => ?_, fun a b c d => ?_, fun a b c k x d e => ?_, fun a b c d e f => ?_, fun a b c d e k x f g => ?_, fun a b c d e f g => ?_⟩
  · simp [check, a]
  · have : srcsOk p = false := by unfold srcsOk; simp; omega
    simp [check, a, this]
  · have : srcsOk p = false := by unfold srcsOk; rw [all_no b c]; simp
    simp [check, a, this]
  · have : lnksOk p = false := by unfold lnksOk; simp; omega
    simp [check, a, a1 b c, this]
  · have : lnksOk p = false := by unfold lnksOk; rw [all_no d e]; simp
    simp [check, a, a1 b c, this]
  · have : rcksOk p = false := by unfold rcksOk; simp; omega
    simp [check, a, a1 b c, a2 d e, this]
  · have : rcksOk p = false := by unfold rcksOk; rw [all_no f g]; simp
    simp [check, a, a1 b c, a2 d e, this]
  · simp [check, a, a1 b c, a2 d e, a3 f g]
theorem upto_all {α : Type} {q : α → Bool} {l : List α} {n : Nat} (hl : l.length = n) (h : ∀ (k : Nat) x, k < n → l[k]? = some x → q x = true) : ∀ (k : Nat) x, l[k]? = some x → q x = true :=
  fun k x hx => h k x (by rw [← hl]; exact (List.getElem?_eq_some_iff.1 hx).1) hx
theorem upto_next {α : Type} {q : α → Bool} {l : List α} {k : Nat} {x : α} (h : ∀ (i : Nat) y, i < k → l[i]? = some y → q y = true) (hx : l[k]? = some x) (hq : q x = true) : ∀ (i : Nat) y, i < k + 1 → l[i]? = some y → q y = true := by
  intro i y hi hy
  rcases Nat.lt_or_ge i k with h' | h'
  · exact h i y h' hy
  · obtain rfl : i = k := by omega
    rw [hx] at hy
    cases hy
    exact hq
set_option maxRecDepth 100000 in
set_option maxHeartbeats 8000000 in
theorem refCheck_any (p : Plt) (w : World) (hp : PltIn w w.heap.size p) :
    Calls Tryz.prog 10 #[p.val] w fun e w' => e = .returned (.int .i64 (check p)) ∧ Below w.heap.size w w' := by
  have HC := Lib.hid (check_is p hp.src.1 hp.lnk.1 hp.rck.1)
  have LK := Lib.hid (fun x W ht hn => refLink_any p x W ht hn)
  obtain ⟨cv, hcv⟩ : ∃ q, check p = q := ⟨_, rfl⟩
  rw [hcv] at HC ⊢
  clear hcv
  unfold Plt.val at LK ⊢
  unfold Lnk.val at LK
  obtain ⟨buses, sA, sn, sc, lA, ln, lc, rA, rn, rc, srcs, lnks, rcks⟩ := p
  dsimp only at HC LK ⊢
  have HS := Lib.hid hp.src
  have HL := Lib.hid hp.lnk
  have HR := Lib.hid hp.rck
  have HT := Lib.hid hp.trip
  have HTN := Lib.hid hp.ht
  have e1 := Lib.hid hp.src.1
  have e2 := Lib.hid hp.lnk.1
  have e3 := Lib.hid hp.rck.1
  have b1 : sn ≤ 9223372036854775807 := hp.hs
  have b2 : ln ≤ 9223372036854775807 := hp.hl
  have b3 : rn ≤ 9223372036854775807 := hp.hr
  clear hp
  dsimp only at HS HL HR HT HTN e1 e2 e3
  have HXB : Hid (Blk (w.alloc (.cells #[.int .i64 buses, .slice sA sn sc, .slice lA ln lc, .slice rA rn rc] 26)) w.heap.size 26 #[.int .i64 buses, .slice sA sn sc, .slice lA ln lc, .slice rA rn rc]) := heap_alloc_new w _
  have hBw0 : Below w.heap.size w (w.alloc (.cells #[.int .i64 buses, .slice sA sn sc, .slice lA ln lc, .slice rA rn rc] 26)) := by (repeat' (first | (with_reducible exact Below.refl _ _) | (with_reducible assumption) | (with_reducible refine below_drewN ?_ _) | (with_reducible refine below_after (by assumption) ?_ ?_) | (with_reducible refine Below.drew ?_) | (with_reducible refine Below.alloc ?_ ?_ _) | (with_reducible refine Below.setCell ?_ ?_ _) | omega | (simp; omega) | (simp; done)))
  go_enter Tryz.func10, Tryz.ntmps10
  by_cases q1 : buses < 1
  · go_wp2
    go_ret
    exact ⟨ret_int (HC.out.h10 (by simp [within]; omega)).symm, by (repeat' (first | (with_reducible exact Below.refl _ _) | (with_reducible assumption) | (with_reducible refine below_drewN ?_ _) | (with_reducible refine below_after (by assumption) ?_ ?_) | (with_reducible refine Below.drew ?_) | (with_reducible refine Below.alloc ?_ ?_ _) | (with_reducible refine Below.setCell ?_ ?_ _) | omega | (simp; omega) | (simp; done)))⟩
  by_cases q2 : 24 < buses
  · go_wp2
    go_ret
    exact ⟨ret_int (HC.out.h10 (by simp [within]; omega)).symm, by (repeat' (first | (with_reducible exact Below.refl _ _) | (with_reducible assumption) | (with_reducible refine below_drewN ?_ _) | (with_reducible refine below_after (by assumption) ?_ ?_) | (with_reducible refine Below.drew ?_) | (with_reducible refine Below.alloc ?_ ?_ _) | (with_reducible refine Below.setCell ?_ ?_ _) | omega | (simp; omega) | (simp; done)))⟩
  have hw := Lib.hid (within_yes q1 q2)
  by_cases q3 : (8 : Int) < (sn : Int)
  · go_wp2
    go_ret
    exact ⟨ret_int (HC.out.h11a hw.out (by omega)).symm, by (repeat' (first | (with_reducible exact Below.refl _ _) | (with_reducible assumption) | (with_reducible refine below_drewN ?_ _) | (with_reducible refine below_after (by assumption) ?_ ?_) | (with_reducible refine Below.drew ?_) | (with_reducible refine Below.alloc ?_ ?_ _) | (with_reducible refine Below.setCell ?_ ?_ _) | omega | (simp; omega) | (simp; done)))⟩
  have hs8 : sn ≤ 8 := by omega
  have q3' : (sn : Int) ≤ 8 := by omega
  go_wp2
  clear q1 q2 q3
  go_loopw [3] (fun i wr => ∃ k : Nat, k ≤ sn ∧ i = .int .i64 k ∧ Below (w.alloc (.cells #[.int .i64 buses, .slice sA sn sc, .slice lA ln lc, .slice rA rn rc] 26)).heap.size (w.alloc (.cells #[.int .i64 buses, .slice sA sn sc, .slice lA ln lc, .slice rA rn rc] 26)) wr ∧ Hid (∀ (i : Nat) y, i < k → srcs[i]? = some y → srcOk buses y = true)) (fun i _ => sn - (intOf i).toNat)
  case atStart => exact ⟨0, by omega, rfl, Below.refl _ _, fun i y hi => absurd hi (by omega)⟩
  obtain ⟨k, hk, rfl, hB, hE⟩ := hrel
  have hz := hB.size
  simp only [World.size_alloc] at hz
  have hBw : Below w.heap.size w wr := hBw0.trans (hB.mono (by simp))
  have hXB := Blk.below HXB.out hB (Blk.lt HXB.out)
  have x0 : wr.cell? ⟨w.heap.size, 0, none⟩ = some (.int .i64 buses) := hXB.cell 0
  have x1 : wr.cell? ⟨w.heap.size, 1, none⟩ = some (.slice sA sn sc) := hXB.cell 1
  have x2 : wr.cell? ⟨w.heap.size, 2, none⟩ = some (.slice lA ln lc) := hXB.cell 2
  have x0' : ∀ O, (wr.alloc O).cell? ⟨w.heap.size, 0, none⟩ = some (.int .i64 buses) := fun O => (hXB.alloc O).cell 0
  have HXr := Lib.hid hXB
  clear hXB
  have h11 := HC.out.h11 hw.out
  by_cases hlt : k < sn
  · obtain ⟨b, off, z, rfl, hb, hx, hcx⟩ := (HS.out.below hBw).at_ hlt
    obtain ⟨c0, c1, c2, c3, c4⟩ := Src.cells hcx
    have hk0 : (0 : Int) ≤ (k : Int) := by omega
    have hkn : (k : Int) < (sn : Int) := by omega
    have HX := Lib.hid hx
    clear hx hcx
    by_cases q1 : z.bus < 0
    · go_wp2
      go_ret
      exact ⟨ret_int (h11 k z HX.out (by simp [srcOk, isBus, within]; omega)).symm, by (repeat' (first | (with_reducible exact Below.refl _ _) | (with_reducible assumption) | (with_reducible refine below_drewN ?_ _) | (with_reducible refine below_after (by assumption) ?_ ?_) | (with_reducible refine Below.drew ?_) | (with_reducible refine Below.alloc ?_ ?_ _) | (with_reducible refine Below.setCell ?_ ?_ _) | omega | (simp; omega) | (simp; done)))⟩
    by_cases q2 : buses ≤ z.bus
    · go_wp2
      go_ret
      exact ⟨ret_int (h11 k z HX.out (by simp [srcOk, isBus, within]; omega)).symm, by (repeat' (first | (with_reducible exact Below.refl _ _) | (with_reducible assumption) | (with_reducible refine below_drewN ?_ _) | (with_reducible refine below_after (by assumption) ?_ ?_) | (with_reducible refine Below.drew ?_) | (with_reducible refine Below.alloc ?_ ?_ _) | (with_reducible refine Below.setCell ?_ ?_ _) | omega | (simp; omega) | (simp; done)))⟩
    by_cases q3 : z.kind < 1
    · go_wp2
      go_ret
      exact ⟨ret_int (h11 k z HX.out (by simp [srcOk, isBus, within]; omega)).symm, by (repeat' (first | (with_reducible exact Below.refl _ _) | (with_reducible assumption) | (with_reducible refine below_drewN ?_ _) | (with_reducible refine below_after (by assumption) ?_ ?_) | (with_reducible refine Below.drew ?_) | (with_reducible refine Below.alloc ?_ ?_ _) | (with_reducible refine Below.setCell ?_ ?_ _) | omega | (simp; omega) | (simp; done)))⟩
    by_cases q4 : 3 < z.kind
    · go_wp2
      go_ret
      exact ⟨ret_int (h11 k z HX.out (by simp [srcOk, isBus, within]; omega)).symm, by (repeat' (first | (with_reducible exact Below.refl _ _) | (with_reducible assumption) | (with_reducible refine below_drewN ?_ _) | (with_reducible refine below_after (by assumption) ?_ ?_) | (with_reducible refine Below.drew ?_) | (with_reducible refine Below.alloc ?_ ?_ _) | (with_reducible refine Below.setCell ?_ ?_ _) | omega | (simp; omega) | (simp; done)))⟩
    by_cases q5 : z.power < 1
    · go_wp2
      go_ret
      exact ⟨ret_int (h11 k z HX.out (by simp [srcOk, isBus, within]; omega)).symm, by (repeat' (first | (with_reducible exact Below.refl _ _) | (with_reducible assumption) | (with_reducible refine below_drewN ?_ _) | (with_reducible refine below_after (by assumption) ?_ ?_) | (with_reducible refine Below.drew ?_) | (with_reducible refine Below.alloc ?_ ?_ _) | (with_reducible refine Below.setCell ?_ ?_ _) | omega | (simp; omega) | (simp; done)))⟩
    by_cases q6 : 100000 < z.power
    · go_wp2
      go_ret
      exact ⟨ret_int (h11 k z HX.out (by simp [srcOk, isBus, within]; omega)).symm, by (repeat' (first | (with_reducible exact Below.refl _ _) | (with_reducible assumption) | (with_reducible refine below_drewN ?_ _) | (with_reducible refine below_after (by assumption) ?_ ?_) | (with_reducible refine Below.drew ?_) | (with_reducible refine Below.alloc ?_ ?_ _) | (with_reducible refine Below.setCell ?_ ?_ _) | omega | (simp; omega) | (simp; done)))⟩
    by_cases q7 : z.sync < 0
    · go_wp2
      go_ret
      exact ⟨ret_int (h11 k z HX.out (by simp [srcOk, isBus, within]; omega)).symm, by (repeat' (first | (with_reducible exact Below.refl _ _) | (with_reducible assumption) | (with_reducible refine below_drewN ?_ _) | (with_reducible refine below_after (by assumption) ?_ ?_) | (with_reducible refine Below.drew ?_) | (with_reducible refine Below.alloc ?_ ?_ _) | (with_reducible refine Below.setCell ?_ ?_ _) | omega | (simp; omega) | (simp; done)))⟩
    by_cases q8 : 8 < z.sync
    · go_wp2
      go_ret
      exact ⟨ret_int (h11 k z HX.out (by simp [srcOk, isBus, within]; omega)).symm, by (repeat' (first | (with_reducible exact Below.refl _ _) | (with_reducible assumption) | (with_reducible refine below_drewN ?_ _) | (with_reducible refine below_after (by assumption) ?_ ?_) | (with_reducible refine Below.drew ?_) | (with_reducible refine Below.alloc ?_ ?_ _) | (with_reducible refine Below.setCell ?_ ?_ _) | omega | (simp; omega) | (simp; done)))⟩
    by_cases q9 : z.ohm < 10
    · go_wp2
      go_ret
      exact ⟨ret_int (h11 k z HX.out (by simp [srcOk, isBus, within]; omega)).symm, by (repeat' (first | (with_reducible exact Below.refl _ _) | (with_reducible assumption) | (with_reducible refine below_drewN ?_ _) | (with_reducible refine below_after (by assumption) ?_ ?_) | (with_reducible refine Below.drew ?_) | (with_reducible refine Below.alloc ?_ ?_ _) | (with_reducible refine Below.setCell ?_ ?_ _) | omega | (simp; omega) | (simp; done)))⟩
    by_cases q10 : 100000 < z.ohm
    · go_wp2
      go_ret
      exact ⟨ret_int (h11 k z HX.out (by simp [srcOk, isBus, within]; omega)).symm, by (repeat' (first | (with_reducible exact Below.refl _ _) | (with_reducible assumption) | (with_reducible refine below_drewN ?_ _) | (with_reducible refine below_after (by assumption) ?_ ?_) | (with_reducible refine Below.drew ?_) | (with_reducible refine Below.alloc ?_ ?_ _) | (with_reducible refine Below.setCell ?_ ?_ _) | omega | (simp; omega) | (simp; done)))⟩
    have hE' := Lib.hid (upto_next hE.out HX.out (by simp [srcOk, isBus, within]; omega))
    clear hE
    go_wp2
    go_roundw
    case rel => exact ⟨k + 1, by omega, by go_num, by (repeat' (first | (with_reducible exact Below.refl _ _) | (with_reducible assumption) | (with_reducible refine below_drewN ?_ _) | (with_reducible refine below_after (by assumption) ?_ ?_) | (with_reducible refine Below.drew ?_) | (with_reducible refine Below.alloc ?_ ?_ _) | (with_reducible refine Below.setCell ?_ ?_ _) | omega | (simp; omega) | (simp; done))), hE'.out⟩
    case measure => simp [intOf]; omega
  obtain rfl : sn = k := by omega
  have hS := Lib.hid (upto_all e1.out hE.out)
  clear hE h11 hk hlt
  by_cases q3 : (40 : Int) < (ln : Int)
  · go_wp2
    go_ret
    exact ⟨ret_int (HC.out.h12a hw.out hs8 hS.out (by omega)).symm, by (repeat' (first | (with_reducible exact Below.refl _ _) | (with_reducible assumption) | (with_reducible refine below_drewN ?_ _) | (with_reducible refine below_after (by assumption) ?_ ?_) | (with_reducible refine Below.drew ?_) | (with_reducible refine Below.alloc ?_ ?_ _) | (with_reducible refine Below.setCell ?_ ?_ _) | omega | (simp; omega) | (simp; done)))⟩
  have hl40 : ln ≤ 40 := by omega
  have q4' : (ln : Int) ≤ 40 := by omega
  go_wp2
  clear x0 x1 x2 x0' q3
  obtain ⟨W1, e⟩ : ∃ x, x = wr := ⟨wr, rfl⟩
  subst e
  go_loopw [5] (fun i wr => ∃ k : Nat, k ≤ ln ∧ i = .int .i64 k ∧ Below W1.heap.size W1 wr ∧ Hid (∀ (i : Nat) y, i < k → lnks[i]? = some y → lnkOk buses y = true)) (fun i _ => ln - (intOf i).toNat)
  case atStart => exact ⟨0, by omega, rfl, Below.refl _ _, fun i y hi => absurd hi (by omega)⟩
  obtain ⟨k, hk, rfl, hB1, hE⟩ := hrel
  have hz1 := hB1.size
  have hBw1 : Below w.heap.size w wr := hBw.trans (hB1.mono (by omega))
  have hXB := Blk.below HXr.out hB1 (Blk.lt HXr.out)
  have x0 : wr.cell? ⟨w.heap.size, 0, none⟩ = some (.int .i64 buses) := hXB.cell 0
  have x1 : wr.cell? ⟨w.heap.size, 1, none⟩ = some (.slice sA sn sc) := hXB.cell 1
  have x2 : wr.cell? ⟨w.heap.size, 2, none⟩ = some (.slice lA ln lc) := hXB.cell 2
  have x3 : wr.cell? ⟨w.heap.size, 3, none⟩ = some (.slice rA rn rc) := hXB.cell 3
  have HXr1 := Lib.hid hXB
  clear hXB
  have h12 := HC.out.h12 hw.out hs8 hS.out
  by_cases hlt : k < ln
  · obtain ⟨b, off, z, rfl, hb, hx, hcx⟩ := (HL.out.below hBw1).at_ hlt
    obtain ⟨c0, c1, c2, c3, c4, c5⟩ := Lnk.cells hcx
    have hk0 : (0 : Int) ≤ (k : Int) := by omega
    have hkn : (k : Int) < (ln : Int) := by omega
    have HX := Lib.hid hx
    have hz' := List.mem_of_getElem? hx
    have LK' := Lib.hid (fun d os => LK.out z (Go.Sort.grow (redrawn wr d) os) ((((HT.out z hz').below hBw1).more (show w.heap.size ≤ wr.heap.size by omega)).next (below_regrown wr d os)) (HTN.out z hz'))
    clear hx hcx hz'
    have g0 := cell_regrown x0
    have g1 := cell_regrown x1
    have g2 := cell_regrown x2
    have g3 := cell_regrown x3
    have k0 := cell_regrown c0
    have k1 := cell_regrown c1
    have k2 := cell_regrown c2
    have k3 := cell_regrown c3
    have k4 := cell_regrown c4
    have k5 := cell_regrown c5
    clear c0 c1 c2 c3 c4 c5
    cases hq : lnkOk buses z
    · simp only [hq] at LK'
      have hbad := h12 k z HX.out hq
      clear hq
      go_wp2
      refine wp_region_quiet_below (by kernel_rfl) (by kernel_rfl) ?_
      repeat (go_big_quiet_step (exact Calls.regrown_of (LK'.out _ _)))
      refine wpQuiet_nil ?_
      intro _ hw'
      obtain ⟨⟨dq, osq⟩, hw''⟩ := hw'
      subst hw''
      have hg3 := below_regrown wr dq osq
      clear g0 g1 g2 g3 k0 k1 k2 k3 k4 k5 LK'
      go_wp2
      go_ret
      exact ⟨ret_int hbad.symm, hBw1.trans (hg3.mono (by omega))⟩
    · simp only [hq] at LK'
      have hE' := Lib.hid (upto_next hE.out HX.out hq)
      clear hE hq
      go_wp2
      refine wp_region_quiet_below (by kernel_rfl) (by kernel_rfl) ?_
      repeat (go_big_quiet_step (exact Calls.regrown_of (LK'.out _ _)))
      refine wpQuiet_nil ?_
      intro _ hw'
      obtain ⟨⟨dq, osq⟩, hw''⟩ := hw'
      subst hw''
      have hg3 := below_regrown wr dq osq
      clear g0 g1 g2 g3 k0 k1 k2 k3 k4 k5 LK'
      go_wp2
      go_roundw
      case rel => exact ⟨k + 1, by omega, by go_num, hB1.trans (hg3.mono hz1), hE'.out⟩
      case measure => simp [intOf]; omega
  obtain rfl : ln = k := by omega
  have hL := Lib.hid (upto_all e2.out hE.out)
  clear hE h12 hk hlt
  by_cases q3 : (24 : Int) < (rn : Int)
  · go_wp2
    go_ret
    exact ⟨ret_int (HC.out.h13a hw.out hs8 hS.out hl40 hL.out (by omega)).symm, by (repeat' (first | (with_reducible exact Below.refl _ _) | (with_reducible assumption) | (with_reducible refine below_drewN ?_ _) | (with_reducible refine below_after (by assumption) ?_ ?_) | (with_reducible refine Below.drew ?_) | (with_reducible refine Below.alloc ?_ ?_ _) | (with_reducible refine Below.setCell ?_ ?_ _) | omega | (simp; omega) | (simp; done)))⟩
  have hr24 : rn ≤ 24 := by omega
  have q5' : (rn : Int) ≤ 24 := by omega
  go_wp2
  clear x0 x1 x2 x3 q3
  obtain ⟨W2, e⟩ : ∃ x, x = wr := ⟨wr, rfl⟩
  subst e
  go_loopw [6] (fun i wr => ∃ k : Nat, k ≤ rn ∧ i = .int .i64 k ∧ Below W2.heap.size W2 wr ∧ Hid (∀ (i : Nat) y, i < k → rcks[i]? = some y → rckOk buses y = true)) (fun i _ => rn - (intOf i).toNat)
  case atStart => exact ⟨0, by omega, rfl, Below.refl _ _, fun i y hi => absurd hi (by omega)⟩
  obtain ⟨k, hk, rfl, hB2, hE⟩ := hrel
  have hz2 := hB2.size
  have hBw2 : Below w.heap.size w wr := hBw1.trans (hB2.mono (by omega))
  have hXB := Blk.below HXr1.out hB2 (Blk.lt HXr1.out)
  have x0 : wr.cell? ⟨w.heap.size, 0, none⟩ = some (.int .i64 buses) := hXB.cell 0
  have x3 : wr.cell? ⟨w.heap.size, 3, none⟩ = some (.slice rA rn rc) := hXB.cell 3
  have x0' : ∀ O, (wr.alloc O).cell? ⟨w.heap.size, 0, none⟩ = some (.int .i64 buses) := fun O => (hXB.alloc O).cell 0
  clear hXB
  have h13 := HC.out.h13 hw.out hs8 hS.out hl40 hL.out
  by_cases hlt : k < rn
  · obtain ⟨b, off, z, rfl, hb, hx, hcx⟩ := (HR.out.below hBw2).at_ hlt
    obtain ⟨c0, c1, c2, c3⟩ := Rck.cells hcx
    have hk0 : (0 : Int) ≤ (k : Int) := by omega
    have hkn : (k : Int) < (rn : Int) := by omega
    have HX := Lib.hid hx
    clear hx hcx
    go_wp2
    go_quiet (fail)
    by_cases qm : z.f1 = -1
    · have r5 : ¬ z.f1 < -1 := by omega
      have hb1 : 1 ≤ buses := by have := hw.out; simp [within] at this; omega
      have r6 : ¬ buses ≤ z.f1 := by omega
      rw [qm] at r5 r6
      by_cases r0 : z.f0 < 0
      · go_wp2
        go_ret
        exact ⟨ret_int (h13 k z HX.out (by simp [rckOk, isBus, within]; omega)).symm, by (repeat' (first | (with_reducible exact Below.refl _ _) | (with_reducible assumption) | (with_reducible refine below_drewN ?_ _) | (with_reducible refine below_after (by assumption) ?_ ?_) | (with_reducible refine Below.drew ?_) | (with_reducible refine Below.alloc ?_ ?_ _) | (with_reducible refine Below.setCell ?_ ?_ _) | omega | (simp; omega) | (simp; done)))⟩
      by_cases r1 : buses ≤ z.f0
      · go_wp2
        go_ret
        exact ⟨ret_int (h13 k z HX.out (by simp [rckOk, isBus, within]; omega)).symm, by (repeat' (first | (with_reducible exact Below.refl _ _) | (with_reducible assumption) | (with_reducible refine below_drewN ?_ _) | (with_reducible refine below_after (by assumption) ?_ ?_) | (with_reducible refine Below.drew ?_) | (with_reducible refine Below.alloc ?_ ?_ _) | (with_reducible refine Below.setCell ?_ ?_ _) | omega | (simp; omega) | (simp; done)))⟩
      have r7 : ¬ z.f0 = -1 := by omega
      by_cases t0 : z.power < 1
      · go_wp2
        go_ret
        exact ⟨ret_int (h13 k z HX.out (by simp [rckOk, isBus, within]; omega)).symm, by (repeat' (first | (with_reducible exact Below.refl _ _) | (with_reducible assumption) | (with_reducible refine below_drewN ?_ _) | (with_reducible refine below_after (by assumption) ?_ ?_) | (with_reducible refine Below.drew ?_) | (with_reducible refine Below.alloc ?_ ?_ _) | (with_reducible refine Below.setCell ?_ ?_ _) | omega | (simp; omega) | (simp; done)))⟩
      by_cases t1 : 100000 < z.power
      · go_wp2
        go_ret
        exact ⟨ret_int (h13 k z HX.out (by simp [rckOk, isBus, within]; omega)).symm, by (repeat' (first | (with_reducible exact Below.refl _ _) | (with_reducible assumption) | (with_reducible refine below_drewN ?_ _) | (with_reducible refine below_after (by assumption) ?_ ?_) | (with_reducible refine Below.drew ?_) | (with_reducible refine Below.alloc ?_ ?_ _) | (with_reducible refine Below.setCell ?_ ?_ _) | omega | (simp; omega) | (simp; done)))⟩
      by_cases t2 : z.paths < 0
      · go_wp2
        go_ret
        exact ⟨ret_int (h13 k z HX.out (by simp [rckOk, isBus, within]; omega)).symm, by (repeat' (first | (with_reducible exact Below.refl _ _) | (with_reducible assumption) | (with_reducible refine below_drewN ?_ _) | (with_reducible refine below_after (by assumption) ?_ ?_) | (with_reducible refine Below.drew ?_) | (with_reducible refine Below.alloc ?_ ?_ _) | (with_reducible refine Below.setCell ?_ ?_ _) | omega | (simp; omega) | (simp; done)))⟩
      by_cases t3 : 1 < z.paths
      · go_wp2
        go_ret
        exact ⟨ret_int (h13 k z HX.out (by simp [rckOk, isBus, within]; omega)).symm, by (repeat' (first | (with_reducible exact Below.refl _ _) | (with_reducible assumption) | (with_reducible refine below_drewN ?_ _) | (with_reducible refine below_after (by assumption) ?_ ?_) | (with_reducible refine Below.drew ?_) | (with_reducible refine Below.alloc ?_ ?_ _) | (with_reducible refine Below.setCell ?_ ?_ _) | omega | (simp; omega) | (simp; done)))⟩
      have hE' := Lib.hid (upto_next hE.out HX.out (show rckOk buses z = true by simp [rckOk, isBus, within, qm]; omega))
      clear hE
      go_wp2
      go_roundw
      case rel => exact ⟨k + 1, by omega, by go_num, by (repeat' (first | (with_reducible exact Below.refl _ _) | (with_reducible assumption) | (with_reducible refine below_drewN ?_ _) | (with_reducible refine below_after (by assumption) ?_ ?_) | (with_reducible refine Below.drew ?_) | (with_reducible refine Below.alloc ?_ ?_ _) | (with_reducible refine Below.setCell ?_ ?_ _) | omega | (simp; omega) | (simp; done))), hE'.out⟩
      case measure => simp [intOf]; omega
    · by_cases r0 : z.f0 < 0
      · go_wp2
        go_ret
        exact ⟨ret_int (h13 k z HX.out (by simp [rckOk, isBus, within]; omega)).symm, by (repeat' (first | (with_reducible exact Below.refl _ _) | (with_reducible assumption) | (with_reducible refine below_drewN ?_ _) | (with_reducible refine below_after (by assumption) ?_ ?_) | (with_reducible refine Below.drew ?_) | (with_reducible refine Below.alloc ?_ ?_ _) | (with_reducible refine Below.setCell ?_ ?_ _) | omega | (simp; omega) | (simp; done)))⟩
      by_cases r1 : buses ≤ z.f0
      · go_wp2
        go_ret
        exact ⟨ret_int (h13 k z HX.out (by simp [rckOk, isBus, within]; omega)).symm, by (repeat' (first | (with_reducible exact Below.refl _ _) | (with_reducible assumption) | (with_reducible refine below_drewN ?_ _) | (with_reducible refine below_after (by assumption) ?_ ?_) | (with_reducible refine Below.drew ?_) | (with_reducible refine Below.alloc ?_ ?_ _) | (with_reducible refine Below.setCell ?_ ?_ _) | omega | (simp; omega) | (simp; done)))⟩
      by_cases r2 : z.f1 < -1
      · go_wp2
        go_ret
        exact ⟨ret_int (h13 k z HX.out (by simp [rckOk, isBus, within]; omega)).symm, by (repeat' (first | (with_reducible exact Below.refl _ _) | (with_reducible assumption) | (with_reducible refine below_drewN ?_ _) | (with_reducible refine below_after (by assumption) ?_ ?_) | (with_reducible refine Below.drew ?_) | (with_reducible refine Below.alloc ?_ ?_ _) | (with_reducible refine Below.setCell ?_ ?_ _) | omega | (simp; omega) | (simp; done)))⟩
      by_cases r3 : buses ≤ z.f1
      · go_wp2
        go_ret
        exact ⟨ret_int (h13 k z HX.out (by simp [rckOk, isBus, within]; omega)).symm, by (repeat' (first | (with_reducible exact Below.refl _ _) | (with_reducible assumption) | (with_reducible refine below_drewN ?_ _) | (with_reducible refine below_after (by assumption) ?_ ?_) | (with_reducible refine Below.drew ?_) | (with_reducible refine Below.alloc ?_ ?_ _) | (with_reducible refine Below.setCell ?_ ?_ _) | omega | (simp; omega) | (simp; done)))⟩
      by_cases r4 : z.f0 = z.f1
      · go_wp2
        go_ret
        exact ⟨ret_int (h13 k z HX.out (by simp [rckOk, isBus, within]; omega)).symm, by (repeat' (first | (with_reducible exact Below.refl _ _) | (with_reducible assumption) | (with_reducible refine below_drewN ?_ _) | (with_reducible refine below_after (by assumption) ?_ ?_) | (with_reducible refine Below.drew ?_) | (with_reducible refine Below.alloc ?_ ?_ _) | (with_reducible refine Below.setCell ?_ ?_ _) | omega | (simp; omega) | (simp; done)))⟩
      by_cases r5 : z.power < 1
      · go_wp2
        go_ret
        exact ⟨ret_int (h13 k z HX.out (by simp [rckOk, isBus, within]; omega)).symm, by (repeat' (first | (with_reducible exact Below.refl _ _) | (with_reducible assumption) | (with_reducible refine below_drewN ?_ _) | (with_reducible refine below_after (by assumption) ?_ ?_) | (with_reducible refine Below.drew ?_) | (with_reducible refine Below.alloc ?_ ?_ _) | (with_reducible refine Below.setCell ?_ ?_ _) | omega | (simp; omega) | (simp; done)))⟩
      by_cases r6 : 100000 < z.power
      · go_wp2
        go_ret
        exact ⟨ret_int (h13 k z HX.out (by simp [rckOk, isBus, within]; omega)).symm, by (repeat' (first | (with_reducible exact Below.refl _ _) | (with_reducible assumption) | (with_reducible refine below_drewN ?_ _) | (with_reducible refine below_after (by assumption) ?_ ?_) | (with_reducible refine Below.drew ?_) | (with_reducible refine Below.alloc ?_ ?_ _) | (with_reducible refine Below.setCell ?_ ?_ _) | omega | (simp; omega) | (simp; done)))⟩
      by_cases r7 : z.paths < 0
      · go_wp2
        go_ret
        exact ⟨ret_int (h13 k z HX.out (by simp [rckOk, isBus, within]; omega)).symm, by (repeat' (first | (with_reducible exact Below.refl _ _) | (with_reducible assumption) | (with_reducible refine below_drewN ?_ _) | (with_reducible refine below_after (by assumption) ?_ ?_) | (with_reducible refine Below.drew ?_) | (with_reducible refine Below.alloc ?_ ?_ _) | (with_reducible refine Below.setCell ?_ ?_ _) | omega | (simp; omega) | (simp; done)))⟩
      by_cases r8 : 2 < z.paths
      · go_wp2
        go_ret
        exact ⟨ret_int (h13 k z HX.out (by simp [rckOk, isBus, within]; omega)).symm, by (repeat' (first | (with_reducible exact Below.refl _ _) | (with_reducible assumption) | (with_reducible refine below_drewN ?_ _) | (with_reducible refine below_after (by assumption) ?_ ?_) | (with_reducible refine Below.drew ?_) | (with_reducible refine Below.alloc ?_ ?_ _) | (with_reducible refine Below.setCell ?_ ?_ _) | omega | (simp; omega) | (simp; done)))⟩
      have hE' := Lib.hid (upto_next hE.out HX.out (show rckOk buses z = true by simp [rckOk, isBus, within, qm]; omega))
      clear hE
      go_wp2
      go_roundw
      case rel => exact ⟨k + 1, by omega, by go_num, by (repeat' (first | (with_reducible exact Below.refl _ _) | (with_reducible assumption) | (with_reducible refine below_drewN ?_ _) | (with_reducible refine below_after (by assumption) ?_ ?_) | (with_reducible refine Below.drew ?_) | (with_reducible refine Below.alloc ?_ ?_ _) | (with_reducible refine Below.setCell ?_ ?_ _) | omega | (simp; omega) | (simp; done))), hE'.out⟩
      case measure => simp [intOf]; omega
  obtain rfl : rn = k := by omega
  have hR := Lib.hid (upto_all e3.out hE.out)
  have h0 := HC.out.h0 hw.out hs8 hS.out hl40 hL.out hr24 hR.out
  clear hE h13 hk hlt
  go_wp2
  go_ret
  exact ⟨ret_int h0.symm, by (repeat' (first | (with_reducible exact Below.refl _ _) | (with_reducible assumption) | (with_reducible refine below_drewN ?_ _) | (with_reducible refine below_after (by assumption) ?_ ?_) | (with_reducible refine Below.drew ?_) | (with_reducible refine Below.alloc ?_ ?_ _) | (with_reducible refine Below.setCell ?_ ?_ _) | omega | (simp; omega) | (simp; done)))⟩
end Go.Proofs.YtigefkjabjnmjaaGreatDoor
