/- The reference's Valid and CheckState. -/
import Derived.Test.YtigefkjabjnmjaaGreatDoorRefK
import Derived.Test.YtigefkjabjnmjaaGreatDoorState2
namespace Go.Proofs.YtigefkjabjnmjaaGreatDoor
open Go.RowKit

def sBox0 (s : Stt) : Array Value := #[.slice s.closed.A s.closed.n s.closed.c, .slice s.locked.A s.locked.n s.locked.c, .slice s.badLink.A s.badLink.n s.badLink.c, .slice s.on.A s.on.n s.on.c, .slice s.badSource.A s.badSource.n s.badSource.c, .slice s.earthed.A s.earthed.n s.earthed.c, .slice s.badBus.A s.badBus.n s.badBus.c]
set_option maxRecDepth 100000 in
set_option maxHeartbeats 8000000 in
theorem refValid_any (p : Plt) (s : Stt) (w : World) (hp : PltIn w w.heap.size p) (hs : SttIn w w.heap.size s) :
    Calls Tryz.prog 63 #[p.val, s.val] w fun e w' => e = .returned (.bool (stateOk p s)) ∧ Below w.heap.size w w' := by
  have h1 := hp.hl
  have h2 := hp.hs
  have HP := Lib.hid hp.lnk
  have hlen := Lib.hid hp.lnk.1
  have HC := Lib.hid hs.closed.1
  have HL := Lib.hid hs.locked.1
  have b0 := hs.closed.2
  have b1 := hs.locked.2
  have b2 := hs.badLink.2
  have b3 := hs.on.2
  have b4 := hs.badSource.2
  have b5 := hs.earthed.2
  have b6 := hs.badBus.2
  clear hp hs
  have hno : ∀ x, stateOk p s = x → x = false ∨ (s.closed.n = p.ln ∧ s.locked.n = p.ln ∧ s.badLink.n = p.ln ∧ s.on.n = p.sn ∧ s.badSource.n = p.sn ∧ (s.earthed.n : Int) = p.buses ∧ (s.badBus.n : Int) = p.buses) := by
    intro x hx
    cases x
    · exact .inl rfl
    · right
      simp [stateOk, linkLists, sourceLists, busLists] at hx
      omega
  have hyes : s.closed.n = p.ln → s.locked.n = p.ln → s.badLink.n = p.ln → s.on.n = p.sn → s.badSource.n = p.sn → (s.earthed.n : Int) = p.buses → (s.badBus.n : Int) = p.buses → stateOk p s = cablesOk p s := by
    intro a b c d e f g
    simp [stateOk, linkLists, sourceLists, busLists, a, b, c, d, e, f, g]
  have cno : ∀ k, k < p.lnks.length → cableAt p s k = false → cablesOk p s = false := fun k hk h => cablesOk_no hk h
  have cyes : (∀ k, k < p.lnks.length → cableAt p s k = true) → cablesOk p s = true := cablesOk_yes
  have cat : Hid (∀ (k : Nat) (x : Lnk) (u v : Bool), p.lnks[k]? = some x → s.closed.l[k]? = some u → s.locked.l[k]? = some v → cableAt p s k = (!decide (x.kind = 1) || (u && !v))) := by
    intro k x u v hx hu hv
    unfold cableAt
    rw [hx, hu, hv]
    rfl
  obtain ⟨st, hst⟩ : ∃ q, stateOk p s = q := ⟨_, rfl⟩
  obtain ⟨cb, hcb⟩ : ∃ q, cablesOk p s = q := ⟨_, rfl⟩
  obtain ⟨ca, hca⟩ : ∃ q, cableAt p s = q := ⟨_, rfl⟩
  have hno := hno st hst
  rw [hst] at hyes ⊢
  rw [hcb, hca] at cno cyes
  rw [hcb] at hyes
  simp only [hca] at cat
  clear hst hcb hca
  unfold Plt.val Stt.val
  obtain ⟨buses, sA, sn, sc, lA, ln, lc, rA, rn, rc, srcs, lnks, rcks⟩ := p
  obtain ⟨⟨A0, n0, k0, l0⟩, ⟨A1, n1, k1, l1⟩, ⟨A2, n2, k2, l2⟩, ⟨A3, n3, k3, l3⟩, ⟨A4, n4, k4, l4⟩, ⟨A5, n5, k5, l5⟩, ⟨A6, n6, k6, l6⟩⟩ := s
  dsimp only at *
  go_enter Tryz.func63, Tryz.ntmps63
  go_wp2
  go_quiet (fail)
  obtain ⟨W1, hW1⟩ : ∃ W, (((w.alloc (.cells #[.int .i64 buses, .slice sA sn sc, .slice lA ln lc, .slice rA rn rc] 26)).alloc (.cells #[.slice A0 n0 k0, .slice A1 n1 k1, .slice A2 n2 k2, .slice A3 n3 k3, .slice A4 n4 k4, .slice A5 n5 k5, .slice A6 n6 k6] 29)).drewN nq) = W := ⟨_, rfl⟩
  rw [hW1]
  have HPB : Hid (Blk W1 w.heap.size 26 #[.int .i64 buses, .slice sA sn sc, .slice lA ln lc, .slice rA rn rc]) := by
    rw [← hW1]
    exact (show Blk _ _ _ _ from heap_alloc_new w (.cells #[.int .i64 buses, .slice sA sn sc, .slice lA ln lc, .slice rA rn rc] 26)).alloc (.cells #[.slice A0 n0 k0, .slice A1 n1 k1, .slice A2 n2 k2, .slice A3 n3 k3, .slice A4 n4 k4, .slice A5 n5 k5, .slice A6 n6 k6] 29)
  have HSB : Hid (Blk W1 (w.heap.size + 1) 29 #[.slice A0 n0 k0, .slice A1 n1 k1, .slice A2 n2 k2, .slice A3 n3 k3, .slice A4 n4 k4, .slice A5 n5 k5, .slice A6 n6 k6]) := by
    have := heap_alloc_new (w.alloc (.cells #[.int .i64 buses, .slice sA sn sc, .slice lA ln lc, .slice rA rn rc] 26)) (.cells #[.slice A0 n0 k0, .slice A1 n1 k1, .slice A2 n2 k2, .slice A3 n3 k3, .slice A4 n4 k4, .slice A5 n5 k5, .slice A6 n6 k6] 29)
    rw [World.size_alloc] at this
    rw [← hW1]
    exact this
  have hBW : Below w.heap.size w W1 := by rw [← hW1]; (repeat' (first | (with_reducible exact Below.refl _ _) | (with_reducible assumption) | (with_reducible refine below_drewN ?_ _) | (with_reducible refine below_after (by assumption) ?_ ?_) | (with_reducible refine Below.drew ?_) | (with_reducible refine Below.alloc ?_ ?_ _) | (with_reducible refine Below.setCell ?_ ?_ _) | omega | (simp; omega) | (simp; done)))
  clear hW1
  have x0 : W1.cell? ⟨w.heap.size, 0, none⟩ = some (.int .i64 buses) := HPB.out.cell 0
  have x2 : W1.cell? ⟨w.heap.size, 2, none⟩ = some (.slice lA ln lc) := HPB.out.cell 2
  have y0 : W1.cell? ⟨w.heap.size + 1, 0, none⟩ = some (.slice A0 n0 k0) := HSB.out.cell 0
  have y1 : W1.cell? ⟨w.heap.size + 1, 1, none⟩ = some (.slice A1 n1 k1) := HSB.out.cell 1
  have y2 : W1.cell? ⟨w.heap.size + 1, 2, none⟩ = some (.slice A2 n2 k2) := HSB.out.cell 2
  have y3 : W1.cell? ⟨w.heap.size + 1, 3, none⟩ = some (.slice A3 n3 k3) := HSB.out.cell 3
  have y4 : W1.cell? ⟨w.heap.size + 1, 4, none⟩ = some (.slice A4 n4 k4) := HSB.out.cell 4
  have y5 : W1.cell? ⟨w.heap.size + 1, 5, none⟩ = some (.slice A5 n5 k5) := HSB.out.cell 5
  have y6 : W1.cell? ⟨w.heap.size + 1, 6, none⟩ = some (.slice A6 n6 k6) := HSB.out.cell 6
  by_cases q0 : n0 = ln
  case neg =>
    have q0' : ¬ (n0 : Int) = (ln : Int) := by omega
    have hf : st = false := by rcases hno with h | h; exact h; exact absurd h.1 q0
    go_wp2
    go_ret
    exact ⟨ret_bool hf.symm, by (repeat' (first | (with_reducible exact Below.refl _ _) | (with_reducible assumption) | (with_reducible refine below_drewN ?_ _) | (with_reducible refine below_after (by assumption) ?_ ?_) | (with_reducible refine Below.drew ?_) | (with_reducible refine Below.alloc ?_ ?_ _) | (with_reducible refine Below.setCell ?_ ?_ _) | omega | (simp; omega) | (simp; done)))⟩
  by_cases q1 : n1 = ln
  case neg =>
    have q1' : ¬ (n1 : Int) = (ln : Int) := by omega
    have hf : st = false := by rcases hno with h | h; exact h; exact absurd h.2.1 q1
    go_wp2
    go_ret
    exact ⟨ret_bool hf.symm, by (repeat' (first | (with_reducible exact Below.refl _ _) | (with_reducible assumption) | (with_reducible refine below_drewN ?_ _) | (with_reducible refine below_after (by assumption) ?_ ?_) | (with_reducible refine Below.drew ?_) | (with_reducible refine Below.alloc ?_ ?_ _) | (with_reducible refine Below.setCell ?_ ?_ _) | omega | (simp; omega) | (simp; done)))⟩
  by_cases q2 : n2 = ln
  case neg =>
    have q2' : ¬ (n2 : Int) = (ln : Int) := by omega
    have hf : st = false := by rcases hno with h | h; exact h; exact absurd h.2.2.1 q2
    go_wp2
    go_ret
    exact ⟨ret_bool hf.symm, by (repeat' (first | (with_reducible exact Below.refl _ _) | (with_reducible assumption) | (with_reducible refine below_drewN ?_ _) | (with_reducible refine below_after (by assumption) ?_ ?_) | (with_reducible refine Below.drew ?_) | (with_reducible refine Below.alloc ?_ ?_ _) | (with_reducible refine Below.setCell ?_ ?_ _) | omega | (simp; omega) | (simp; done)))⟩
  by_cases q3 : n3 = sn
  case neg =>
    have q3' : ¬ (n3 : Int) = (sn : Int) := by omega
    have hf : st = false := by rcases hno with h | h; exact h; exact absurd h.2.2.2.1 q3
    go_wp2
    go_ret
    exact ⟨ret_bool hf.symm, by (repeat' (first | (with_reducible exact Below.refl _ _) | (with_reducible assumption) | (with_reducible refine below_drewN ?_ _) | (with_reducible refine below_after (by assumption) ?_ ?_) | (with_reducible refine Below.drew ?_) | (with_reducible refine Below.alloc ?_ ?_ _) | (with_reducible refine Below.setCell ?_ ?_ _) | omega | (simp; omega) | (simp; done)))⟩
  by_cases q4 : n4 = sn
  case neg =>
    have q4' : ¬ (n4 : Int) = (sn : Int) := by omega
    have hf : st = false := by rcases hno with h | h; exact h; exact absurd h.2.2.2.2.1 q4
    go_wp2
    go_ret
    exact ⟨ret_bool hf.symm, by (repeat' (first | (with_reducible exact Below.refl _ _) | (with_reducible assumption) | (with_reducible refine below_drewN ?_ _) | (with_reducible refine below_after (by assumption) ?_ ?_) | (with_reducible refine Below.drew ?_) | (with_reducible refine Below.alloc ?_ ?_ _) | (with_reducible refine Below.setCell ?_ ?_ _) | omega | (simp; omega) | (simp; done)))⟩
  by_cases q5 : (n5 : Int) = buses
  case neg =>
    have hf : st = false := by rcases hno with h | h; exact h; exact absurd h.2.2.2.2.2.1 q5
    go_wp2
    go_ret
    exact ⟨ret_bool hf.symm, by (repeat' (first | (with_reducible exact Below.refl _ _) | (with_reducible assumption) | (with_reducible refine below_drewN ?_ _) | (with_reducible refine below_after (by assumption) ?_ ?_) | (with_reducible refine Below.drew ?_) | (with_reducible refine Below.alloc ?_ ?_ _) | (with_reducible refine Below.setCell ?_ ?_ _) | omega | (simp; omega) | (simp; done)))⟩
  by_cases q6 : (n6 : Int) = buses
  case neg =>
    have hf : st = false := by rcases hno with h | h; exact h; exact absurd h.2.2.2.2.2.2 q6
    go_wp2
    go_ret
    exact ⟨ret_bool hf.symm, by (repeat' (first | (with_reducible exact Below.refl _ _) | (with_reducible assumption) | (with_reducible refine below_drewN ?_ _) | (with_reducible refine below_after (by assumption) ?_ ?_) | (with_reducible refine Below.drew ?_) | (with_reducible refine Below.alloc ?_ ?_ _) | (with_reducible refine Below.setCell ?_ ?_ _) | omega | (simp; omega) | (simp; done)))⟩
  have hs := hyes q0 q1 q2 q3 q4 q5 q6
  clear hyes hno
  subst hs
  subst q0 q1 q2 q3 q4
  go_wp2
  go_loopw [8] (fun i wr => ∃ k : Nat, k ≤ n2 ∧ i = .int .i64 k ∧ wr = W1 ∧ Hid (∀ i, i < k → ca i = true)) (fun i _ => n2 - (intOf i).toNat)
  case atStart => exact ⟨0, by omega, rfl, rfl, fun i hi => absurd hi (by omega)⟩
  obtain ⟨k, hk, rfl, rfl, hE⟩ := hrel
  by_cases hlt : k < n2
  · obtain ⟨b, off, x, rfl, hb, hx, hcx⟩ := (HP.out.below hBW).at_ hlt
    obtain ⟨c0, c1, c2, c3, c4, c5⟩ := Lnk.cells hcx
    obtain ⟨b1, off1, u, rfl, hb1, hu, hcu⟩ := (HC.out.below hBW).at_ (k := k) (by omega)
    obtain ⟨b2, off2, v, rfl, hb2, hv, hcv⟩ := (HL.out.below hBW).at_ (k := k) (by omega)
    have d1 := cellB hcu
    have d2 := cellB hcv
    have hat := cat.out k x u v hx hu hv
    have HX := Lib.hid hat
    have hll := hlen.out
    have hk0 : (0 : Int) ≤ (k : Int) := by omega
    have hkn : (k : Int) < (n2 : Int) := by omega
    clear hat hx hu hv hcx hcu hcv
    by_cases hkd : x.kind = 1
    · cases u
      · go_wp2
        go_ret
        exact ⟨ret_bool (cno k (by omega) (by rw [HX.out, decide_eq_true hkd]; rfl)).symm, hBW⟩
      · cases v
        · have hE' := Lib.hid (upto_succ hE.out (by rw [HX.out]; simp))
          clear hE HX
          go_wp2
          go_roundw
          case rel => exact ⟨k + 1, by omega, by go_num, by simp, hE'.out⟩
          case measure => simp [intOf]; omega
        · go_wp2
          go_ret
          exact ⟨ret_bool (cno k (by omega) (by rw [HX.out, decide_eq_true hkd]; rfl)).symm, hBW⟩
    · have hE' := Lib.hid (upto_succ hE.out (by rw [HX.out, decide_eq_false hkd]; simp))
      clear hE HX
      go_wp2
      go_roundw
      case rel => exact ⟨k + 1, by omega, by go_num, by simp, hE'.out⟩
      case measure => simp [intOf]; omega
  obtain rfl : n2 = k := by omega
  have h := cyes (fun i hi => hE.out i (by rw [hlen.out] at hi; omega))
  go_wp2
  go_ret
  exact ⟨ret_bool h.symm, hBW⟩
set_option maxRecDepth 100000 in
set_option maxHeartbeats 4000000 in
theorem refCheckState_any (p : Plt) (s : Stt) (w : World) (hp : PltIn w w.heap.size p) (hs : SttIn w w.heap.size s) :
    Calls Tryz.prog 12 #[p.val, s.val] w fun e w' => e = .returned (.int .i64 (checkState p s)) ∧ Below w.heap.size w w' := by
  have C := Lib.hid (fun W hp => refCheck_any p W hp)
  have V := Lib.hid (fun W hp hs => refValid_any p s W hp hs)
  have HP := Lib.hid hp
  have HS := Lib.hid hs
  clear hp hs
  obtain ⟨cv, hcv⟩ : ∃ q, checkState p s = q := ⟨_, rfl⟩
  rw [hcv]
  unfold Plt.val at C V ⊢
  unfold Stt.val at V ⊢
  have hB0 : Below w.heap.size w ((w.alloc (.cells (pBox0 p) 26)).alloc (.cells (sBox0 s) 29)) := by (repeat' (first | (with_reducible exact Below.refl _ _) | (with_reducible assumption) | (with_reducible refine below_drewN ?_ _) | (with_reducible refine below_after (by assumption) ?_ ?_) | (with_reducible refine Below.drew ?_) | (with_reducible refine Below.alloc ?_ ?_ _) | (with_reducible refine Below.setCell ?_ ?_ _) | omega | (simp; omega) | (simp; done)))
  have HPB : Hid (Blk ((w.alloc (.cells (pBox0 p) 26)).alloc (.cells (sBox0 s) 29)) w.heap.size 26 (pBox0 p)) := (show Blk _ _ _ _ from heap_alloc_new w (.cells (pBox0 p) 26)).alloc _
  have HSB : Hid (Blk ((w.alloc (.cells (pBox0 p) 26)).alloc (.cells (sBox0 s) 29)) (w.heap.size + 1) 29 (sBox0 s)) := by
    have := heap_alloc_new (w.alloc (.cells (pBox0 p) 26)) (.cells (sBox0 s) 29)
    rwa [World.size_alloc] at this
  go_enter Tryz.func12, Tryz.ntmps12
  go_wp2_with fail
  refine (C.out _ (HP.out.next hB0)).mono ?_
  rintro e w1 ⟨rfl, hB1⟩
  have hBw : Below w.heap.size w w1 := hB0.trans (hB1.mono (by simp; omega))
  have HPB1 := Lib.hid (HPB.out.below hB1 (Blk.lt HPB.out))
  have HSB1 := Lib.hid (HSB.out.below hB1 (Blk.lt HSB.out))
  clear hB0 HPB HSB hB1
  have x0 : w1.cell? ⟨w.heap.size, 0, none⟩ = some (.int .i64 p.buses) := HPB1.out.cell 0
  have x1 : w1.cell? ⟨w.heap.size, 1, none⟩ = some (.slice p.sA p.sn p.sc) := HPB1.out.cell 1
  have x2 : w1.cell? ⟨w.heap.size, 2, none⟩ = some (.slice p.lA p.ln p.lc) := HPB1.out.cell 2
  have x3 : w1.cell? ⟨w.heap.size, 3, none⟩ = some (.slice p.rA p.rn p.rc) := HPB1.out.cell 3
  have y0 : w1.cell? ⟨w.heap.size + 1, 0, none⟩ = some (.slice s.closed.A s.closed.n s.closed.c) := HSB1.out.cell 0
  have y1 : w1.cell? ⟨w.heap.size + 1, 1, none⟩ = some (.slice s.locked.A s.locked.n s.locked.c) := HSB1.out.cell 1
  have y2 : w1.cell? ⟨w.heap.size + 1, 2, none⟩ = some (.slice s.badLink.A s.badLink.n s.badLink.c) := HSB1.out.cell 2
  have y3 : w1.cell? ⟨w.heap.size + 1, 3, none⟩ = some (.slice s.on.A s.on.n s.on.c) := HSB1.out.cell 3
  have y4 : w1.cell? ⟨w.heap.size + 1, 4, none⟩ = some (.slice s.badSource.A s.badSource.n s.badSource.c) := HSB1.out.cell 4
  have y5 : w1.cell? ⟨w.heap.size + 1, 5, none⟩ = some (.slice s.earthed.A s.earthed.n s.earthed.c) := HSB1.out.cell 5
  have y6 : w1.cell? ⟨w.heap.size + 1, 6, none⟩ = some (.slice s.badBus.A s.badBus.n s.badBus.c) := HSB1.out.cell 6
  by_cases hc : check p = 0
  · have hr : Hid (cv = if stateOk p s then 0 else 9) := by
      show cv = _
      rw [← hcv]
      unfold checkState
      rw [if_pos hc]
    simp only [hc]
    clear hc hcv
    go_wp2_with fail
    refine (V.out _ (HP.out.next hBw) (HS.out.next hBw)).mono ?_
    rintro e w2 ⟨rfl, hB2⟩
    have hBw2 : Below w.heap.size w w2 := hBw.trans (hB2.mono hBw.size)
    obtain ⟨st, hst⟩ : ∃ q, stateOk p s = q := ⟨_, rfl⟩
    rw [hst] at hr ⊢
    clear hst
    cases st
    · go_wp2_with fail
      go_ret
      exact ⟨ret_int (by have := hr.out; simpa using this.symm), hBw2⟩
    · go_wp2_with fail
      go_ret
      exact ⟨ret_int (by have := hr.out; simpa using this.symm), hBw2⟩
  · have hr : cv = check p := by
      rw [← hcv]
      unfold checkState
      rw [if_neg hc]
    clear hcv
    go_wp2_with fail
    go_ret
    exact ⟨ret_int hr.symm, hBw⟩
end Go.Proofs.YtigefkjabjnmjaaGreatDoor
