/- plant.lengths, plant.cablesRest, the rules of CheckState. -/
import Derived.Test.YtcnmfblbfpcghaaGreatDoorCheck4

set_option linter.unusedSimpArgs false
set_option linter.unusedVariables false
namespace Go.Proofs.YtcnmfblbfpcghaaGreatDoor
open Go.RowKit

/-- Has a list another length? -/
def lenNe (m : Int) (x : Bs) : Bool := !decide ((x.n : Int) = m)
theorem lengths1_any (A : Option Addr) (n c : Nat) (m : Int) (bn : Nat) (w : World) (hc : w.cell? ⟨bn, 0, none⟩ = some (.int .i64 m)) :
    Calls Tryz.prog 135 #[.slice A n c, .pointer (some ⟨bn, 0, none⟩)] w fun e w' => e = .returned (.bool (!decide ((n : Int) = m))) ∧ w = w' := by
  go_enter Tryz.func135, Tryz.ntmps135
  go_wp2
  go_ret
  exact ⟨rfl, rfl⟩
theorem indexBs_any (A : Option Addr) (n c : Nat) (l : List Bs) (m : Int) (bn : Nat) (w : World) (hl : Rd w w.heap.size 1 encBs A n l) (hn : n ≤ 9223372036854775807) (hb : bn < w.heap.size) (hc : w.cell? ⟨bn, 0, none⟩ = some (.int .i64 m)) :
    Calls Tryz.prog 153 #[.slice A n c, .func (.func 135) #[] #[.pointer (some ⟨bn, 0, none⟩)]] w
      fun e w' => e = .returned (.int .i64 (findI (lenNe m) l)) ∧ Below w.heap.size w w' := by
  have hlen := hl.1
  have HC := Lib.hid hc
  clear hc
  go_enter Tryz.func153, Tryz.ntmps153
  go_wp2
  go_loopw [8] (fun i wr => ∃ k : Nat, k ≤ n ∧ i = .int .i64 k ∧ Below w.heap.size w wr ∧ Hid (∀ i (y : Bs), i < k → l[i]? = some y → lenNe m y = false)) (fun i _ => n - (intOf i).toNat)
  case atStart => exact ⟨0, by omega, rfl, Below.refl _ _, fun i y hi => absurd hi (by omega)⟩
  case round =>
    obtain ⟨k, hk, rfl, hB, hE⟩ := hrel
    have hz' := hB.size
    by_cases hlt : k < n
    · obtain ⟨b, off, x, rfl, hb, hx, hcx⟩ := (hl.below hB).at_ hlt
      have c0 := cellBs hcx
      by_cases hq : (x.n : Int) = m
      · have hq' : lenNe m x = false := by simpa [lenNe] using hq
        go_wp2_with (go_at_call 135; refine (lengths1_any x.A x.n x.c m bn _ ((hB.cell (by assumption)).trans HC.out)).mono ?_; rw [show (!decide ((x.n : Int) = m)) = lenNe m x from rfl, hq']; rintro e w' ⟨rfl, rfl⟩)
        have hE' := Lib.hid (before_succ (q := lenNe m) hE.out hx hq')
        clear hE
        go_roundw
        case rel => exact ⟨k + 1, by omega, by go_num, by (repeat' (first | (with_reducible exact Below.refl _ _) | (with_reducible assumption) | (with_reducible refine below_drewN ?_ _) | (with_reducible refine below_after (by assumption) ?_ ?_) | (with_reducible refine Below.drew ?_) | (with_reducible refine Below.alloc ?_ ?_ _) | (with_reducible refine Below.setCell ?_ ?_ _) | omega | (simp; omega) | (simp; done))), hE'.out⟩
        case measure => simp [intOf]; omega
      · have hq' : lenNe m x = true := by simpa [lenNe] using hq
        go_wp2_with (go_at_call 135; refine (lengths1_any x.A x.n x.c m bn _ ((hB.cell (by assumption)).trans HC.out)).mono ?_; rw [show (!decide ((x.n : Int) = m)) = lenNe m x from rfl, hq']; rintro e w' ⟨rfl, rfl⟩)
        go_ret
        exact ⟨ret_int (findI_hit (q := lenNe m) hx hq' hE.out).symm, by (repeat' (first | (with_reducible exact Below.refl _ _) | (with_reducible assumption) | (with_reducible refine below_drewN ?_ _) | (with_reducible refine below_after (by assumption) ?_ ?_) | (with_reducible refine Below.drew ?_) | (with_reducible refine Below.alloc ?_ ?_ _) | (with_reducible refine Below.setCell ?_ ?_ _) | omega | (simp; omega) | (simp; done)))⟩
    · go_wp2
      go_ret
      exact ⟨ret_int (findI_none (fun i y hi => hE.out i y (by omega))).symm, hB⟩
/-- lengths: each list has n elements. -/
theorem lengths_any (A : Option Addr) (n c : Nat) (l : List Bs) (m : Int) (w : World) (hl : Rd w w.heap.size 1 encBs A n l) (hn : n ≤ 9223372036854775807) :
    Calls Tryz.prog 103 #[.int .i64 m, .slice A n c] w fun e w' => e = .returned (.bool (l.all fun x => decide ((x.n : Int) = m))) ∧ Below w.heap.size w w' := by
  have HR := Lib.hid hl
  clear hl
  have e : (l.all fun x => decide ((x.n : Int) = m)) = !(l.any (lenNe m)) := by
    rw [List.all_eq_not_any_not]
    rfl
  have HE := Lib.hid e
  clear e
  go_enter Tryz.func103, Tryz.ntmps103
  go_wp2_with (first
    | (go_at_call 134; go_in)
    | (go_at_call 153; refine (indexBs_any A n c l m w.heap.size _ (HR.out.next (by (repeat' (first | (with_reducible exact Below.refl _ _) | (with_reducible assumption) | (with_reducible refine below_drewN ?_ _) | (with_reducible refine below_after (by assumption) ?_ ?_) | (with_reducible refine Below.drew ?_) | (with_reducible refine Below.alloc ?_ ?_ _) | (with_reducible refine Below.setCell ?_ ?_ _) | omega | (simp; omega) | (simp; done))))) hn (by simp) (by simp [go_sem])).mono ?_; rintro e w' ⟨rfl, hB⟩))
  all_goals (go_ret; exact ⟨ret_bool (by rw [HE.out, ← findI_ge]), by (repeat' (first | (with_reducible exact Below.refl _ _) | (with_reducible assumption) | (with_reducible refine below_drewN ?_ _) | (with_reducible refine below_after (by assumption) ?_ ?_) | (with_reducible refine Below.drew ?_) | (with_reducible refine Below.alloc ?_ ?_ _) | (with_reducible refine Below.setCell ?_ ?_ _) | omega | (simp; omega) | (simp; done)))⟩)

/-- Is the link at a place no cable, or one that is closed and not locked? -/
def cableAt (p : Plt) (s : Stt) (i : Nat) : Bool :=
  match p.lnks[i]? with
  | none => true
  | some x => !decide (x.kind = 1) || (s.closed.l[i]?.getD false && !(s.locked.l[i]?.getD false))
def cablesOk (p : Plt) (s : Stt) : Bool := (List.range p.lnks.length).all (cableAt p s)
theorem cablesOk_no {p : Plt} {s : Stt} {k : Nat} (hk : k < p.lnks.length) (h : cableAt p s k = false) : cablesOk p s = false := by
  unfold cablesOk
  rw [List.all_eq_false]
  exact ⟨k, by simpa using hk, by simp [h]⟩
theorem cablesOk_yes {p : Plt} {s : Stt} (h : ∀ i, i < p.lnks.length → cableAt p s i = true) : cablesOk p s = true := by
  simp [cablesOk]
  exact h
set_option maxRecDepth 100000 in
set_option maxHeartbeats 2000000 in
theorem cablesRest_any (p : Plt) (s : Stt) (w : World) (hp : PltIn w w.heap.size p) (hs : SttIn w w.heap.size s) (h1 : s.closed.n = p.ln) (h2 : s.locked.n = p.ln) :
    Calls Tryz.prog 107 #[p.val, s.val] w fun e w' => e = .returned (.bool (cablesOk p s)) ∧ Below w.heap.size w w' := by
  have hlen := hp.lnk.1
  have hm := hp.hl
  have HP := Lib.hid hp
  have HS := Lib.hid hs
  clear hp hs
  unfold Plt.val Stt.val
  rw [h1, h2]
  go_enter Tryz.func107, Tryz.ntmps107
  go_wp2
  go_loopw [10] (fun i wr => ∃ k : Nat, k ≤ p.ln ∧ i = .int .i64 k ∧ Below w.heap.size w wr ∧ w.heap.size + 2 ≤ wr.heap.size ∧ wr.cell? ⟨w.heap.size + 1, 0, none⟩ = some (.slice s.closed.A p.ln s.closed.c) ∧ wr.cell? ⟨w.heap.size + 1, 1, none⟩ = some (.slice s.locked.A p.ln s.locked.c) ∧ Hid (∀ i, i < k → cableAt p s i = true)) (fun i _ => p.ln - (intOf i).toNat)
  case atStart => exact ⟨0, by omega, rfl, by (repeat' (first | (with_reducible exact Below.refl _ _) | (with_reducible assumption) | (with_reducible refine below_drewN ?_ _) | (with_reducible refine below_after (by assumption) ?_ ?_) | (with_reducible refine Below.drew ?_) | (with_reducible refine Below.alloc ?_ ?_ _) | (with_reducible refine Below.setCell ?_ ?_ _) | omega | (simp; omega) | (simp; done))), by simp, by simp [go_sem], by simp [go_sem], fun i hi => absurd hi (by omega)⟩
  case round =>
    obtain ⟨k, hk, rfl, hB, hz, q0, q1, hE⟩ := hrel
    by_cases hlt : k < p.ln
    · obtain ⟨b, off, x, e1, hb, hx, hcx⟩ := (HP.out.lnk.below hB).at_ hlt
      obtain ⟨c0, c1, c2, c3, c4, c5⟩ := Lnk.cells hcx
      obtain ⟨b1, off1, u, e2, hb1, hu, hcu⟩ := (HS.out.closed.1.below hB).at_ (k := k) (by omega)
      obtain ⟨b2, off2, v, e3, hb2, hv, hcv⟩ := (HS.out.locked.1.below hB).at_ (k := k) (by omega)
      have d1 := cellB hcu
      have d2 := cellB hcv
      clear hcx hcu hcv
      have hb' : b < wr.heap.size := by omega
      have hb1' : b1 < wr.heap.size := by omega
      have hb2' : b2 < wr.heap.size := by omega
      have hz1 : w.heap.size + 1 < wr.heap.size := by omega
      have Q0 := Lib.hid q0
      have Q1 := Lib.hid q1
      rw [e1]
      rw [e2] at q0
      rw [e3] at q1
      have hat : cableAt p s k = (!decide (x.kind = 1) || (u && !v)) := by unfold cableAt; rw [hx, hu, hv]; rfl
      have HX := Lib.hid hat
      clear hat e1 e2 e3 hx hu hv
      go_wp2
      · go_ret
        have h1 : x.kind = 1 := by assumption
        have h2 : u = false := by assumption
        exact ⟨ret_bool (cablesOk_no (k := k) (by omega) (by rw [HX.out, h1, h2]; rfl)).symm, by (repeat' (first | (with_reducible exact Below.refl _ _) | (with_reducible assumption) | (with_reducible refine below_drewN ?_ _) | (with_reducible refine below_after (by assumption) ?_ ?_) | (with_reducible refine Below.drew ?_) | (with_reducible refine Below.alloc ?_ ?_ _) | (with_reducible refine Below.setCell ?_ ?_ _) | omega | (simp; omega) | (simp; done)))⟩
      · go_ret
        have h1 : x.kind = 1 := by assumption
        have h2 : v = true := by assumption
        exact ⟨ret_bool (cablesOk_no (k := k) (by omega) (by rw [HX.out, h1, h2]; simp)).symm, by (repeat' (first | (with_reducible exact Below.refl _ _) | (with_reducible assumption) | (with_reducible refine below_drewN ?_ _) | (with_reducible refine below_after (by assumption) ?_ ?_) | (with_reducible refine Below.drew ?_) | (with_reducible refine Below.alloc ?_ ?_ _) | (with_reducible refine Below.setCell ?_ ?_ _) | omega | (simp; omega) | (simp; done)))⟩
      · have h2 : u = true := by assumption
        have h3 : v = false := by assumption
        have hE' := Lib.hid (upto_succ hE.out (by rw [HX.out, h2, h3]; simp))
        clear hE HX
        go_roundw
        case rel => exact ⟨k + 1, by omega, by go_num, by (repeat' (first | (with_reducible exact Below.refl _ _) | (with_reducible assumption) | (with_reducible refine below_drewN ?_ _) | (with_reducible refine below_after (by assumption) ?_ ?_) | (with_reducible refine Below.drew ?_) | (with_reducible refine Below.alloc ?_ ?_ _) | (with_reducible refine Below.setCell ?_ ?_ _) | omega | (simp; omega) | (simp; done))), by simp; omega, (World.cell?_alloc_past _ _ _ hz1).trans Q0.out, (World.cell?_alloc_past _ _ _ hz1).trans Q1.out, hE'.out⟩
        case measure => simp [intOf]; omega
      · have h1 : ¬ x.kind = 1 := by assumption
        have hE' := Lib.hid (upto_succ hE.out (by rw [HX.out, decide_eq_false h1]; simp))
        clear hE HX
        go_roundw
        case rel => exact ⟨k + 1, by omega, by go_num, by (repeat' (first | (with_reducible exact Below.refl _ _) | (with_reducible assumption) | (with_reducible refine below_drewN ?_ _) | (with_reducible refine below_after (by assumption) ?_ ?_) | (with_reducible refine Below.drew ?_) | (with_reducible refine Below.alloc ?_ ?_ _) | (with_reducible refine Below.setCell ?_ ?_ _) | omega | (simp; omega) | (simp; done))), by simp; omega, (World.cell?_alloc_past _ _ _ hz1).trans Q0.out, (World.cell?_alloc_past _ _ _ hz1).trans Q1.out, hE'.out⟩
        case measure => simp [intOf]; omega
    · go_wp2
      go_ret
      exact ⟨ret_bool (cablesOk_yes (fun i hi => hE.out i (by omega))).symm, hB⟩

/-! The rules of CheckState: each compares the lengths of some lists; the last one looks at the cables. -/
def linkLists (p : Plt) (s : Stt) : Bool := [s.closed, s.locked, s.badLink].all fun x => decide ((x.n : Int) = p.ln)
def sourceLists (p : Plt) (s : Stt) : Bool := [s.on, s.badSource].all fun x => decide ((x.n : Int) = p.sn)
def busLists (p : Plt) (s : Stt) : Bool := [s.earthed, s.badBus].all fun x => decide ((x.n : Int) = p.buses)
theorem ruleLinkLists_any (p : Plt) (s : Stt) (bp bs : Nat) (w : World) (hn : p.ln ≤ 9223372036854775807) (c0 : w.cell? ⟨bp, 2, none⟩ = some (.slice p.lA p.ln p.lc))
    (s0 : w.cell? ⟨bs, 0, none⟩ = some (.slice s.closed.A s.closed.n s.closed.c)) (s1 : w.cell? ⟨bs, 1, none⟩ = some (.slice s.locked.A s.locked.n s.locked.c)) (s2 : w.cell? ⟨bs, 2, none⟩ = some (.slice s.badLink.A s.badLink.n s.badLink.c)) :
    Calls Tryz.prog 102 #[.pointer (some ⟨bp, 0, none⟩), .pointer (some ⟨bs, 0, none⟩)] w fun e w' => e = .returned (.bool (linkLists p s)) ∧ Below w.heap.size w w' := by
  have C := Lib.hid ((lengths_any (some ⟨w.heap.size, 0, none⟩) 3 3 [s.closed, s.locked, s.badLink] p.ln _ ((Rd.lit w 27 encBs 1 [s.closed, s.locked, s.badLink] (fun _ _ => rfl)).more (by simp)) (by omega)).mono fun e w' (h : e = .returned (.bool (linkLists p s)) ∧ _) => h)
  go_enter Tryz.func102, Tryz.ntmps102
  go_wp2_with (go_at_call 103; refine C.out.mono ?_; rintro e w' ⟨rfl, hB⟩)
  go_ret
  exact ⟨rfl, (Below.alloc (Below.refl _ _) (Nat.le_refl _) _).trans (hB.mono (by simp))⟩
theorem ruleSourceLists_any (p : Plt) (s : Stt) (bp bs : Nat) (w : World) (hn : p.sn ≤ 9223372036854775807) (c0 : w.cell? ⟨bp, 1, none⟩ = some (.slice p.sA p.sn p.sc))
    (s0 : w.cell? ⟨bs, 3, none⟩ = some (.slice s.on.A s.on.n s.on.c)) (s1 : w.cell? ⟨bs, 4, none⟩ = some (.slice s.badSource.A s.badSource.n s.badSource.c)) :
    Calls Tryz.prog 104 #[.pointer (some ⟨bp, 0, none⟩), .pointer (some ⟨bs, 0, none⟩)] w fun e w' => e = .returned (.bool (sourceLists p s)) ∧ Below w.heap.size w w' := by
  have C := Lib.hid ((lengths_any (some ⟨w.heap.size, 0, none⟩) 2 2 [s.on, s.badSource] p.sn _ ((Rd.lit w 27 encBs 1 [s.on, s.badSource] (fun _ _ => rfl)).more (by simp)) (by omega)).mono fun e w' (h : e = .returned (.bool (sourceLists p s)) ∧ _) => h)
  go_enter Tryz.func104, Tryz.ntmps104
  go_wp2_with (go_at_call 103; refine C.out.mono ?_; rintro e w' ⟨rfl, hB⟩)
  go_ret
  exact ⟨rfl, (Below.alloc (Below.refl _ _) (Nat.le_refl _) _).trans (hB.mono (by simp))⟩
theorem ruleBusLists_any (p : Plt) (s : Stt) (bp bs : Nat) (w : World) (c0 : w.cell? ⟨bp, 0, none⟩ = some (.int .i64 p.buses))
    (s0 : w.cell? ⟨bs, 5, none⟩ = some (.slice s.earthed.A s.earthed.n s.earthed.c)) (s1 : w.cell? ⟨bs, 6, none⟩ = some (.slice s.badBus.A s.badBus.n s.badBus.c)) :
    Calls Tryz.prog 105 #[.pointer (some ⟨bp, 0, none⟩), .pointer (some ⟨bs, 0, none⟩)] w fun e w' => e = .returned (.bool (busLists p s)) ∧ Below w.heap.size w w' := by
  have C := Lib.hid ((lengths_any (some ⟨w.heap.size, 0, none⟩) 2 2 [s.earthed, s.badBus] p.buses _ ((Rd.lit w 27 encBs 1 [s.earthed, s.badBus] (fun _ _ => rfl)).more (by simp)) (by omega)).mono fun e w' (h : e = .returned (.bool (busLists p s)) ∧ _) => h)
  go_enter Tryz.func105, Tryz.ntmps105
  go_wp2_with (go_at_call 103; refine C.out.mono ?_; rintro e w' ⟨rfl, hB⟩)
  go_ret
  exact ⟨rfl, (Below.alloc (Below.refl _ _) (Nat.le_refl _) _).trans (hB.mono (by simp))⟩
/-- The cells of a plant and of a state in the variables that a closure has captured. -/
def pltCells (b : Nat) (p : Plt) : List (Nat × Nat × Value) := [(b, 0, .int .i64 p.buses), (b, 1, .slice p.sA p.sn p.sc), (b, 2, .slice p.lA p.ln p.lc), (b, 3, .slice p.rA p.rn p.rc)]
def bsCell (b i : Nat) (x : Bs) : Nat × Nat × Value := (b, i, .slice x.A x.n x.c)
def sttCells (b : Nat) (s : Stt) : List (Nat × Nat × Value) := [bsCell b 0 s.closed, bsCell b 1 s.locked, bsCell b 2 s.badLink, bsCell b 3 s.on, bsCell b 4 s.badSource, bsCell b 5 s.earthed, bsCell b 6 s.badBus]
theorem ruleCables_any (p : Plt) (s : Stt) (bp bs : Nat) (w : World) (hp : PltIn w w.heap.size p) (hs : SttIn w w.heap.size s) (h1 : s.closed.n = p.ln) (h2 : s.locked.n = p.ln)
    (hP : Has w (pltCells bp p)) (hS : Has w (sttCells bs s)) :
    Calls Tryz.prog 106 #[.pointer (some ⟨bp, 0, none⟩), .pointer (some ⟨bs, 0, none⟩)] w fun e w' => e = .returned (.bool (cablesOk p s)) ∧ Below w.heap.size w w' := by
  have C := Lib.hid (cablesRest_any p s w hp hs h1 h2)
  clear hp hs h1 h2
  unfold Plt.val Stt.val at C
  obtain ⟨-, p0, hP⟩ := hP.head
  obtain ⟨-, p1, hP⟩ := hP.head
  obtain ⟨-, p2, hP⟩ := hP.head
  obtain ⟨-, p3, hP⟩ := hP.head
  obtain ⟨-, s0, hS⟩ := hS.head
  obtain ⟨-, s1, hS⟩ := hS.head
  obtain ⟨-, s2, hS⟩ := hS.head
  obtain ⟨-, s3, hS⟩ := hS.head
  obtain ⟨-, s4, hS⟩ := hS.head
  obtain ⟨-, s5, hS⟩ := hS.head
  obtain ⟨-, s6, hS⟩ := hS.head
  clear hP hS
  go_enter Tryz.func106, Tryz.ntmps106
  go_wp2_with (go_at_call 107; refine C.out.mono ?_; rintro e w' ⟨rfl, hB⟩)
  go_ret
  exact ⟨rfl, hB⟩
end Go.Proofs.YtcnmfblbfpcghaaGreatDoor
