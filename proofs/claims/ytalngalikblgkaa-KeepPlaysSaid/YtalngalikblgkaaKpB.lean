/- keep: Check where all is valid, after, isIn, keeps. -/
import Derived.Test.YtalngalikblgkaaKpA

set_option linter.unusedSimpArgs false
set_option linter.unusedVariables false
namespace Go.Proofs.Ytalngalikblgkaa
open Go.RowKit

/-- A game as a value. -/
def GA.cells (a : GA) (g : Gm) : List Value := [.int .i64 (g.S : Int), .int .i64 (g.C : Int), .int .i64 (g.H : Int), .slice a.nA a.nn a.nc, .slice a.gA a.gn a.gc]
set_option maxRecDepth 100000 in
set_option maxHeartbeats 2000000 in
theorem check_ok (nA gA : Option Addr) (nn nc gn gc : Nat) (g : Gm) (w : World) (hin : GmIn w w.heap.size ⟨nA, gA, nn, nc, gn, gc⟩ g) (ok : GmOk g) :
    Calls Try.prog 31 #[.agg #[.int .i64 (g.S : Int), .int .i64 (g.C : Int), .int .i64 (g.H : Int), .slice nA nn nc, .slice gA gn gc]] w fun e w' => e = .returned (.int .i64 0) ∧ Below w.heap.size w w' := by
  have hnl : nn = g.S * g.C * g.H := by rw [← ok.nl]; exact hin.next.1.symm
  have hgl : gn = g.S := by rw [← ok.gl]; exact hin.good.1.symm
  have hb1 : g.S * g.C ≤ 400 * 16 := Nat.mul_le_mul ok.s1 ok.c1
  have hb2 : g.S * g.C * g.H ≤ 400 * 16 * 16 := Nat.mul_le_mul hb1 ok.h1
  have hf : (inB 1 g.S 400 && inB 1 g.C 16 && inB 1 g.H 16) = true := by
    have := ok.s0; have := ok.s1; have := ok.c0; have := ok.c1; have := ok.h0; have := ok.h1
    rw [inB_yes (by omega), inB_yes (by omega), inB_yes (by omega)]
    rfl
  have K1 := Lib.hid (fun W => fits_any g.S g.C g.H (.slice nA nn nc) (.slice gA gn gc) W)
  rw [hf] at K1
  have hal : g.next.all (followB g.S) = true := by
    rw [List.all_eq_true]
    intro x hx
    have := ok.bd x hx
    exact inB_yes (by omega)
  have KF := Lib.hid (fun x W => canFollow_any g.S g.C g.H x (.slice nA nn nc) (.slice gA gn gc) W (by omega) (by have := ok.s1; omega) (by omega))
  have eg : ∀ args W, Sem.run Try.prog (callFunc 56 args) W = .ok (.enter 56 args) W := enters_of Try.func56 (by kernel_rfl) rfl
  have KA := Lib.hid (fun W (h : Below w.heap.size w W) => by
    have h1 := all_any nA nn nc g.next 56 (.agg #[.int .i64 (g.S : Int), .int .i64 (g.C : Int), .int .i64 (g.H : Int), .slice nA nn nc, .slice gA gn gc]) (followB g.S) W eg (hin.next.next h) (by omega) (fun x _ W' _ => KF.out x W')
    rw [hal] at h1
    exact h1)
  obtain ⟨S, C, H, next, good⟩ := g
  dsimp only at *
  obtain ⟨p1, hp1⟩ : ∃ z, z = S * C := ⟨_, rfl⟩
  rw [← hp1] at hnl hb1 hb2
  have w1 : IntKind.i64.wrap ((S : Int) * (C : Int)) = (p1 : Int) := by rw [← Int.natCast_mul, ← hp1]; exact IntWalk.i64_in _ (by omega)
  have w2 : IntKind.i64.wrap ((p1 : Int) * (H : Int)) = (nn : Int) := by rw [← Int.natCast_mul, ← hnl]; exact IntWalk.i64_in _ (by omega)
  obtain rfl : S = gn := hgl.symm
  clear hp1 hf hal hin ok hnl hb1 hb2 KF eg
  go_enter Try.func31, Try.ntmps31
  go_wp2_with fail
  refine (K1.out _).mono ?_
  rintro e w2 ⟨rfl, hB⟩
  have HB : Hid (Below w.heap.size w w2) := Lib.hid (((Below.refl w.heap.size w).alloc (Nat.le_refl _) _).trans (hB.mono (by simp)))
  have hcell : ∀ j : Nat, w2.cell? ⟨w.heap.size, j, none⟩ = (w.alloc (.cells #[.int .i64 (S : Int), .int .i64 (C : Int), .int .i64 (H : Int), .slice nA nn nc, .slice gA S gc] 25)).cell? ⟨w.heap.size, j, none⟩ := fun j => hB.cell (p := ⟨w.heap.size, j, none⟩) (by simp)
  have c0 : w2.cell? ⟨w.heap.size, 0, none⟩ = some (.int .i64 (S : Int)) := (hcell 0).trans (by simp [go_sem])
  have c1 : w2.cell? ⟨w.heap.size, 1, none⟩ = some (.int .i64 (C : Int)) := (hcell 1).trans (by simp [go_sem])
  have c2 : w2.cell? ⟨w.heap.size, 2, none⟩ = some (.int .i64 (H : Int)) := (hcell 2).trans (by simp [go_sem])
  have c3 : w2.cell? ⟨w.heap.size, 3, none⟩ = some (.slice nA nn nc) := (hcell 3).trans (by simp [go_sem])
  have c4 : w2.cell? ⟨w.heap.size, 4, none⟩ = some (.slice gA S gc) := (hcell 4).trans (by simp [go_sem])
  have zz : w.heap.size < w2.heap.size := by have := hB.size; simp at this; omega
  clear hB hcell
  go_wp2_with fail
  refine (KA.out _ HB.out).mono ?_
  rintro e w3 ⟨rfl, hB3⟩
  have HB3 := Lib.hid (below3 HB.out hB3 (Nat.le_refl _))
  clear hB3
  go_wp2
  go_ret
  exact ⟨rfl, HB3.out⟩
/-- What follows a state with a control. -/
def subL (g : Gm) (s u : Nat) : List Int := (g.next.drop ((s * g.C + u) * g.H)).take g.H
theorem sub_ix {g : Gm} (ok : GmOk g) {s u : Nat} (hs : s < g.S) (hu : u < g.C) : (s * g.C + u) * g.H + g.H ≤ g.next.length := by
  rw [ok.nl, ← Nat.succ_mul]
  refine Nat.mul_le_mul_right _ ?_
  have h1 : (s + 1) * g.C ≤ g.S * g.C := Nat.mul_le_mul_right _ hs
  rw [Nat.succ_mul] at h1
  omega
theorem sub_len {g : Gm} (ok : GmOk g) {s u : Nat} (hs : s < g.S) (hu : u < g.C) : (subL g s u).length = g.H := by
  have := sub_ix ok hs hu
  unfold subL
  rw [List.length_take, List.length_drop]
  omega
theorem sub_bd {g : Gm} (ok : GmOk g) {s u : Nat} {x : Int} (hx : x ∈ subL g s u) : -1 ≤ x ∧ x < g.S := ok.bd x (List.mem_of_mem_drop (List.mem_of_mem_take hx))
/-- A part of a reading. -/
theorem Rd.part {w : World} {B n : Nat} {b off : Nat} {l : List Int} (h : Rd w B 1 encI (some ⟨b, off, none⟩) n l) (i k : Nat) (hk : i + k ≤ n) : Rd w B 1 encI (some ⟨b, off + i, none⟩) k ((l.drop i).take k) := by
  refine ⟨by rw [List.length_take, List.length_drop, h.1]; omega, fun hk0 => ?_⟩
  obtain ⟨b', o', e, hb, hc⟩ := h.2 (by omega)
  cases e
  refine ⟨b, off + i, rfl, hb, fun j z hz q u hu => ?_⟩
  rw [List.getElem?_take] at hz
  split at hz
  · rw [List.getElem?_drop] at hz
    have := hc (i + j) z hz q u hu
    rw [show off + (i + j) * 1 + q = off + i + j * 1 + q by omega] at this
    exact this
  · cases hz
set_option maxRecDepth 100000 in
theorem after_any (nA gA : Option Addr) (nn nc gn gc : Nat) (g : Gm) (s u : Nat) (w : World) (hin : GmIn w w.heap.size ⟨nA, gA, nn, nc, gn, gc⟩ g) (ok : GmOk g) (hs : s < g.S) (hu : u < g.C) :
    Calls Try.prog 66 #[.agg #[.int .i64 (g.S : Int), .int .i64 (g.C : Int), .int .i64 (g.H : Int), .slice nA nn nc, .slice gA gn gc], .int .i64 (s : Int), .int .i64 (u : Int)] w fun e w' => ∃ A c, e = .returned (.slice A g.H c) ∧ Below w.heap.size w w' ∧ Rd w w.heap.size 1 encI A g.H (subL g s u) := by
  have hix := sub_ix ok hs hu
  have hnn : nn = g.next.length := hin.next.1.symm
  have hh0 := ok.h0
  obtain ⟨b, off, e1, hb, _⟩ := hin.next.2 (by show 0 < nn; omega)
  have e1 : nA = some ⟨b, off, none⟩ := e1
  subst e1
  have hcap : nn ≤ nc := hin.cap
  have HRD : Hid (Rd w w.heap.size 1 encI (some ⟨b, off + (s * g.C + u) * g.H, none⟩) g.H (subL g s u)) := Lib.hid (Rd.part hin.next _ _ (by show _ ≤ nn; omega))
  have h1 := ok.s1
  have h2 := ok.c1
  have h3 := ok.h1
  have hb1 : s * g.C ≤ 400 * 16 := Nat.mul_le_mul (by omega) h2
  have hb2 : (s * g.C + u) * g.H ≤ 6416 * 16 := Nat.mul_le_mul (by omega) h3
  obtain ⟨S, C, H, next, good⟩ := g
  dsimp only at *
  obtain ⟨f1, hf1⟩ : ∃ z, z = s * C := ⟨_, rfl⟩
  obtain ⟨f3, hf3⟩ : ∃ z, z = s * C + u := ⟨_, rfl⟩
  obtain ⟨f2, hf2⟩ : ∃ z, z = (s * C + u) * H := ⟨_, rfl⟩
  obtain ⟨f4, hf4⟩ : ∃ z, z = f2 + H := ⟨_, rfl⟩
  have w1 : IntKind.i64.wrap ((s : Int) * (C : Int)) = (f1 : Int) := by rw [← Int.natCast_mul, ← hf1]; exact IntWalk.i64_in _ (by omega)
  have w2 : IntKind.i64.wrap ((f1 : Int) + (u : Int)) = (f3 : Int) := by rw [← Int.natCast_add, hf1, ← hf3]; exact IntWalk.i64_in _ (by omega)
  have w3 : IntKind.i64.wrap ((f3 : Int) * (H : Int)) = (f2 : Int) := by rw [← Int.natCast_mul, hf3, ← hf2]; exact IntWalk.i64_in _ (by omega)
  have w4 : IntKind.i64.wrap ((f2 : Int) + (H : Int)) = (f4 : Int) := by rw [← Int.natCast_add, ← hf4]; exact IntWalk.i64_in _ (by omega)
  rw [← hf2] at hix HRD hb2
  rw [← hf4] at hix
  have q1 : f2 ≤ f4 := by omega
  have q2 : f4 ≤ nc := by omega
  have q3 : ¬ nc = f2 := by omega
  have q4 : f4 - f2 = H := by omega
  have q5 : (f2 : Int) ≤ (f4 : Int) := by omega
  have q6 : (f4 : Int) ≤ (nc : Int) := by omega
  clear hin ok hs hu hnn hcap h1 h2 h3 hb1 hf1 hf2 hf3 hf4 hb hix e1
  go_enter Try.func66, Try.ntmps66
  go_wp2
  go_ret
  exact ⟨_, _, rfl, by (repeat' (first | (with_reducible exact Below.refl _ _) | (with_reducible assumption) | (with_reducible refine below_drewN ?_ _) | (with_reducible refine below_after (by assumption) ?_ ?_) | (with_reducible refine Below.drew ?_) | (with_reducible refine Below.alloc ?_ ?_ _) | (with_reducible refine Below.setCell ?_ ?_ _) | omega | (simp; omega) | (simp; done))), HRD.out⟩
/-- A certificate in memory. -/
structure Ct where
  inn : List Bool
  ctl : List Int
  rnk : List Int
def isInB (inn : List Bool) (x : Int) : Bool := !(x == -1) && inn.getD x.toNat false
/-- What a certificate is made of, as a value. -/
structure CA where
  (iA cA rA : Option Addr)
  (inn ic cn cc rn rc : Nat)
set_option maxRecDepth 100000 in
theorem isIn_any (S C H : Int) (nA gA iA cA rA : Option Addr) (nn nc gn gc iN ic cn cc rn rc : Nat) (inn : List Bool) (x : Int) (w : World) (hI : Rd w w.heap.size 1 encB iA iN inn) (hx : -1 ≤ x ∧ x < iN) :
    Calls Try.prog 80 #[.agg #[.int .i64 S, .int .i64 C, .int .i64 H, .slice nA nn nc, .slice gA gn gc, .slice iA iN ic, .slice cA cn cc, .slice rA rn rc], .int .i64 x] w fun e w' => e = .returned (.bool (isInB inn x)) ∧ Below w.heap.size w w' := by
  by_cases h1 : x = -1
  · have h2 : isInB inn x = false := by rw [h1]; rfl
    rw [h2]
    subst h1
    clear hI hx h2
    go_enter Try.func80, Try.ntmps80
    go_wp2
    go_ret
    exact ⟨rfl, by (repeat' (first | (with_reducible exact Below.refl _ _) | (with_reducible assumption) | (with_reducible refine below_drewN ?_ _) | (with_reducible refine below_after (by assumption) ?_ ?_) | (with_reducible refine Below.drew ?_) | (with_reducible refine Below.alloc ?_ ?_ _) | (with_reducible refine Below.setCell ?_ ?_ _) | omega | (simp; omega) | (simp; done)))⟩
  · obtain ⟨k, rfl⟩ : ∃ k : Nat, x = (k : Int) := ⟨x.toNat, by omega⟩
    have hk : k < iN := by omega
    obtain ⟨b, off, y, e1, hb, hy, hcy⟩ := hI.at_ hk
    have h2 : isInB inn (k : Int) = y := by
      unfold isInB
      rw [beq_eq_false_iff_ne.2 h1, List.getD_eq_getElem?_getD, Int.toNat_natCast, hy]
      rfl
    rw [h2]
    have c0 : w.cell? ⟨b, off + k, none⟩ = some (.bool y) := by simpa [encB] using hcy 0 _ rfl
    have q1 : ((k : Int) == -1) = false := beq_eq_false_iff_ne.2 h1
    have q2 : (0 : Int) ≤ (k : Int) := by omega
    have q3 : (k : Int) < (iN : Int) := by omega
    subst e1
    clear hI hx hy hcy h1 h2
    go_enter Try.func80, Try.ntmps80
    go_wp2
    go_ret
    exact ⟨rfl, by (repeat' (first | (with_reducible exact Below.refl _ _) | (with_reducible assumption) | (with_reducible refine below_drewN ?_ _) | (with_reducible refine below_after (by assumption) ?_ ?_) | (with_reducible refine Below.drew ?_) | (with_reducible refine Below.alloc ?_ ?_ _) | (with_reducible refine Below.setCell ?_ ?_ _) | omega | (simp; omega) | (simp; done)))⟩
/-- Whether a control keeps a state. -/
def keepB (g : Gm) (inn : List Bool) (s u : Nat) : Bool := (subL g s u).all (isInB inn)
end Go.Proofs.Ytalngalikblgkaa
