/- bank: able, room, start, within, draw. -/
import Derived.Test.YtnpkcipeacogcaaBkM
import Derived.WalkLawsBesides
import Derived.BigGuardPart
import Derived.BigQuiet
import Derived.StillTailTactics

set_option linter.unusedSimpArgs false
set_option linter.unusedVariables false
namespace Go.Proofs.Ytnpkcipeacogcaa
open Go.RowKit

theorem able_any (c : Cel) (w : World) (h : CelOk c) : Calls Try.prog 58 #[c.val] w fun e w' => e = .returned (.int .i64 c.able) ∧ Below w.heap.size w w' := by
  obtain ⟨⟨be, bf, bp, bc⟩, hd⟩ := c
  clear h
  unfold Cel.val
  go_enter Try.func58, Try.ntmps58
  go_wp2
  all_goals
    go_ret
    exact ⟨ret_int (by simp only [Cel.able]; omega), by (repeat' (first | (with_reducible exact Below.refl _ _) | (with_reducible assumption) | (with_reducible refine below_drewN ?_ _) | (with_reducible refine below_after (by assumption) ?_ ?_) | (with_reducible refine Below.drew ?_) | (with_reducible refine Below.alloc ?_ ?_ _) | (with_reducible refine Below.setCell ?_ ?_ _) | omega | (simp; omega) | (simp; done)))⟩
theorem room_any (c : Cel) (w : World) (h : CelOk c) : Calls Try.prog 60 #[c.val] w fun e w' => e = .returned (.int .i64 c.room) ∧ Below w.heap.size w w' := by
  obtain ⟨⟨⟨g1, g2, g3, g4, g5, g6, g7⟩, h1, h2⟩⟩ := And.intro h trivial
  obtain ⟨⟨be, bf, bp, bc⟩, hd⟩ := c
  dsimp only at *
  have k1 : -1000000000000 ≤ bf - hd := by omega
  have k2 : bf - hd ≤ 1000000000000 := by omega
  clear h
  unfold Cel.val
  go_enter Try.func60, Try.ntmps60
  go_wp2
  all_goals
    go_ret
    exact ⟨ret_int (by simp only [Cel.room]; omega), by (repeat' (first | (with_reducible exact Below.refl _ _) | (with_reducible assumption) | (with_reducible refine below_drewN ?_ _) | (with_reducible refine below_after (by assumption) ?_ ?_) | (with_reducible refine Below.drew ?_) | (with_reducible refine Below.alloc ?_ ?_ _) | (with_reducible refine Below.setCell ?_ ?_ _) | omega | (simp; omega) | (simp; done)))⟩
theorem within_any (n a b : Int) (w : World) : Calls Try.prog 57 #[.int .i64 n, .int .i64 a, .int .i64 b] w fun e w' => e = .returned (.bool (decide (a ≤ n ∧ n ≤ b))) ∧ w' = w := by
  by_cases h1 : a ≤ n
  · have d1 : decide (a ≤ n) = true := decide_eq_true h1
    go_enter Try.func57, Try.ntmps57
    go_wp2
    go_ret
    exact ⟨ret_bool (by simp [h1]), rfl⟩
  · have d1 : decide (a ≤ n) = false := decide_eq_false h1
    go_enter Try.func57, Try.ntmps57
    go_wp2
    go_ret
    exact ⟨ret_bool (by simp [h1]), rfl⟩
theorem start_any (g : Gen) (f : Int) (w : World) (h : GenOk g) (h0 : 0 ≤ f) (h1 : f ≤ 5) : Calls Try.prog 43 #[g.val, .int .i64 f] w fun e w' => e = .returned (.int .i64 (startOf g f)) ∧ Below w.heap.size w w' := by
  obtain ⟨p, r, d, q, t⟩ := g
  obtain ⟨_, _, _, _, d0, d1, q0, q1, _, _⟩ := h
  dsimp only at *
  have m1 : 0 ≤ (f + 1) * d := Int.mul_nonneg (by omega) d0
  have m2 : (f + 1) * d ≤ 6 * 3600 := Int.mul_le_mul (by omega) d1 d0 (by omega)
  have m3 : 0 ≤ f * q := Int.mul_nonneg h0 q0
  have m4 : f * q ≤ 5 * 3600 := Int.mul_le_mul h1 q1 q0 (by omega)
  unfold Gen.val
  by_cases e : f = t
  · have e1 : (f == t) = true := by simp [e]
    have E := Lib.hid e
    clear e
    go_enter Try.func43, Try.ntmps43
    go_wp2
    go_ret
    exact ⟨ret_int (by simp [startOf, E.out]), by (repeat' (first | (with_reducible exact Below.refl _ _) | (with_reducible assumption) | (with_reducible refine below_drewN ?_ _) | (with_reducible refine below_after (by assumption) ?_ ?_) | (with_reducible refine Below.drew ?_) | (with_reducible refine Below.alloc ?_ ?_ _) | (with_reducible refine Below.setCell ?_ ?_ _) | omega | (simp; omega) | (simp; done)))⟩
  · have e1 : (f == t) = false := by simp [e]
    go_enter Try.func43, Try.ntmps43
    go_wp2
    go_ret
    exact ⟨ret_int (by simp [startOf, e]), by (repeat' (first | (with_reducible exact Below.refl _ _) | (with_reducible assumption) | (with_reducible refine below_drewN ?_ _) | (with_reducible refine below_after (by assumption) ?_ ?_) | (with_reducible refine Below.drew ?_) | (with_reducible refine Below.alloc ?_ ?_ _) | (with_reducible refine Below.setCell ?_ ?_ _) | omega | (simp; omega) | (simp; done)))⟩
theorem draw_step {wr : World} {a : Adr} {p : Ply} {m : Int} {k : Nat} {e : Eng} {g part : Int} (hP : PlyIn wr a { p with es := accTo (drawF m) 0 p.es k }) (hx : p.es[k]? = some e) (hg : accSt (drawF m) 0 p.es k = g) (hpart : part = min e.spare (m - g)) :
    PlyIn ((wr.setCell ⟨a.be, k * 8 + 7, none⟩ (.int .i64 (e.spare - part))).setCell ⟨a.be, k * 8 + 6, none⟩ (.int .i64 (e.burnt + part))) a { p with es := accTo (drawF m) 0 p.es (k + 1) } := by
  have h0 : (accTo (drawF m) 0 p.es k)[k]? = some e := accTo_at hx
  have h1 := PlyIn.setE (j := 7) (e' := ⟨e.gen, e.since, e.burnt, e.spare - part⟩) (u := .int .i64 (e.spare - part)) hP h0 (by omega) rfl
  have hk := (List.getElem?_eq_some_iff.1 h0).1
  have h2 := PlyIn.setE (i := k) (j := 6) (e := ⟨e.gen, e.since, e.burnt, e.spare - part⟩) (e' := ⟨e.gen, e.since, e.burnt + part, e.spare - part⟩) (u := .int .i64 (e.burnt + part)) h1 (by simp [List.getElem?_set, hk]) (by omega) rfl
  dsimp only at h2
  rw [List.set_set] at h2
  have e2 : accTo (drawF m) 0 p.es (k + 1) = (accTo (drawF m) 0 p.es k).set k ⟨e.gen, e.since, e.burnt + part, e.spare - part⟩ := by
    rw [accTo_succ hx, hg, hpart]
    rfl
  rw [e2]
  exact h2
/-- What a call changes that draws. -/
def Adr.mineE (a : Adr) (b : Nat) : Prop := 0 < a.ne ∧ b = a.be
set_option maxRecDepth 100000 in
theorem draw_any (a : Adr) (p : Ply) (m B : Int) (w : World) (hp : PlyIn w a p) (he : ∀ e ∈ p.es, EngOk B e) (hB : B ≤ 1000000000000) (h0 : 0 ≤ m) (h1 : m ≤ 1000000000000) :
    Calls Try.prog 59 #[a.ptr, .int .i64 m] w fun e w' => e = .returned (.int .i64 (drawL m p.es).2) ∧ PlyIn w' a { p with es := (drawL m p.es).1 } ∧ Keep a.mineE w w' := by
  have HP := Lib.hid hp
  have HE := Lib.hid he
  have hne := hp.ne
  have hle := hp.he
  obtain ⟨bp, bc, be, cA, eA, nc, cc, ne, ec⟩ := a
  obtain ⟨z0, c0, c1, c2, c3, c4⟩ := hp.head
  dsimp only at *
  clear hp he
  have HN := Lib.hid hne
  clear hne
  unfold Adr.ptr
  dsimp only
  go_enter Try.func59, Try.ntmps59
  go_wp2
  go_loopw [5, 14] (fun g i wr => ∃ k : Nat, k ≤ ne ∧ i = .int .i64 k ∧ g = .int .i64 (accSt (drawF m) 0 p.es k) ∧ Hid (PlyIn wr ⟨bp, bc, be, cA, eA, nc, cc, ne, ec⟩ { p with es := accTo (drawF m) 0 p.es k }) ∧ Hid (Keep (Adr.mineE ⟨bp, bc, be, cA, eA, nc, cc, ne, ec⟩) w wr)) (fun _ i _ => ne - (intOf i).toNat)
  case atStart => exact ⟨0, by omega, rfl, by rw [accSt_zero], by rw [accTo_zero]; exact HP.out, Keep.refl _ _⟩
  case round =>
    obtain ⟨k, hk, rfl, rfl, hP, hK⟩ := hrel
    by_cases hlt : k < ne
    · obtain ⟨e, hx⟩ : ∃ e, p.es[k]? = some e := ⟨_, List.getElem?_eq_getElem (by rw [HN.out]; exact hlt)⟩
      obtain ⟨g1, g2, g3, g4, g5, g6, g7⟩ := HE.out e (List.mem_of_getElem? hx)
      obtain ⟨s0, s1⟩ := drawSt_ok h0 HE.out k
      obtain ⟨_, hA, zb, hf, _, _, _, cb, cs⟩ := hP.out.eng (accTo_at hx)
      obtain ⟨z0, _, d1, _, _, _⟩ := hP.out.head
      dsimp only at hA zb hf cb cs d1 z0
      subst hA
      obtain ⟨g, hg⟩ : ∃ z, z = accSt (drawF m) 0 p.es k := ⟨_, rfl⟩
      rw [← hg] at s0 s1 ⊢
      have HG := Lib.hid hg.symm
      have HX := Lib.hid hx
      have hk0 : (0 : Int) ≤ (k : Int) := by omega
      have hkn : (k : Int) < (ne : Int) := by omega
      have f7 := hf (k * 8 + 7)
      have f6 := hf (k * 8 + 6)
      clear hf hg hx
      go_wp2
      all_goals
        go_roundw
        case rel => 
          refine ⟨k + 1, by omega, by go_num, ?_, draw_step hP.out HX.out HG.out (by omega), (hK.out.setCell ⟨by dsimp only; omega, rfl⟩ _).setCell ⟨by dsimp only; omega, rfl⟩ _⟩
          rw [accSt_succ HX.out, HG.out]
          simp only [drawF]
          go_num
        case measure => simp [intOf]; omega
    · obtain rfl : k = ne := by omega
      go_wp2
      go_ret
      have e1 := accSt_end (f := drawF m) 0 p.es
      have e2 := accTo_end (f := drawF m) 0 p.es
      rw [HN.out] at e1 e2
      refine ⟨ret_int e1, ?_, hK.out⟩
      have h := hP.out
      rw [e2] at h
      exact h
end Go.Proofs.Ytnpkcipeacogcaa
