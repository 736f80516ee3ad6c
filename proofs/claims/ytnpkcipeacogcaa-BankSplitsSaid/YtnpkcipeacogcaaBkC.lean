/- bank: serve. -/
import Derived.Test.YtnpkcipeacogcaaBkB
import Derived.Test.YtnpkcipeacogcaaFreeA

set_option linter.unusedSimpArgs false
set_option linter.unusedVariables false
namespace Go.Proofs.Ytnpkcipeacogcaa
open Go.RowKit

def Adr.mineX (a : Adr) (b : Nat) : Prop := (0 < a.nc ∧ b = a.bc) ∨ (0 < a.ne ∧ b = a.be)
theorem Adr.mineX_of_E {a : Adr} (b : Nat) (h : a.mineE b) : a.mineX b := Or.inr h
theorem Adr.mine_of_X {a : Adr} (b : Nat) (h : a.mineX b) : a.mine b := Or.inr h
/-- While a battery is charged: nothing drawn; drawn; stored. -/
def SrvR (A : Adr) (P0 : Ply) (j : Nat) (c : Cel) (r d : Int) (W0 W : World) (γ : Nat → Nat) : Prop :=
  Keep A.mineX W0 W ∧ ((γ 0 = 0 ∧ PlyIn W A P0) ∨ (γ 0 = 1 ∧ PlyIn W A { P0 with es := (drawL r P0.es).1 }) ∨ (γ 0 = 2 ∧ PlyIn W A { P0 with es := (drawL r P0.es).1, cs := P0.cs.set j ⟨c.bat, c.held + d⟩ }))
def srvPsi : Nat → World → (Nat → Nat) → Prop
  | 17, _, γ => γ 0 = 0
  | _, _, γ => γ 0 ≠ 2
def srvPhi (bp bc nc cc j : Nat) (c : Cel) (r d : Int) : Nat → Value → World → (Nat → Nat) → Prop
  | 0, v, _, _ => v = .pointer (some ⟨bp, 0, none⟩)
  | 1, v, _, _ => v = .pointer (some ⟨bp, 0, none⟩)
  | 2, v, _, _ => v = .pointer (some ⟨bp, 0, none⟩)
  | 3, v, _, _ => v = .slice (some ⟨bc, 0, none⟩) nc cc
  | 4, v, _, _ => v = .int .i64 j
  | 5, v, _, _ => v = .pointer (some ⟨bc, j * 5, none⟩)
  | 6, v, _, _ => v = .pointer (some ⟨bc, j * 5 + 4, none⟩)
  | 7, v, _, _ => v = .int .i64 c.held
  | 8, v, _, _ => v = .pointer (some ⟨bp, 0, none⟩)
  | 9, v, _, _ => v = .pointer (some ⟨bp, 0, none⟩)
  | 10, v, _, _ => v = .pointer (some ⟨bp, 0, none⟩)
  | 11, v, _, _ => v = .pointer (some ⟨bp, 0, none⟩)
  | 12, v, _, _ => v = .slice (some ⟨bc, 0, none⟩) nc cc
  | 13, v, _, _ => v = .int .i64 j
  | 14, v, _, _ => v = .pointer (some ⟨bc, j * 5, none⟩)
  | 15, v, _, _ => v = c.val
  | 16, v, _, _ => v = .int .i64 r
  | 18, v, _, _ => v = .int .i64 (c.held + d)
  | 19, v, _, _ => v = .pointer (some ⟨bc, j * 5, none⟩)
  | 20, v, _, _ => v = .pointer (some ⟨bc, j * 5 + 4, none⟩)
  | 17, v, _, γ => v = .int .i64 d ∧ γ 0 ≠ 0
  | 21, _, _, γ => γ 0 = 2
  | _, _, _, _ => True

section
variable {A : Adr} {P0 : Ply} {j i : Nat} {c : Cel} {r d : Int} {W0 W W' : World} {γ : Nat → Nat}
theorem srv_begin (h : PlyIn W A P0) : SrvR A P0 j c r d W W.drew (fun _ => 0) := ⟨(Keep.refl _ _).drew, Or.inl ⟨rfl, h.drew⟩⟩
theorem srvPsi_0 : srvPsi i W (fun _ => 0) := by unfold srvPsi; split <;> simp
theorem srvPsi_1 (h : i ≠ 17) : srvPsi i W (fun _ => 1) := by
  unfold srvPsi
  split
  · exact absurd rfl h
  · decide
theorem srv_head (h : SrvR A P0 j c r d W0 W γ) : A.bp < W.heap.size ∧ W.cell? ⟨A.bp, 0, none⟩ = some (.slice A.cA A.nc A.cc) := by
  rcases h.2 with ⟨_, h⟩ | ⟨_, h⟩ | ⟨_, h⟩ <;> exact ⟨h.head.1, h.head.2.1⟩
theorem srv_cel (h : SrvR A P0 j c r d W0 W γ) (h2 : γ 0 ≠ 2) (hx : P0.cs[j]? = some c) : A.bc < W.heap.size ∧ W.cell? ⟨A.bc, j * 5, none⟩ = some (.int .i64 c.bat.energy) ∧ W.cell? ⟨A.bc, j * 5 + 1, none⟩ = some (.int .i64 c.bat.full) ∧ W.cell? ⟨A.bc, j * 5 + 2, none⟩ = some (.int .i64 c.bat.power) ∧ W.cell? ⟨A.bc, j * 5 + 3, none⟩ = some (.int .i64 c.bat.charge) ∧ W.cell? ⟨A.bc, j * 5 + 4, none⟩ = some (.int .i64 c.held) := by
  rcases h.2 with ⟨_, h⟩ | ⟨_, h⟩ | ⟨e, h⟩
  · obtain ⟨_, _, h1, _, h2⟩ := h.cel hx; exact ⟨h1, h2⟩
  · obtain ⟨_, _, h1, _, h2⟩ := h.cel (c := c) hx; exact ⟨h1, h2⟩
  · exact absurd e h2
theorem srv_next (h : SrvR A P0 j c r d W0 W γ) (hb : Below W.heap.size W W') : SrvR A P0 j c r d W0 W' γ := by
  refine ⟨h.1.trans (Keep.of_below hb), ?_⟩
  rcases h.2 with ⟨e, h⟩ | ⟨e, h⟩ | ⟨e, h⟩
  · exact Or.inl ⟨e, h.next hb⟩
  · exact Or.inr (Or.inl ⟨e, h.next hb⟩)
  · exact Or.inr (Or.inr ⟨e, h.next hb⟩)
theorem srv_0 (h : SrvR A P0 j c r d W0 W γ) (h0 : γ 0 = 0) : PlyIn W A P0 := by
  rcases h.2 with ⟨e, h⟩ | ⟨e, h⟩ | ⟨e, h⟩
  · exact h
  · omega
  · omega
theorem srv_draw (h : SrvR A P0 j c r d W0 W γ) (hp : PlyIn W' A { P0 with es := (drawL r P0.es).1 }) (hk : Keep A.mineE W W') : SrvR A P0 j c r d W0 W' (fun _ => 1) :=
  ⟨h.1.trans (hk.mono Adr.mineX_of_E), Or.inr (Or.inl ⟨rfl, hp⟩)⟩
theorem srv_is1 (h : SrvR A P0 j c r d W0 W γ) (h2 : γ 0 ≠ 2) (h0 : γ 0 ≠ 0) : γ 0 = 1 := by
  rcases h.2 with ⟨e, _⟩ | ⟨e, _⟩ | ⟨e, _⟩ <;> omega
theorem srv_last (h : SrvR A P0 j c r d W0 W γ) (h2 : γ 0 ≠ 2) (hx : P0.cs[j]? = some c) : A.bc < W.heap.size ∧ W.cell? ⟨A.bc, j * 5 + 4, none⟩ = some (.int .i64 c.held) ∧ W.frozen? ⟨A.bc, j * 5 + 4, none⟩ = false := by
  rcases h.2 with ⟨_, h⟩ | ⟨_, h⟩ | ⟨e, h⟩
  · obtain ⟨_, _, h1, h2, _, _, _, _, h3⟩ := h.cel hx; exact ⟨h1, h3, h2 _⟩
  · obtain ⟨_, _, h1, h2, _, _, _, _, h3⟩ := h.cel (c := c) hx; exact ⟨h1, h3, h2 _⟩
  · exact absurd e h2
theorem srv_store (h : SrvR A P0 j c r d W0 W γ) (h1 : γ 0 = 1) (hx : P0.cs[j]? = some c) : SrvR A P0 j c r d W0 (W.setCell ⟨A.bc, j * 5 + 4, none⟩ (.int .i64 (c.held + d))) (fun _ => 2) := by
  rcases h.2 with ⟨e, _⟩ | ⟨_, hp⟩ | ⟨e, _⟩
  · omega
  · have hn : 0 < A.nc := by have := (hp.cel (c := c) hx).1; omega
    exact ⟨h.1.setCell (Or.inl ⟨hn, rfl⟩) _, Or.inr (Or.inr ⟨rfl, PlyIn.setC (j := 4) (c' := ⟨c.bat, c.held + d⟩) hp (c := c) hx (by omega) rfl⟩)⟩
  · omega
theorem srv_end (h : SrvR A P0 j c r d W0 W γ) (h1 : γ 0 = 2) : Keep A.mineX W0 W ∧ PlyIn W A { P0 with es := (drawL r P0.es).1, cs := P0.cs.set j ⟨c.bat, c.held + d⟩ } := by
  rcases h.2 with ⟨e, _⟩ | ⟨e, _⟩ | ⟨_, hp⟩
  · omega
  · omega
  · exact ⟨h.1, hp⟩
theorem srvPhi_1 {bp bc nc cc : Nat} {v : Value} (h0 : γ 0 = 0) (hi : i ≠ 17) (h : srvPhi bp bc nc cc j c r d i v W γ) : srvPhi bp bc nc cc j c r d i v W' (fun _ => 1) := by
  unfold srvPhi at h ⊢
  split at h <;> first | exact h | exact absurd rfl hi | (exfalso; omega) | trivial
theorem srvPhi_w {bp bc nc cc : Nat} {v : Value} (h : srvPhi bp bc nc cc j c r d i v W γ) : srvPhi bp bc nc cc j c r d i v W' γ := by
  unfold srvPhi at h ⊢
  split at h <;> first | exact h | trivial
theorem srvPsi_w (h : srvPsi i W γ) : srvPsi i W' γ := by
  unfold srvPsi at h ⊢
  split at h <;> exact h
theorem srvPhi_2 {bp bc nc cc : Nat} {v : Value} (hi : i ≠ 21) (h : srvPhi bp bc nc cc j c r d i v W γ) : srvPhi bp bc nc cc j c r d i v W' (fun _ => 2) := by
  unfold srvPhi at h ⊢
  split at h <;> first | exact h | exact absurd rfl hi | exact ⟨h.1, by decide⟩ | trivial
end
theorem give_step {wr : World} {a : Adr} {q : Ply} {cs : List Cel} {n : Int} {k : Nat} {c : Cel} {g part : Int} (hP : PlyIn wr a { q with cs := accTo giveF n cs k }) (hx : cs[k]? = some c) (hg : accSt giveF n cs k = g) (hpart : part = min c.able g) :
    PlyIn (wr.setCell ⟨a.bc, k * 5 + 4, none⟩ (.int .i64 (c.held - part))) a { q with cs := accTo giveF n cs (k + 1) } := by
  have h1 := PlyIn.setC (j := 4) (c' := ⟨c.bat, c.held - part⟩) (u := .int .i64 (c.held - part)) hP (accTo_at hx) (by omega) rfl
  rw [accTo_succ hx, hg]
  simp only [giveF, ← hpart]
  exact h1
theorem giveSt_ok {n : Int} {cs : List Cel} (hn : 0 ≤ n) (h : ∀ c ∈ cs, CelOk c) (k : Nat) : 0 ≤ accSt giveF n cs k ∧ accSt giveF n cs k ≤ n :=
  (giveL_ok hn (fun c hc => h c (List.mem_of_mem_take hc)) : _ ∧ 0 ≤ (giveL n (cs.take k)).2 ∧ (giveL n (cs.take k)).2 ≤ n).2
theorem chargeSt_ok {B : Int} {es : List Eng} {cs : List Cel} (he : ∀ e ∈ es, EngOk B e) (h : ∀ c ∈ cs, CelOk c) (k : Nat) : ∀ e ∈ accSt chargeF es cs k, EngOk B e :=
  (chargeL_ok he (fun c hc => h c (List.mem_of_mem_take hc)) : _ ∧ ∀ e ∈ (chargeL es (cs.take k)).2, EngOk B e).2
set_option maxRecDepth 100000 in
set_option maxHeartbeats 4000000 in
theorem serve_any (a : Adr) (p : Ply) (x B : Int) (w : World) (hp : PlyIn w a p) (he : ∀ e ∈ p.es, EngOk B e) (hc : ∀ c ∈ p.cs, CelOk c) (hB : B ≤ 1000000000000) (h0 : 0 ≤ x) (h1 : x ≤ 1000000) (hs0 : 0 ≤ p.served) (hs1 : p.served ≤ 1000000000000) :
    Calls Try.prog 46 #[a.ptr, .int .i64 x] w fun e w' => e = .returned (.int .i64 (leftOf p x)) ∧ PlyIn w' a (serveP p x) ∧ Keep a.mine w w' := by
  obtain ⟨de, d0, d1⟩ := drawL_ok (m := x) h0 he
  have KA := Lib.hid (draw_any a p x B w hp he hB h0 (by omega))
  have hlc := hp.hc
  have HM := Lib.hid hp.nc
  have HC := Lib.hid hc
  have HD := Lib.hid de
  have hn0 : 0 ≤ x - (drawL x p.es).2 := by omega
  obtain ⟨nd, hnd⟩ : ∃ z, z = x - (drawL x p.es).2 := ⟨_, rfl⟩
  obtain ⟨es1, hes1⟩ : ∃ z, z = (drawL x p.es).1 := ⟨_, rfl⟩
  obtain ⟨dr, hdr⟩ : ∃ z, z = (drawL x p.es).2 := ⟨_, rfl⟩
  rw [← hdr] at hnd hn0 d0 d1
  have HND : Hid (nd = x - dr) := Lib.hid hnd
  have HNE : Hid (needOf p.es x = nd) := Lib.hid (by rw [needOf, ← hdr, hnd])
  have HES : Hid ((drawL x p.es).1 = es1) := Lib.hid hes1.symm
  rw [← hes1] at HD
  rw [← hdr, ← hes1] at KA
  have hn1 : nd ≤ x := by omega
  have hn2 : 0 ≤ nd := by omega
  clear hdr hes1 hnd hn0 de hp he hc
  obtain ⟨bp, bc, be, cA, eA, nc, cc, ne, ec⟩ := a
  unfold Adr.ptr at KA ⊢
  dsimp only at *
  go_enter Try.func46, Try.ntmps46
  go_wp2_with fail
  refine KA.out.mono ?_
  rintro e w1 ⟨rfl, hP1, hK1⟩
  have hK1 := Lib.hid (hK1.mono Adr.mineX_of_E)
  obtain ⟨z0, c0, c1, c2, c3, c4⟩ := hP1.head
  dsimp only at z0 c0 c1 c2 c3 c4
  have HP1 := Lib.hid hP1
  clear hP1 KA
  have eN : x - dr = nd := HND.out.symm
  go_wp2
  go_loopw [5, 19] (fun g i wr => ∃ k : Nat, k ≤ nc ∧ i = .int .i64 k ∧ g = .int .i64 (accSt giveF nd p.cs k) ∧ Hid (PlyIn wr ⟨bp, bc, be, cA, eA, nc, cc, ne, ec⟩ { p with es := es1, cs := accTo giveF nd p.cs k }) ∧ Hid (Keep (Adr.mineX ⟨bp, bc, be, cA, eA, nc, cc, ne, ec⟩) w wr)) (fun _ i _ => nc - (intOf i).toNat)
  case atStart => exact ⟨0, by omega, rfl, by rw [accSt_zero], by rw [accTo_zero]; exact HP1.out, hK1⟩
  case round =>
    clear eN
    obtain ⟨k, hk, rfl, rfl, hP, hK⟩ := hrel
    obtain ⟨z0, d0', _, _, s3, _⟩ := hP.out.head
    dsimp only at z0 d0' s3
    by_cases hlt : k < nc
    · obtain ⟨c, hx⟩ : ∃ c, p.cs[k]? = some c := ⟨_, List.getElem?_eq_getElem (by rw [HM.out]; exact hlt)⟩
      have hco := HC.out c (List.mem_of_getElem? hx)
      obtain ⟨a1, a2, a3⟩ := Cel.able_bd hco
      have a4 := hco.bat.p1
      have a5 := hco.bat.f1
      have a6 := hco.h1
      have K := Lib.hid (fun W => able_any c W hco)
      obtain ⟨t0, t1⟩ := giveSt_ok hn2 HC.out k
      obtain ⟨_, hA, zb, hf, x0, x1, x2, x3, x4⟩ := hP.out.cel (accTo_at hx)
      dsimp only at hA zb x0 x1 x2 x3 x4
      subst hA
      obtain ⟨g, hg⟩ : ∃ z, z = accSt giveF nd p.cs k := ⟨_, rfl⟩
      rw [← hg] at t0 t1 ⊢
      have HG := Lib.hid hg.symm
      have HX := Lib.hid hx
      have hk0 : (0 : Int) ≤ (k : Int) := by omega
      have hkn : (k : Int) < (nc : Int) := by omega
      clear hf hg hx
      unfold Cel.val at K
      obtain ⟨v, hv⟩ : ∃ z, z = c.able := ⟨_, rfl⟩
      rw [← hv] at K a1 a2 a3
      have HV := Lib.hid hv.symm
      clear hv hco
      go_wp2_with fail
      refine (K.out _).mono ?_
      rintro e w2 ⟨rfl, hB2⟩
      have hP2 := Lib.hid (hP.out.next hB2)
      have hK2 := Lib.hid (hK.out.trans (Keep.of_below hB2))
      obtain ⟨_, _, zb, hf, x0, x1, x2, x3, x4⟩ := hP2.out.cel (accTo_at HX.out)
      obtain ⟨z0, d0', _⟩ := hP2.out.head
      dsimp only at zb hf x0 x1 x2 x3 x4 z0 d0'
      have f4 := hf (k * 5 + 4)
      clear hB2 hf
      go_wp2
      all_goals
        go_roundw
        case rel =>
          refine ⟨k + 1, by omega, by go_num, ?_, give_step (q := { p with es := es1 }) hP2.out HX.out HG.out (by rw [HV.out]; first | omega | (split <;> omega)), hK2.out.setCell (Or.inl ⟨by dsimp only; omega, rfl⟩) _⟩
          rw [accSt_succ HX.out, HG.out]
          simp only [giveF, HV.out]
          go_num
        case measure => simp [intOf]; omega
    · obtain rfl : k = nc := by omega
      have e1 := accTo_end (f := giveF) nd p.cs
      have e2 := accSt_end (f := giveF) nd p.cs
      rw [HM.out] at e1 e2
      have hP' := hP.out
      rw [e1] at hP'
      rw [e2]
      obtain ⟨go, g0, g1⟩ := giveL_ok hn2 HC.out
      obtain ⟨cs1, hcs1⟩ : ∃ z, z = (giveL nd p.cs).1 := ⟨_, rfl⟩
      obtain ⟨lf, hlf⟩ : ∃ z, z = (giveL nd p.cs).2 := ⟨_, rfl⟩
      have hq1 : (accL giveF nd p.cs).1 = cs1 := hcs1.symm
      have hq2 : (accL giveF nd p.cs).2 = lf := hlf.symm
      rw [hq1] at hP'
      rw [hq2]
      rw [← hcs1] at go
      rw [← hlf] at g0 g1
      have HLF : Hid (leftOf p x = lf) := Lib.hid (by rw [leftOf, HNE.out, hlf])
      have HSV : Hid (serveP p x = ⟨(chargeL es1 cs1).1, (chargeL es1 cs1).2, p.dark, p.served + (x - lf), p.lacking⟩) := Lib.hid (by simp only [serveP, HLF.out, HNE.out, HES.out, hcs1])
      have HM1 : Hid (cs1.length = k) := Lib.hid (by rw [hcs1, giveL_length]; exact HM.out)
      have HC1 := Lib.hid go
      have HP2 := Lib.hid hP'
      clear e1 e2 hq1 hq2 hcs1 hlf go hP' hP
      obtain ⟨w2, hw2⟩ : ∃ z, z = wr := ⟨wr, rfl⟩
      subst hw2
      go_wp2
      go_loopw [53] (fun i wr => ∃ j : Nat, j ≤ k ∧ i = .int .i64 j ∧ Hid (PlyIn wr ⟨bp, bc, be, cA, eA, k, cc, ne, ec⟩ { p with es := accSt chargeF es1 cs1 j, cs := accTo chargeF es1 cs1 j }) ∧ Hid (Keep (Adr.mineX ⟨bp, bc, be, cA, eA, k, cc, ne, ec⟩) w wr)) (fun i _ => k - (intOf i).toNat)
      case atStart => exact ⟨0, by omega, rfl, by rw [accSt_zero, accTo_zero]; exact HP2.out, hK⟩
      case round =>
        obtain ⟨j, hj, rfl, hP, hK⟩ := hrel
        obtain ⟨z0, d0', _, _, s3, _⟩ := hP.out.head
        dsimp only at z0 d0' s3
        by_cases hlt : j < k
        · obtain ⟨c, hx⟩ : ∃ c, cs1[j]? = some c := ⟨_, List.getElem?_eq_getElem (by rw [HM1.out]; exact hlt)⟩
          have hco := HC1.out c (List.mem_of_getElem? hx)
          obtain ⟨a1, a2, a3⟩ := Cel.room_bd hco
          have a4 := hco.bat.c1
          have a5 := hco.bat.f1
          have a6 := hco.h1
          have a7 := hco.h0
          have hes := chargeSt_ok HD.out HC1.out j
          obtain ⟨_, b0, b1⟩ := drawL_ok a1 hes
          obtain ⟨P0, hP0⟩ : ∃ z : Ply, z = { p with es := accSt chargeF es1 cs1 j, cs := accTo chargeF es1 cs1 j } := ⟨_, rfl⟩
          have hx0 : P0.cs[j]? = some c := by rw [hP0]; exact accTo_at hx
          have hfin : Hid ({ P0 with es := (drawL c.room P0.es).1, cs := P0.cs.set j ⟨c.bat, c.held + (drawL c.room P0.es).2⟩ } = ({ p with es := accSt chargeF es1 cs1 (j + 1), cs := accTo chargeF es1 cs1 (j + 1) } : Ply)) := Lib.hid (by
            rw [hP0, accSt_succ hx, accTo_succ hx]
            simp only [chargeF])
          have KR := Lib.hid (fun W => room_any c W hco)
          have KD := Lib.hid (fun W (h : PlyIn W ⟨bp, bc, be, cA, eA, k, cc, ne, ec⟩ P0) => draw_any ⟨bp, bc, be, cA, eA, k, cc, ne, ec⟩ P0 c.room B W h (by rw [hP0]; exact hes) hB a1 (by omega))
          obtain ⟨_, hA, _⟩ := hP.out.cel (accTo_at hx)
          dsimp only at hA
          have hPj : Hid (PlyIn wr ⟨bp, bc, be, cA, eA, k, cc, ne, ec⟩ P0) := Lib.hid (by rw [hP0]; exact hP.out)
          have hde : (drawL c.room (accSt chargeF es1 cs1 j)).2 = (drawL c.room P0.es).2 := by rw [hP0]
          rw [hde] at b0 b1
          obtain ⟨r, hr⟩ : ∃ z, z = c.room := ⟨_, rfl⟩
          rw [← hr] at KR KD hfin b0 b1 a1 a2 a3
          obtain ⟨d, hd⟩ : ∃ z, z = (drawL r P0.es).2 := ⟨_, rfl⟩
          rw [← hd] at KD hfin b0 b1
          have HX := Lib.hid hx0
          subst hA
          have hk0 : (0 : Int) ≤ (j : Int) := by omega
          have hkn : (j : Int) < (k : Int) := by omega
          have e1 : -9223372036854775808 ≤ c.held + d := by omega
          have e2 : c.held + d ≤ 9223372036854775807 := by omega
          have e3 : IntKind.i64.wrap (c.held + d) = c.held + d := IntWalk.i64_in _ (by omega)
          have e4 : IntKind.i64.wrap (j : Int) = (j : Int) := IntWalk.i64_in _ (by omega)
          unfold Adr.ptr at KD
          dsimp only at KD
          clear hx hP hP0 hx0 hde hr hd hes hco
          go_wp2
          refine wp_region_free10 21 (by kernel_rfl) [some 56, some 57, some 58, some 59, some 60, some 61, some 62, some 63, some 64, some 65, some 66, some 67, some 68, some 69, some 70, some 71, some 72, some 73, some 74, some 75, some 76, none] [[], [0], [1], [2], [], [3, 4], [5], [6], [], [], [9], [10], [11], [], [12, 13], [14], [15], [8, 16, 16], [7, 17], [3, 4, 0, 1, 2, 3, 4, 5, 6, 7, 8, 9, 10, 11, 12, 13, 14, 15, 16, 17, 18], [19, 0, 1, 2, 3, 4, 5, 6, 7, 8, 9, 10, 11, 12, 13, 14, 15, 16, 17, 18], [20, 18, 17, 0, 1, 2, 3, 4, 5, 6, 7, 8, 9, 10, 11, 12, 13, 14, 15, 16, 17, 18]] [(0, .pointer (some ⟨bp, 0, none⟩)), (8, .int .i64 j)] (SrvR ⟨bp, bc, be, some ⟨bc, 0, none⟩, eA, k, cc, ne, ec⟩ P0 j c r d wr) (srvPhi bp bc k cc j c r d) (srvPsi) (by kernel_rfl) (by kernel_rfl) rfl (by kernel_rfl) ?_ ?_ ⟨fun _ => 0, srv_begin hPj.out, fun i _ => srvPsi_0⟩ ?_ ?_
          · intro z hz
            simp only [List.mem_cons, List.mem_nil_iff, or_false] at hz
            rcases hz with rfl | rfl
            all_goals exact ⟨by kernel_rfl, rfl⟩
          · intro i v W γ hi h
            rcases i with _ | _ | _ | _ | _ | _ | _ | _ | _ | _ | _ | _ | _ | _ | _ | _ | _ | _ | _ | _ | _ | _ | i
            all_goals first | exact h | (simp at hi)
          · refine ⟨?_, ?_, ?_, ?_, ?_, ?_, ?_, ?_, ?_, ?_, ?_, ?_, ?_, ?_, ?_, ?_, ?_, ?_, ?_, ?_, ?_, ?_, trivial⟩
            all_goals
              intro a W γ ev hcc hff hfx hR hψ hpre
              simp only [List.mem_cons, List.mem_nil_iff, or_false, forall_eq, forall_eq_or_imp] at hfx
              obtain ⟨f0, f1⟩ := hfx
              have HR := Lib.hid hR
              clear hR
              refine ⟨fun _ K hK => ?_, trivial⟩

            · clear hpre hψ
              go_simp
              exact hK _ _ γ HR.out (fun _ _ _ _ h => h) (fun _ _ _ h => h) rfl
            · have q0 : ev (.tmp 56) = _ := hpre 0 (by decide)
              clear hpre hψ
              go_simp
              exact hK _ _ γ HR.out (fun _ _ _ _ h => h) (fun _ _ _ h => h) rfl
            · have q0 : ev (.tmp 57) = _ := hpre 1 (by decide)
              clear hpre hψ
              go_simp
              exact hK _ _ γ HR.out (fun _ _ _ _ h => h) (fun _ _ _ h => h) rfl
            · have q0 : ev (.tmp 58) = _ := hpre 2 (by decide)
              have hc0 := srv_head HR.out
              clear hpre hψ
              go_simp
              exact hK _ _ γ HR.out (fun _ _ _ _ h => h) (fun _ _ _ h => h) rfl
            · clear hpre hψ
              go_simp
              exact hK _ _ γ HR.out (fun _ _ _ _ h => h) (fun _ _ _ h => h) rfl
            · have q0 : ev (.tmp 59) = _ := hpre 3 (by decide)
              have q1 : ev (.tmp 60) = _ := hpre 4 (by decide)
              clear hpre hψ
              go_simp
              exact hK _ _ γ HR.out (fun _ _ _ _ h => h) (fun _ _ _ h => h) rfl
            · have q0 : ev (.tmp 61) = _ := hpre 5 (by decide)
              clear hpre hψ
              go_simp
              exact hK _ _ γ HR.out (fun _ _ _ _ h => h) (fun _ _ _ h => h) rfl
            · have q0 : ev (.tmp 62) = _ := hpre 6 (by decide)
              have hP := srv_cel HR.out hψ HX.out
              obtain ⟨hm, x0, x1, x2, x3, x4⟩ := hP
              clear hpre hψ
              go_simp
              exact hK _ _ γ HR.out (fun _ _ _ _ h => h) (fun _ _ _ h => h) rfl
            · clear hpre hψ
              go_simp
              exact hK _ _ γ HR.out (fun _ _ _ _ h => h) (fun _ _ _ h => h) rfl
            · clear hpre hψ
              go_simp
              exact hK _ _ γ HR.out (fun _ _ _ _ h => h) (fun _ _ _ h => h) rfl
            · have q0 : ev (.tmp 65) = _ := hpre 9 (by decide)
              clear hpre hψ
              go_simp
              exact hK _ _ γ HR.out (fun _ _ _ _ h => h) (fun _ _ _ h => h) rfl
            · have q0 : ev (.tmp 66) = _ := hpre 10 (by decide)
              clear hpre hψ
              go_simp
              exact hK _ _ γ HR.out (fun _ _ _ _ h => h) (fun _ _ _ h => h) rfl
            · have q0 : ev (.tmp 67) = _ := hpre 11 (by decide)
              have hc0 := srv_head HR.out
              clear hpre hψ
              go_simp
              exact hK _ _ γ HR.out (fun _ _ _ _ h => h) (fun _ _ _ h => h) rfl
            · clear hpre hψ
              go_simp
              exact hK _ _ γ HR.out (fun _ _ _ _ h => h) (fun _ _ _ h => h) rfl
            · have q0 : ev (.tmp 68) = _ := hpre 12 (by decide)
              have q1 : ev (.tmp 69) = _ := hpre 13 (by decide)
              clear hpre hψ
              go_simp
              exact hK _ _ γ HR.out (fun _ _ _ _ h => h) (fun _ _ _ h => h) rfl
            · have q0 : ev (.tmp 70) = _ := hpre 14 (by decide)
              have hP := srv_cel HR.out hψ HX.out
              obtain ⟨hm, x0, x1, x2, x3, x4⟩ := hP
              clear hpre hψ
              go_simp
              exact hK _ _ γ HR.out (fun _ _ _ _ h => h) (fun _ _ _ h => h) rfl
            · have q0 : ev (.tmp 71) = _ := hpre 15 (by decide)
              have C := Lib.hid (KR.out W)
              go_simp
              refine C.out.mono ?_
              rintro e w5 ⟨rfl, hB5⟩
              exact hK _ w5 γ (srv_next HR.out hB5) (fun _ _ _ _ h => srvPhi_w h) (fun _ _ _ h => srvPsi_w h) rfl
            · have q0 : ev (.tmp 64) = _ := hpre 8 (by decide)
              have q1 : ev (.tmp 72) = _ := hpre 16 (by decide)
              have C := Lib.hid (KD.out W (srv_0 HR.out hψ))
              have hγ : γ 0 = 0 := hψ
              go_simp
              refine C.out.mono ?_
              rintro e w5 ⟨rfl, hP5, hK5⟩
              refine hK _ w5 (fun _ => 1) (srv_draw HR.out hP5 hK5) (fun j u h1 h2 h3 => ?_) (fun _ j h1 h2 => ?_) ⟨rfl, by decide⟩
              · exact srvPhi_1 hγ h2 h3
              · exact srvPsi_1 h1
            · have q0 : ev (.tmp 63) = _ := hpre 7 (by decide)
              have q1 : ev (.tmp 73) = _ := (hpre 17 (by decide)).1
              clear hpre hψ
              go_simp
              exact hK _ _ γ HR.out (fun _ _ _ _ h => h) (fun _ _ _ h => h) rfl
            · have q0 : ev (.tmp 59) = _ := hpre 3 (by decide)
              have q1 : ev (.tmp 60) = _ := hpre 4 (by decide)
              clear hpre hψ
              go_simp
              exact hK _ _ γ HR.out (fun _ _ _ _ h => h) (fun _ _ _ h => h) rfl
            · have q0 : ev (.tmp 75) = _ := hpre 19 (by decide)
              clear hpre hψ
              go_simp
              exact hK _ _ γ HR.out (fun _ _ _ _ h => h) (fun _ _ _ h => h) rfl
            · have q0 : ev (.tmp 76) = _ := hpre 20 (by decide)
              have q1 : ev (.tmp 74) = _ := hpre 18 (by decide)
              have hγ : γ 0 = 1 := srv_is1 HR.out hψ (hpre 17 (by decide)).2
              obtain ⟨zb, ch, fh⟩ := srv_last HR.out hψ HX.out
              go_simp
              refine hK undef _ (fun _ => 2) (srv_store HR.out hγ HX.out) (fun j u h1 h2 h3 => ?_) (fun h => absurd rfl h) rfl
              exact srvPhi_2 h2 h3
          · intro vs w' γ hvl hR hφ
            have qe : γ 0 = 2 := hφ 21 (by decide)
            have HR := Lib.hid hR
            clear hφ hR
            match vs, hvl with
            | [y0, y1, y2, y3, y4, y5, y6, y7, y8, y9, y10, y11, y12, y13, y14, y15, y16, y17, y18, y19, y20, y21], _ =>
            obtain ⟨hKe, hPe⟩ := srv_end HR.out qe
            have HPE := Lib.hid hPe
            have HKE := Lib.hid (hK.out.trans hKe)
            clear hKe hPe qe HR
            simp [putAll]
            go_wp2
            have hPF := HPE.out
            rw [hfin.out] at hPF
            exact ⟨⟨j + 1, by omega, by go_num, hPF, HKE⟩, by simp [intOf]; omega⟩
        · obtain rfl : j = k := by omega
          have e1 := accTo_end (f := chargeF) es1 cs1
          have e2 := accSt_end (f := chargeF) es1 cs1
          rw [HM1.out] at e1 e2
          have hP' := hP.out
          rw [e1, e2] at hP'
          clear e1 e2 hP
          have HP3 := Lib.hid hP'
          have f3 := HP3.out.blk.frozen 3
          dsimp only at f3
          clear hP'
          go_wp2
          go_ret
          refine ⟨ret_int HLF.out.symm, ?_, ?_⟩
          · rw [HSV.out]
            exact HP3.out.setP (j := 3) rfl rfl rfl
          · exact (hK.out.mono Adr.mine_of_X).setCell (Or.inl rfl) _
end Go.Proofs.Ytnpkcipeacogcaa
