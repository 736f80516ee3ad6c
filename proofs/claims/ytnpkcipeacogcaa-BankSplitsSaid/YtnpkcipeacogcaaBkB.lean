/- bank: ready, most. -/
import Derived.Test.YtnpkcipeacogcaaBkA

set_option linter.unusedSimpArgs false
set_option linter.unusedVariables false
namespace Go.Proofs.Ytnpkcipeacogcaa
open Go.RowKit

def readyF (t : Int) (_ : Unit) (e : Eng) : Eng × Unit := (e.ready t, ())
theorem accL_ready (t : Int) : ∀ (l : List Eng), (accL (readyF t) () l).1 = readyL t l := by
  intro l
  induction l with
  | nil => rfl
  | cons a l ih => simp only [accL, readyF, readyL, List.map_cons] at ih ⊢; rw [ih]
theorem ready_end (t : Int) (l : List Eng) : accTo (readyF t) () l l.length = readyL t l := (accTo_end () l).trans (accL_ready t l)
theorem ready_step {wr : World} {a : Adr} {p : Ply} {t : Int} {k : Nat} {e : Eng} {v : Int} (hP : PlyIn wr a { p with es := accTo (readyF t) () p.es k }) (hx : p.es[k]? = some e) (hv : v = spareAt t e.gen e.since) :
    PlyIn (wr.setCell ⟨a.be, k * 8 + 7, none⟩ (.int .i64 v)) a { p with es := accTo (readyF t) () p.es (k + 1) } := by
  have h1 := PlyIn.setE (j := 7) (e' := ⟨e.gen, e.since, e.burnt, v⟩) (u := .int .i64 v) hP (accTo_at hx) (by omega) rfl
  rw [accTo_succ hx, readyF, Eng.ready, ← hv]
  exact h1
theorem ready_step2 {wr : World} {a : Adr} {p : Ply} {t : Int} {k : Nat} {e : Eng} {v u : Int} (hP : PlyIn wr a { p with es := accTo (readyF t) () p.es k }) (hx : p.es[k]? = some e) (hv : v = spareAt t e.gen e.since) :
    PlyIn ((wr.setCell ⟨a.be, k * 8 + 7, none⟩ (.int .i64 u)).setCell ⟨a.be, k * 8 + 7, none⟩ (.int .i64 v)) a { p with es := accTo (readyF t) () p.es (k + 1) } := by
  have h0 : (accTo (readyF t) () p.es k)[k]? = some e := accTo_at hx
  have h1 := PlyIn.setE (j := 7) (e' := ⟨e.gen, e.since, e.burnt, u⟩) (u := .int .i64 u) hP h0 (by omega) rfl
  have hk := (List.getElem?_eq_some_iff.1 h0).1
  have h2 := PlyIn.setE (i := k) (j := 7) (e := ⟨e.gen, e.since, e.burnt, u⟩) (e' := ⟨e.gen, e.since, e.burnt, v⟩) (u := .int .i64 v) h1 (by simp [List.getElem?_set, hk]) (by omega) rfl
  dsimp only at h2
  rw [List.set_set] at h2
  rw [accTo_succ hx, readyF, Eng.ready, ← hv]
  exact h2
set_option maxRecDepth 100000 in
theorem ready_any (a : Adr) (p : Ply) (t B : Int) (w : World) (hp : PlyIn w a p) (he : ∀ e ∈ p.es, EngOk B e) (h0 : 0 ≤ t) (h1 : t ≤ 20000) :
    Calls Try.prog 44 #[a.ptr, .int .i64 t] w fun e w' => e = .returned (.tuple #[]) ∧ PlyIn w' a (readyP t p) ∧ Keep a.mineE w w' := by
  have HP := Lib.hid hp
  have HE := Lib.hid he
  have hne := hp.ne
  have hle := hp.he
  obtain ⟨bp, bc, be, cA, eA, nc, cc, ne, ec⟩ := a
  obtain ⟨z0, c0, c1, c2, c3, c4⟩ := hp.head
  dsimp only at *
  clear hp he
  have HN := Lib.hid hne
  clear hne
  unfold Adr.ptr
  dsimp only
  go_enter Try.func44, Try.ntmps44
  go_wp2
  go_loopw [11] (fun i wr => ∃ k : Nat, k ≤ ne ∧ i = .int .i64 k ∧ Hid (PlyIn wr ⟨bp, bc, be, cA, eA, nc, cc, ne, ec⟩ { p with es := accTo (readyF t) () p.es k }) ∧ Hid (Keep (Adr.mineE ⟨bp, bc, be, cA, eA, nc, cc, ne, ec⟩) w wr)) (fun i _ => ne - (intOf i).toNat)
  case atStart => exact ⟨0, by omega, rfl, by rw [accTo_zero]; exact HP.out, Keep.refl _ _⟩
  case round =>
    obtain ⟨k, hk, rfl, hP, hK⟩ := hrel
    by_cases hlt : k < ne
    · obtain ⟨e, hx⟩ : ∃ e, p.es[k]? = some e := ⟨_, List.getElem?_eq_getElem (by rw [HN.out]; exact hlt)⟩
      obtain ⟨⟨q1, q2, q3, q4, q5, q6, q7, q8, q9, q10⟩, g2, g3, g4, g5, g6, g7⟩ := HE.out e (List.mem_of_getElem? hx)
      obtain ⟨_, hA, zb, hf, ca, cr, cn, cb, cs⟩ := hP.out.eng (accTo_at hx)
      obtain ⟨z0, _, d1, _, _, _⟩ := hP.out.head
      dsimp only at hA zb hf cb cs d1 z0 ca cr cn
      subst hA
      have HX := Lib.hid hx
      have hk0 : (0 : Int) ≤ (k : Int) := by omega
      have hkn : (k : Int) < (ne : Int) := by omega
      have f7 := hf (k * 8 + 7)
      clear hf hx
      by_cases e1 : e.since = -1
      · have d1 : (e.since == -1) = true := by simp [e1]
        have d2 : (e.since != -1) = false := by simp [e1]
        have hv : Hid (0 = spareAt t e.gen e.since) := Lib.hid (by simp [spareAt, e1])
        have E1 := Lib.hid e1
        clear e1
        go_wp2
        go_roundw
        case rel => exact ⟨k + 1, by omega, by go_num, ready_step hP.out HX.out hv.out, hK.out.setCell ⟨by dsimp only; omega, rfl⟩ _⟩
        case measure => simp [intOf]; omega
      · have d1 : (e.since == -1) = false := by simp [e1]
        have d2 : (e.since != -1) = true := by simp [e1]
        by_cases e2 : t < e.since
        · have d3 : decide (e.since ≤ t) = false := by simp; omega
          have hv : Hid (0 = spareAt t e.gen e.since) := Lib.hid (by simp [spareAt, e1, e2])
          clear e1
          go_wp2
          go_roundw
          case rel => exact ⟨k + 1, by omega, by go_num, ready_step hP.out HX.out hv.out, hK.out.setCell ⟨by dsimp only; omega, rfl⟩ _⟩
          case measure => simp [intOf]; omega
        · have d3 : decide (e.since ≤ t) = true := by simp; omega
          have hv : Hid (min e.gen.power (e.gen.ramp * (t - e.since + 1)) = spareAt t e.gen e.since) := Lib.hid (by simp [spareAt, e1, e2])
          have x1 : 0 ≤ e.gen.ramp * (t - e.since + 1) := Int.mul_nonneg q3 (by omega)
          have x2 : e.gen.ramp * (t - e.since + 1) ≤ 1000000 * 20002 := Int.mul_le_mul q4 (by omega) (by omega) (by omega)
          have y1 : -1000000 ≤ t - e.since := by omega
          have y2 : t - e.since ≤ 1000000 := by omega
          have hIf : Hid ((if e.gen.ramp * (t - e.since + 1) < e.gen.power then e.gen.ramp * (t - e.since + 1) else e.gen.power) = min e.gen.power (e.gen.ramp * (t - e.since + 1))) := Lib.hid (by split <;> omega)
          clear e1
          go_wp2
          have h1 := PlyIn.setE (j := 7) (e' := ⟨e.gen, e.since, e.burnt, 0⟩) (u := .int .i64 0) hP.out (accTo_at HX.out) (by omega) rfl
          have hK1 : Hid (Keep (Adr.mineE ⟨bp, bc, be, cA, some ⟨be, 0, none⟩, nc, cc, ne, ec⟩) w (wr.setCell ⟨be, k * 8 + 7, none⟩ (.int .i64 0))) := Lib.hid (hK.out.setCell ⟨by dsimp only; omega, rfl⟩ _)
          have hs : Hid (PlyIn ((wr.setCell ⟨be, k * 8 + 7, none⟩ (.int .i64 0)).setCell ⟨be, k * 8 + 7, none⟩ (.int .i64 (min e.gen.power (e.gen.ramp * (t - e.since + 1))))) ⟨bp, bc, be, cA, some ⟨be, 0, none⟩, nc, cc, ne, ec⟩ { p with es := accTo (readyF t) () p.es (k + 1) }) := Lib.hid (ready_step2 hP.out HX.out hv.out)
          dsimp only at h1
          generalize hW : wr.setCell ⟨be, k * 8 + 7, none⟩ (.int .i64 0) = W1 at *
          have hi := (List.getElem?_eq_some_iff.1 (accTo_at (f := readyF t) (s := ()) HX.out)).1
          obtain ⟨_, _, zb1, hf1, ca1, cr1, cn1, cb1, cs1⟩ := h1.eng (i := k) (e := ⟨e.gen, e.since, e.burnt, 0⟩) (by simp [List.getElem?_set, hi])
          dsimp only at zb1 hf1 ca1 cr1 cn1 cb1 cs1
          have f71 := hf1 (k * 8 + 7)
          clear hW hf1 hi h1 ca cr cn cb cs f7
          go_still_tail 22, (by kernel_rfl)
          all_goals
            change wpList _ _ _ _ _ W1.drew
            go_wp2
            go_roundw
            case rel =>
              refine ⟨k + 1, by omega, by go_num, ?_, ?_⟩
              · rw [hIf.out]
                exact hs.out.drew
              · exact (hK1.out.setCell ⟨by dsimp only; omega, rfl⟩ _).drew
            case measure => simp [intOf]; omega
    · obtain rfl : k = ne := by omega
      go_wp2
      refine bodyPost_end (v := .tuple #[]) (results_none rfl _ _ _) rfl ⟨rfl, ?_, hK.out⟩
      have e2 := ready_end t p.es
      rw [HN.out] at e2
      have h := hP.out
      rw [e2] at h
      exact h
theorem sumS_take {l : List Eng} {k : Nat} {e : Eng} (h : l[k]? = some e) : sumS (l.take (k + 1)) = sumS (l.take k) + e.spare := by
  rw [take_at h, sumS_append]
  simp [sumS]
theorem sumA_take {l : List Cel} {k : Nat} {e : Cel} (h : l[k]? = some e) : sumA (l.take (k + 1)) = sumA (l.take k) + e.able := by
  rw [take_at h, sumA_append]
  simp [sumA]
theorem sumS_bd {B : Int} : ∀ {l : List Eng}, (∀ e ∈ l, EngOk B e) → 0 ≤ sumS l ∧ sumS l ≤ 1000000 * l.length := by
  intro l
  induction l with
  | nil => intro _; simp [sumS]
  | cons a l ih =>
    intro h
    have h1 := ih (fun e he => h e (List.mem_cons_of_mem _ he))
    have h2 := h a (List.mem_cons_self ..)
    have := h2.p0
    have := h2.p1
    simp only [sumS, List.length_cons]
    omega
theorem sumA_bd : ∀ {l : List Cel}, (∀ e ∈ l, CelOk e) → 0 ≤ sumA l ∧ sumA l ≤ 1000000 * l.length := by
  intro l
  induction l with
  | nil => intro _; simp [sumA]
  | cons a l ih =>
    intro h
    have h1 := ih (fun e he => h e (List.mem_cons_of_mem _ he))
    have h2 := h a (List.mem_cons_self ..)
    obtain ⟨k1, k2, k3⟩ := Cel.able_bd h2
    have := h2.bat.p1
    simp only [sumA, List.length_cons]
    omega
theorem sumS_take_bd {B : Int} {l : List Eng} (h : ∀ e ∈ l, EngOk B e) (hl : l.length ≤ 100) (k : Nat) : 0 ≤ sumS (l.take k) ∧ sumS (l.take k) ≤ 100000000 := by
  have := sumS_bd (l := l.take k) (fun e he => h e (List.mem_of_mem_take he))
  have h2 : (l.take k).length ≤ l.length := by rw [List.length_take]; omega
  omega
theorem sumA_take_bd {l : List Cel} (h : ∀ e ∈ l, CelOk e) (hl : l.length ≤ 100) (k : Nat) : 0 ≤ sumA (l.take k) ∧ sumA (l.take k) ≤ 100000000 := by
  have := sumA_bd (l := l.take k) (fun e he => h e (List.mem_of_mem_take he))
  have h2 : (l.take k).length ≤ l.length := by rw [List.length_take]; omega
  omega
set_option maxRecDepth 100000 in
theorem most_any (a : Adr) (p : Ply) (B : Int) (w : World) (hp : PlyIn w a p) (he : ∀ e ∈ p.es, EngOk B e) (hc : ∀ c ∈ p.cs, CelOk c) :
    Calls Try.prog 45 #[a.ptr] w fun e w' => e = .returned (.int .i64 (mostP p)) ∧ Below w.heap.size w w' := by
  have HP := Lib.hid hp
  have HE := Lib.hid he
  have HC := Lib.hid hc
  have hle := hp.he
  have hlc := hp.hc
  have HN := Lib.hid hp.ne
  have HM := Lib.hid hp.nc
  obtain ⟨bp, bc, be, cA, eA, nc, cc, ne, ec⟩ := a
  obtain ⟨z0, c0, c1, c2, c3, c4⟩ := hp.head
  dsimp only at *
  clear hp he hc
  unfold Adr.ptr
  dsimp only
  go_enter Try.func45, Try.ntmps45
  go_wp2
  go_loopw [3, 13] (fun g i wr => ∃ k : Nat, k ≤ ne ∧ i = .int .i64 k ∧ g = .int .i64 (sumS (p.es.take k)) ∧ Hid (Below w.heap.size w wr)) (fun _ i _ => ne - (intOf i).toNat)
  case atStart => exact ⟨0, by omega, rfl, rfl, Below.refl _ _⟩
  case round =>
    obtain ⟨k, hk, rfl, rfl, hB⟩ := hrel
    have hP := Lib.hid (HP.out.next hB.out)
    by_cases hlt : k < ne
    · obtain ⟨e, hx⟩ : ∃ e, p.es[k]? = some e := ⟨_, List.getElem?_eq_getElem (by rw [HN.out]; exact hlt)⟩
      obtain ⟨_, g2, g3, g4, g5, g6, g7⟩ := HE.out e (List.mem_of_getElem? hx)
      obtain ⟨s0, s1⟩ := sumS_take_bd HE.out (by rw [HN.out]; exact hle) k
      obtain ⟨_, hA, zb, hf, x0, x1, x2, x3, x4⟩ := hP.out.es.at_ Eng.enc_len hx |> fun h => (⟨hlt, h.1, h.2.1, h.2.2.1, h.2.2.2 0 _ rfl, h.2.2.2 1 _ rfl, h.2.2.2 2 _ rfl, h.2.2.2 3 _ rfl, h.2.2.2 4 _ rfl, h.2.2.2 5 _ rfl, h.2.2.2 6 _ rfl, h.2.2.2 7 _ rfl⟩ : _ ∧ _ ∧ _ ∧ _ ∧ _ ∧ _ ∧ _ ∧ _ ∧ _ ∧ _ ∧ _ ∧ _)
      obtain ⟨x4, x5, x6, x7⟩ := x4
      dsimp only at hA zb x0 x1 x2 x3 x4 x5 x6 x7
      rw [Nat.add_zero] at x0
      subst hA
      obtain ⟨g, hg⟩ : ∃ z, z = sumS (p.es.take k) := ⟨_, rfl⟩
      rw [← hg] at s0 s1 ⊢
      have HG := Lib.hid hg.symm
      have HX := Lib.hid hx
      have hk0 : (0 : Int) ≤ (k : Int) := by omega
      have hkn : (k : Int) < (ne : Int) := by omega
      clear hf hg hx
      go_wp2
      go_roundw
      case rel =>
        refine ⟨k + 1, by omega, by go_num, ?_, hB.out.alloc hB.out.size _⟩
        rw [sumS_take HX.out, HG.out]
      case measure => simp [intOf]; omega
    · obtain rfl : k = ne := by omega
      have e1 : sumS (p.es.take p.es.length) = sumS p.es := by rw [List.take_length]
      rw [HN.out] at e1
      obtain ⟨s0, s1⟩ := sumS_take_bd HE.out (by rw [HN.out]; exact hle) k
      rw [e1] at s0 s1 ⊢
      clear e1
      obtain ⟨z0, d0, d1, _, _, _⟩ := hP.out.head
      dsimp only at z0 d0 d1
      obtain ⟨S, hS⟩ : ∃ z, z = sumS p.es := ⟨_, rfl⟩
      have HS := Lib.hid hS.symm
      rw [← hS] at s0 s1 ⊢
      clear hS
      obtain ⟨w1, hw1⟩ : ∃ z, z = wr := ⟨wr, rfl⟩
      subst hw1
      go_wp2
      go_loopw [3, 27] (fun g i wr => ∃ j : Nat, j ≤ nc ∧ i = .int .i64 j ∧ g = .int .i64 (S + sumA (p.cs.take j)) ∧ Hid (Below w.heap.size w wr)) (fun _ i _ => nc - (intOf i).toNat)
      case atStart => exact ⟨0, by omega, rfl, by simp [sumA], hB⟩
      case round =>
        obtain ⟨j, hj, rfl, rfl, hB⟩ := hrel
        have hP := Lib.hid (HP.out.next hB.out)
        by_cases hlt : j < nc
        · obtain ⟨c, hx⟩ : ∃ c, p.cs[j]? = some c := ⟨_, List.getElem?_eq_getElem (by rw [HM.out]; exact hlt)⟩
          have hco := HC.out c (List.mem_of_getElem? hx)
          obtain ⟨a1, a2, a3⟩ := Cel.able_bd hco
          have a4 := hco.bat.p1
          have K := Lib.hid (fun W => able_any c W hco)
          obtain ⟨t0, t1⟩ := sumA_take_bd HC.out (by rw [HM.out]; exact hlc) j
          obtain ⟨_, hA, zb, hf, x0, x1, x2, x3, x4⟩ := hP.out.cel hx
          dsimp only at hA zb x0 x1 x2 x3 x4
          subst hA
          obtain ⟨g, hg⟩ : ∃ z, z = sumA (p.cs.take j) := ⟨_, rfl⟩
          rw [← hg] at t0 t1 ⊢
          have HG := Lib.hid hg.symm
          have HX := Lib.hid hx
          have hk0 : (0 : Int) ≤ (j : Int) := by omega
          have hkn : (j : Int) < (nc : Int) := by omega
          clear hf hg hx
          unfold Cel.val at K
          obtain ⟨v, hv⟩ : ∃ z, z = c.able := ⟨_, rfl⟩
          rw [← hv] at K a1 a2 a3
          have HV := Lib.hid hv.symm
          clear hv hco
          go_wp2_with fail
          refine (K.out _).mono ?_
          rintro e w2 ⟨rfl, hB2⟩
          have hB3 : Hid (Below w.heap.size w w2) := Lib.hid (hB.out.trans ((((Below.refl wr.heap.size wr).alloc (Nat.le_refl _) _).trans (hB2.mono (by simp))).mono hB.out.size))
          clear hB2
          go_wp2
          go_roundw
          case rel =>
            refine ⟨j + 1, by omega, by go_num, ?_, hB3⟩
            rw [sumA_take HX.out, HG.out, HV.out]
            go_num
          case measure => simp [intOf]; omega
        · obtain rfl : j = nc := by omega
          have e1 : sumA (p.cs.take p.cs.length) = sumA p.cs := by rw [List.take_length]
          rw [HM.out] at e1
          rw [e1]
          clear e1
          go_wp2
          go_ret
          exact ⟨ret_int (by rw [mostP, HS.out]), hB.out⟩
end Go.Proofs.Ytnpkcipeacogcaa
