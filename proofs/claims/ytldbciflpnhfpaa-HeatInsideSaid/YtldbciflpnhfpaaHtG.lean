/- heat: taken. -/
import Derived.Test.YtldbciflpnhfpaaHtF

set_option linter.unusedSimpArgs false
set_option linter.unusedVariables false
namespace Go.Proofs.Ytldbciflpnhfpaa
open Go.RowKit

/-- How many coolers hang on a branch. -/
def cnC (b : Int) : List Clr → Int
  | [] => 0
  | x :: l => (if x.br = b then 1 else 0) + cnC b l
theorem cnC_snoc (b : Int) (l : List Clr) (x : Clr) : cnC b (l ++ [x]) = cnC b l + if x.br = b then 1 else 0 := by
  induction l with
  | nil => simp [cnC]
  | cons a l ih => simp only [List.cons_append, cnC, ih]; omega
theorem cnC_bd (b : Int) (l : List Clr) : (0 ≤ cnC b l ∧ cnC b l ≤ l.length) ∧ ∀ x ∈ l, x.br = b → 1 ≤ cnC b l := by
  induction l with
  | nil => simp [cnC]
  | cons a l ih =>
    obtain ⟨⟨h1, h2⟩, h3⟩ := ih
    refine ⟨by simp only [cnC, List.length_cons]; split <;> omega, fun x hx e => ?_⟩
    simp only [cnC]
    rcases List.mem_cons.1 hx with rfl | hx
    · rw [if_pos e]; omega
    · have := h3 x hx e
      split <;> omega
def ctL (n : Nat) (l : List Clr) : List Int := (List.range n).map (fun b : Nat => cnC (b : Int) l)
theorem ctL_len' (n : Nat) (l : List Clr) : (ctL n l).length = n := by simp [ctL]
theorem ctL_get {n u : Nat} {l : List Clr} (h : u < n) : (ctL n l)[u]? = some (cnC (u : Int) l) := by simp [ctL, h]
theorem ctL_nil (n : Nat) : ctL n [] = List.replicate n 0 := by
  apply List.ext_getElem?
  intro i
  by_cases h : i < n
  · rw [ctL_get h]; simp [cnC, h]
  · rw [List.getElem?_eq_none (by rw [ctL_len']; omega), List.getElem?_eq_none (by simp; omega)]
theorem ctL_set {n u : Nat} {l : List Clr} {x : Clr} (hu : u < n) (h : x.br = (u : Int)) : (ctL n l).set u (cnC (u : Int) l + 1) = ctL n (l ++ [x]) := by
  apply List.ext_getElem?
  intro i
  by_cases hi : i < n
  · rw [ctL_get hi, List.getElem?_set]
    by_cases e : u = i
    · subst e
      rw [if_pos rfl, if_pos (by rw [ctL_len']; exact hi), cnC_snoc, if_pos h]
    · rw [if_neg e, ctL_get hi, cnC_snoc, if_neg (by omega), Int.add_zero]
  · rw [List.getElem?_eq_none (by rw [List.length_set, ctL_len']; omega), List.getElem?_eq_none (by rw [ctL_len']; omega)]
/-- What a cooler takes. -/
def tkV (h : Hl) (pump : Int) (t : List Int) (x : Clr) : Int := min (max 0 (x.gn * (t.getD x.rm.toNat 0 - x.sp))) (x.cr * fl h pump x.br.toNat / cnC x.br h.crs)
def tkL (h : Hl) (pump : Int) (t : List Int) : List Int := h.crs.map (tkV h pump t)
theorem set_fill' (done : List Int) (m : Nat) (x : Int) : (done ++ List.replicate (m + 1) 0).set done.length x = (done ++ [x]) ++ List.replicate m 0 := by
  rw [List.set_append_right _ _ (Nat.le_refl _), Nat.sub_self]
  simp [List.replicate_succ]
theorem fill_at' (done : List Int) (m : Nat) : (done ++ List.replicate (m + 1) 0)[done.length]? = some (0 : Int) := by
  rw [List.getElem?_append_right (Nat.le_refl _), Nat.sub_self]
  simp [List.replicate_succ]
def t12Phi (xb fb cb bn u : Nat) (cr F N q : Int) : Nat → Value → World → (Nat → Nat) → Prop
  | 0, v, _, _ => v = .pointer (some ⟨xb, 3, none⟩)
  | 1, v, _, _ => v = .int .i64 cr
  | 2, v, _, _ => v = .slice (some ⟨fb, 0, none⟩) bn bn
  | 3, v, _, _ => v = .pointer (some ⟨xb, 1, none⟩)
  | 4, v, _, _ => v = .int .i64 (u : Int)
  | 5, v, _, _ => v = .pointer (some ⟨fb, u, none⟩)
  | 6, v, _, _ => v = .int .i64 F
  | 7, v, _, _ => v = .int .i64 (cr * F)
  | 8, v, _, _ => v = .slice (some ⟨cb, 0, none⟩) bn bn
  | 9, v, _, _ => v = .pointer (some ⟨xb, 1, none⟩)
  | 10, v, _, _ => v = .int .i64 (u : Int)
  | 11, v, _, _ => v = .pointer (some ⟨cb, u, none⟩)
  | 12, v, _, _ => v = .int .i64 N
  | 13, v, _, _ => v = .int .i64 q
  | 14, v, _, _ => v = .int .i64 q
  | _, _, _, _ => True
theorem t12Phi_w {xb fb cb bn u : Nat} {cr F N q : Int} {j : Nat} {v : Value} {W W' : World} {γ γ' : Nat → Nat} (hq : t12Phi xb fb cb bn u cr F N q j v W γ) : t12Phi xb fb cb bn u cr F N q j v W' γ' := by
  unfold t12Phi at hq ⊢
  split at hq <;> first | exact hq | trivial
def t13Phi (xb lb tb to cn rn tc k rm : Nat) (gn ti sp D G M q Z : Int) (L2 : List Int) : Nat → Value → World → (Nat → Nat) → Prop
  | 0, v, _, _ => v = .slice (some ⟨lb, 0, none⟩) cn cn
  | 1, v, _, _ => v = .int .i64 (k : Int)
  | 2, v, _, _ => v = .pointer (some ⟨xb, 2, none⟩)
  | 3, v, _, _ => v = .int .i64 gn
  | 4, v, _, _ => v = .slice (some ⟨tb, to, none⟩) rn tc
  | 5, v, _, _ => v = .pointer (some ⟨xb, 0, none⟩)
  | 6, v, _, _ => v = .int .i64 (rm : Int)
  | 7, v, _, _ => v = .pointer (some ⟨tb, to + rm, none⟩)
  | 8, v, _, _ => v = .int .i64 ti
  | 9, v, _, _ => v = .pointer (some ⟨xb, 4, none⟩)
  | 10, v, _, _ => v = .int .i64 sp
  | 11, v, _, _ => v = .int .i64 D
  | 12, v, _, _ => v = .int .i64 G
  | 13, v, _, _ => v = .int .i64 M
  | 14, v, _, _ => v = .int .i64 q
  | 15, v, _, _ => v = .int .i64 Z
  | 16, v, _, _ => v = .pointer (some ⟨lb, k, none⟩)
  | 17, _, W, _ => Blk W lb 3 (intsA L2)
  | _, _, _, _ => True
theorem t13Phi_w {xb lb tb to cn rn tc k rm : Nat} {gn ti sp D G M q Z : Int} {L2 : List Int} {j : Nat} {v : Value} {W W' : World} {γ γ' : Nat → Nat} (hl : j ≠ 17) (hq : t13Phi xb lb tb to cn rn tc k rm gn ti sp D G M q Z L2 j v W γ) : t13Phi xb lb tb to cn rn tc k rm gn ti sp D G M q Z L2 j v W' γ' := by
  unfold t13Phi at hq ⊢
  split at hq <;> first | exact hq | exact absurd rfl hl | trivial
set_option maxRecDepth 100000 in
set_option maxHeartbeats 4000000 in
theorem taken_any (rA wA bA cA : Option Addr) (rn rc wn wc bn bc cn cc : Nat) (h : Hl) (w : World) (hin : HlIn w w.heap.size ⟨rA, wA, bA, cA, rn, wn, bn, cn⟩ h) (ok : HlOk h) (tA : Option Addr) (tc : Nat) (t : List Int) (pump : Int) (hp : 0 ≤ pump ∧ pump ≤ 100000) (ht : Rd w w.heap.size 1 encI tA rn t) (hb : ∀ x ∈ t, 0 ≤ x ∧ x ≤ 1000000) :
    Calls Try.prog 50 #[.agg #[.slice rA rn rc, .slice wA wn wc, .slice bA bn bc, .slice cA cn cc], .slice tA rn tc, .int .i64 pump] w fun e w' => ∃ lb, e = .returned (.slice (some ⟨lb, 0, none⟩) cn cn) ∧ Blk w' lb 3 (intsA (tkL h pump t)) ∧ w.heap.size ≤ lb ∧ Below w.heap.size w w' := by
  have HI := Lib.hid hin
  have OK := Lib.hid ok
  have HP := Lib.hid hp
  have HT := Lib.hid ht
  have HTB := Lib.hid hb
  have HRN : Hid (h.rooms.length = rn) := Lib.hid hin.rm.1
  have HBN : Hid (h.brs.length = bn) := Lib.hid hin.br.1
  have HCN : Hid (h.crs.length = cn) := Lib.hid hin.cl.1
  have hb16 : bn ≤ 16 := by rw [← HBN.out]; exact ok.b16
  have hc16 : cn ≤ 16 := by rw [← HCN.out]; exact ok.c16
  have KF := Lib.hid (fun W (hW : Below w.heap.size w W) => flows_any rA wA bA cA rn rc wn wc bn bc cn cc h W (hin.next hW) ok pump hp)
  have hmk := run_makeInts bn (by omega)
  have g1 : w.heap.size < w.heap.size + 1 := by omega
  clear hin ok hp ht hb
  go_enter Try.func50, Try.ntmps50
  go_wp2_with fail
  obtain ⟨bx, hbx⟩ : ∃ z, z = w.heap.size := ⟨_, rfl⟩
  obtain ⟨w1, hw1⟩ : ∃ z, z = w.alloc (.cells #[.slice rA rn rc, .slice wA wn wc, .slice bA bn bc, .slice cA cn cc] 28) := ⟨_, rfl⟩
  have BX : Hid (Blk w1 bx 28 #[.slice rA rn rc, .slice wA wn wc, .slice bA bn bc, .slice cA cn cc]) := Lib.hid (by rw [hw1, hbx]; exact heap_alloc_new w _)
  have Sw1 : Hid (w1.heap.size = bx + 1) := Lib.hid (by rw [hw1, hbx, World.size_alloc])
  have Zbx : Hid (w.heap.size ≤ bx) := Lib.hid (by rw [hbx]; exact Nat.le_refl _)
  have hBn : Below w.heap.size w w1 := by rw [hw1]; exact (Below.refl _ _).alloc (Nat.le_refl _) _
  rw [← hw1, ← hbx]
  have B0 : Hid (Below w.heap.size w w1) := Lib.hid hBn
  clear hw1 hbx hBn
  refine (KF.out _ B0.out).mono ?_
  rintro e w2 ⟨fb, rfl, hfb, hle, hB⟩
  have B1 : Hid (Below w1.heap.size w1 w2) := Lib.hid hB
  clear hB
  have HFB := Lib.hid hfb
  have HFL := Lib.hid hle
  clear hfb hle g1 KF
  have hbk := BX.out.below B1.out BX.out.lt
  have d2 := hbk.cell 2
  have d3 := hbk.cell 3
  simp only [List.getElem?_toArray, List.getElem?_cons_zero, List.getElem?_cons_succ] at d2 d3
  have zd := hbk.lt
  clear hbk
  have g1 : w2.heap.size < w2.heap.size + 1 := by omega
  go_wp2_with fail
  obtain ⟨cb, hcb⟩ : ∃ z, z = w2.heap.size := ⟨_, rfl⟩
  obtain ⟨w3, hw3⟩ : ∃ z, z = w2.alloc (.cells (intsA (List.replicate bn 0)) 3) := ⟨_, rfl⟩
  have CB : Hid (Blk w3 cb 3 (intsA (List.replicate bn 0))) := Lib.hid (by rw [hw3, hcb]; exact heap_alloc_new w2 _)
  have Sw3 : Hid (w3.heap.size = cb + 1) := Lib.hid (by rw [hw3, hcb, World.size_alloc])
  have Zcb : Hid (w2.heap.size ≤ cb) := Lib.hid (by rw [hcb]; exact Nat.le_refl _)
  have hBn : Below w2.heap.size w2 w3 := by rw [hw3]; exact (Below.refl _ _).alloc (Nat.le_refl _) _
  rw [← hw3, ← hcb]
  have B2 : Hid (Below w2.heap.size w2 w3) := Lib.hid hBn
  clear hw3 hcb hBn
  clear hmk d2 d3 zd g1
  have HLOW : Hid (Below w2.heap.size w2 w3) := B2
  have HCB : Hid (w2.heap.size ≤ cb) := Zcb
  have HCL := Lib.hid (HI.out.cl.next (below3 B0.out B1.out (Nat.le_refl _)))
  have HL0 : Hid (Blk w3 cb 3 (intsA (ctL bn (h.crs.take 0)))) := Lib.hid (by rw [List.take_zero, ctL_nil]; exact CB.out)
  go_loopw [25] (fun i wr => ∃ k : Nat, k ≤ cn ∧ i = .int .i64 ((k : Nat) : Int) ∧ Hid (Below w2.heap.size w2 wr ∧ Blk wr cb 3 (intsA (ctL bn (h.crs.take k))))) (fun i _ => cn - (intOf i).toNat)
  case atStart => exact ⟨0, by omega, rfl, Lib.hid ⟨HLOW.out, HL0.out⟩⟩
  case round =>
    obtain ⟨k, hk, rfl, HW⟩ := hrel
    by_cases hlt : k < cn
    · obtain ⟨b, off, x, e1, hb, hx, hcx⟩ := (HCL.out.next HW.out.1).at_ hlt
      subst e1
      obtain ⟨c0, c1, c2, c3, c4⟩ := Clr.cells hcx
      have zb : b < wr.heap.size := hb
      have hk0 : (0 : Int) ≤ (k : Int) := by omega
      have hkn : (k : Int) < (cn : Int) := by omega
      have g1 : wr.heap.size < wr.heap.size + 1 := by omega
      have hz := HW.out.1.size
      have h1 := OK.out.clr x (List.mem_of_getElem? hx)
      have HTK : Hid (h.crs.take (k + 1) = h.crs.take k ++ [x]) := Lib.hid (by rw [List.take_add_one, hx]; rfl)
      obtain ⟨x0, xu, gn, cr, sp⟩ := x
      dsimp only at h1 c0 c1 c2 c3 c4
      obtain ⟨u, rfl⟩ : ∃ u : Nat, xu = (u : Int) := ⟨xu.toNat, by omega⟩
      have hu : u < bn := by have := HBN.out; omega
      have hu0 : (0 : Int) ≤ (u : Int) := by omega
      have hun : (u : Int) < (bn : Int) := by omega
      obtain ⟨a, ha⟩ : ∃ z, z = cnC (u : Int) (h.crs.take k) := ⟨_, rfl⟩
      have HA9 : Hid ((ctL bn (h.crs.take k))[u]? = some a) := Lib.hid (by rw [ha]; exact ctL_get hu)
      have HNX : Hid ((ctL bn (h.crs.take k)).set u (a + 1) = ctL bn (h.crs.take (k + 1))) := Lib.hid (by rw [HTK.out, ha]; exact ctL_set (x := ⟨x0, (u : Int), gn, cr, sp⟩) hu rfl)
      have wa : IntKind.i64.wrap (a + 1) = a + 1 := by
        have h2 := (cnC_bd (u : Int) (h.crs.take k)).1
        have h3 : (h.crs.take k).length ≤ 16 := by rw [List.length_take]; have := HCN.out; omega
        rw [ha]
        exact IntWalk.i64_in _ (by omega)
      have ca := HW.out.2.intAt HA9.out
      have zl := HW.out.2.lt
      have fl9 := HW.out.2.frozen
      clear hx hcx hb h1 ha
      go_wp2
      go_roundw
      case rel => exact ⟨k + 1, by omega, by go_num, Lib.hid ⟨(HW.out.1.setCell (p := ⟨cb, u, none⟩) HCB.out _).alloc (by simp; omega) _, by
        have h9 := HW.out.2.set_ u (.int .i64 (a + 1))
        rw [intsA_set, HNX.out] at h9
        exact h9.alloc _⟩⟩
      case measure => simp [intOf]; omega
    · obtain rfl : cn = k := by omega
      obtain ⟨wA1, hwA⟩ : ∃ z, z = wr := ⟨wr, rfl⟩
      subst hwA
      have HCT : Hid (Blk wA1 cb 3 (intsA (ctL bn h.crs))) := Lib.hid (by have h9 := HW.out.2; rw [List.take_of_length_le (by rw [HCN.out]; exact Nat.le_refl _)] at h9; exact h9)
      have hBl := HW.out.1
      have B2 : Hid (Below w2.heap.size w2 wA1) := Lib.hid hBl
      clear hBl HL0
      have hbk := BX.out.below (below3 B1.out B2.out (Nat.le_refl _)) BX.out.lt
      have d3 := hbk.cell 3
      simp only [List.getElem?_toArray, List.getElem?_cons_zero, List.getElem?_cons_succ] at d3
      have zd := hbk.lt
      clear hbk
      have hmk := run_makeInts cn (by omega)
      have g1 : wA1.heap.size < wA1.heap.size + 1 := by omega
      go_wp2_with fail
      obtain ⟨lb, hlb⟩ : ∃ z, z = wA1.heap.size := ⟨_, rfl⟩
      obtain ⟨w4, hw4⟩ : ∃ z, z = wA1.alloc (.cells (intsA (List.replicate cn 0)) 3) := ⟨_, rfl⟩
      have LB : Hid (Blk w4 lb 3 (intsA (List.replicate cn 0))) := Lib.hid (by rw [hw4, hlb]; exact heap_alloc_new wA1 _)
      have Sw4 : Hid (w4.heap.size = lb + 1) := Lib.hid (by rw [hw4, hlb, World.size_alloc])
      have Zlb : Hid (wA1.heap.size ≤ lb) := Lib.hid (by rw [hlb]; exact Nat.le_refl _)
      have hBn : Below wA1.heap.size wA1 w4 := by rw [hw4]; exact (Below.refl _ _).alloc (Nat.le_refl _) _
      rw [← hw4, ← hlb]
      have B3 : Hid (Below wA1.heap.size wA1 w4) := Lib.hid hBn
      clear hw4 hlb hBn
      clear hmk d3 zd g1
      have HLOWA : Hid (Below wA1.heap.size wA1 w4) := B3
      have HLB : Hid (wA1.heap.size ≤ lb) := Zlb
      have HCLA := Lib.hid (HI.out.cl.next (below3 (below3 B0.out B1.out (Nat.le_refl _)) B2.out (Nat.le_refl _)))
      have HTA := Lib.hid (HT.out.next (below3 (below3 B0.out B1.out (Nat.le_refl _)) B2.out (Nat.le_refl _)))
      have HFA := Lib.hid (HFB.out.below B2.out HFB.out.lt)
      have HL1 : Hid (Blk w4 lb 3 (intsA ((tkL h pump t).take 0 ++ List.replicate (cn - 0) 0))) := LB
      go_loopw [44] (fun i wr => ∃ k : Nat, k ≤ cn ∧ i = .int .i64 ((k : Nat) : Int) ∧ Hid (Below wA1.heap.size wA1 wr ∧ Blk wr lb 3 (intsA ((tkL h pump t).take k ++ List.replicate (cn - k) 0)))) (fun i _ => cn - (intOf i).toNat)
      case atStart => exact ⟨0, by omega, rfl, Lib.hid ⟨HLOWA.out, HL1.out⟩⟩
      case round =>
        obtain ⟨k, hk, rfl, HW⟩ := hrel
        by_cases hlt : k < cn
        · obtain ⟨b, off, x, e1, hb, hx, hcx⟩ := (HCLA.out.next HW.out.1).at_ hlt
          subst e1
          obtain ⟨c0, c1, c2, c3, c4⟩ := Clr.cells hcx
          have zb : b < wr.heap.size := hb
          have hk0 : (0 : Int) ≤ (k : Int) := by omega
          have hkn : (k : Int) < (cn : Int) := by omega
          have g1 : wr.heap.size < wr.heap.size + 1 := by omega
          have h1 := OK.out.clr x (List.mem_of_getElem? hx)
          have hN := (cnC_bd x.br h.crs).2 x (List.mem_of_getElem? hx) rfl
          have hN2 := (cnC_bd x.br h.crs).1.2
          have hln : (tkL h pump t).length = cn := by unfold tkL; rw [List.length_map]; exact HCN.out
          have htk : (tkL h pump t)[k]? = some (tkV h pump t x) := by unfold tkL; rw [List.getElem?_map, hx]; rfl
          have hlt' : ((tkL h pump t).take k).length = k := by rw [List.length_take]; omega
          obtain ⟨m, hm⟩ : ∃ m, cn - k = m + 1 := ⟨cn - k - 1, by omega⟩
          have HNX : Hid (((tkL h pump t).take k ++ List.replicate (cn - k) 0).set k (tkV h pump t x) = (tkL h pump t).take (k + 1) ++ List.replicate (cn - (k + 1)) 0) := Lib.hid (by
            have h2 := set_fill' ((tkL h pump t).take k) m (tkV h pump t x)
            rw [hlt'] at h2
            rw [hm, h2, List.take_add_one, htk, show cn - (k + 1) = m by omega]
            rfl)
          have HZ0 : Hid (((tkL h pump t).take k ++ List.replicate (cn - k) 0)[k]? = some 0) := Lib.hid (by
            have h2 := fill_at' ((tkL h pump t).take k) m
            rw [hlt'] at h2
            rw [hm]; exact h2)
          obtain ⟨Z, hZ⟩ : ∃ z, z = tkV h pump t x := ⟨_, rfl⟩
          rw [← hZ] at HNX
          unfold tkV at hZ
          obtain ⟨xm, xu, gn, cr, sp⟩ := x
          dsimp only at h1 c0 c1 c2 c3 c4 hZ hN hN2
          obtain ⟨u, rfl⟩ : ∃ u : Nat, xu = (u : Int) := ⟨xu.toNat, by omega⟩
          obtain ⟨rm, rfl⟩ : ∃ u : Nat, xm = (u : Int) := ⟨xm.toNat, by omega⟩
          have hu : u < bn := by have := HBN.out; omega
          have hu0 : (0 : Int) ≤ (u : Int) := by omega
          have hun : (u : Int) < (bn : Int) := by omega
          have hr : rm < rn := by have := HRN.out; omega
          have hr0 : (0 : Int) ≤ (rm : Int) := by omega
          have hrn : (rm : Int) < (rn : Int) := by omega
          obtain ⟨tb, to', ti, e2, htb, htx, htc⟩ := (HTA.out.next HW.out.1).at_ hr
          subst e2
          have hti := HTB.out ti (List.mem_of_getElem? htx)
          have hgt : t.getD rm 0 = ti := by rw [List.getD_eq_getElem?_getD, htx]; rfl
          rw [Int.toNat_natCast, Int.toNat_natCast, hgt] at hZ
          have HTI := Lib.hid htx
          have HTC : Hid (tb < wr.heap.size ∧ wr.cell? ⟨tb, to' + rm, none⟩ = some (.int .i64 ti)) := Lib.hid ⟨htb, cellI htc⟩
          obtain ⟨F, hF⟩ : ∃ z, z = fl h pump u := ⟨_, rfl⟩
          have hf1 := fl_nonneg OK.out pump (show u < h.brs.length by have := HBN.out; omega)
          have hf2 := fl_le OK.out HP.out.1 u (by have := HBN.out; omega)
          rw [← hF] at hZ hf1 hf2
          have HFU : Hid ((flL h pump)[u]? = some F) := Lib.hid (by rw [hF]; exact flL_get (by have := HBN.out; omega))
          obtain ⟨N, hNn⟩ : ∃ z, z = cnC (u : Int) h.crs := ⟨_, rfl⟩
          have HNU : Hid ((ctL bn h.crs)[u]? = some N) := Lib.hid (by rw [hNn]; exact ctL_get hu)
          rw [← hNn] at hZ hN hN2
          obtain ⟨q, hq⟩ : ∃ z, z = cr * F / N := ⟨_, rfl⟩
          obtain ⟨D, hD⟩ : ∃ z, z = ti - sp := ⟨_, rfl⟩
          obtain ⟨G, hG⟩ : ∃ z, z = gn * D := ⟨_, rfl⟩
          obtain ⟨M, hM⟩ : ∃ z, z = max 0 G := ⟨_, rfl⟩
          rw [← hq, ← hD, ← hG, ← hM] at hZ
          have HAR : Hid (IntKind.i64.wrap (cr * F) = cr * F ∧ (cr * F).tdiv N = q ∧ IntKind.i64.wrap q = q ∧ ¬ N = 0) := Lib.hid (by
            have hp := HP.out
            have h4 : 0 ≤ cr * F := Int.mul_nonneg h1.2.2.2.1.1 hf1
            have h5 : cr * F ≤ 1000 * 100000 := Int.mul_le_mul h1.2.2.2.1.2 (by omega) hf1 (by omega)
            have h6 : 0 ≤ cr * F / N := Int.ediv_nonneg h4 (by omega)
            have h7 : cr * F / N ≤ cr * F := Int.ediv_le_self _ h4
            exact ⟨IntWalk.i64_in _ (by omega), by rw [hq]; exact Int.tdiv_eq_ediv_of_nonneg h4, IntWalk.i64_in _ (by omega), by omega⟩)
          have HAG : Hid (IntKind.i64.wrap (ti - sp) = D ∧ IntKind.i64.wrap (gn * D) = G ∧ max 0 G = M ∧ min M q = Z) := Lib.hid (by
            have h4 : -1000000 ≤ D ∧ D ≤ 1000000 := by omega
            have h5 : gn * D ≤ 100000 * 1000000 := by
              have h6 : gn * D ≤ gn * 1000000 := Int.mul_le_mul_of_nonneg_left h4.2 h1.2.2.1.1
              have h7 : gn * 1000000 ≤ 100000 * 1000000 := Int.mul_le_mul_of_nonneg_right h1.2.2.1.2 (by omega)
              omega
            have h8 : -(100000 * 1000000) ≤ gn * D := by
              have h6 : gn * (-1000000) ≤ gn * D := Int.mul_le_mul_of_nonneg_left h4.1 h1.2.2.1.1
              have h7 : gn * 1000000 ≤ 100000 * 1000000 := Int.mul_le_mul_of_nonneg_right h1.2.2.1.2 (by omega)
              have h9 : gn * (-1000000) = -(gn * 1000000) := Int.mul_neg ..
              omega
            exact ⟨by rw [← hD]; exact IntWalk.i64_in _ (by omega), by rw [← hG]; exact IntWalk.i64_in _ (by omega), hM.symm, hZ.symm⟩)
          clear hx hcx hb h1 hN hN2 hln htk hlt' hm hZ hti hgt htb htx htc hF hf1 hf2 hNn hq hD hG hM
          go_wp2_with fail
          obtain ⟨xb, hxb⟩ : ∃ z, z = wr.heap.size := ⟨_, rfl⟩
          obtain ⟨wx, hwx⟩ : ∃ z, z = wr.alloc (.cells #[.int .i64 (rm : Int), .int .i64 (u : Int), .int .i64 gn, .int .i64 cr, .int .i64 sp] 77) := ⟨_, rfl⟩
          have hBa : Below wr.heap.size wr wx := by rw [hwx]; exact (Below.refl _ _).alloc (Nat.le_refl _) _
          have hbx : Blk wx xb 77 #[.int .i64 (rm : Int), .int .i64 (u : Int), .int .i64 gn, .int .i64 cr, .int .i64 sp] := by rw [hwx, hxb]; exact heap_alloc_new wr _
          have HX := Lib.hid (And.intro (below3 HW.out.1 hBa (Nat.le_refl _)) (And.intro hbx (HW.out.2.below hBa HW.out.2.lt)))
          have HXB : Hid (lb < xb) := Lib.hid (by rw [hxb]; exact HW.out.2.lt)
          have HTW : Hid (tb < wx.heap.size ∧ wx.cell? ⟨tb, to' + rm, none⟩ = some (.int .i64 ti)) := Lib.hid ⟨Nat.lt_of_lt_of_le HTC.out.1 hBa.size, (hBa.cell (p := ⟨tb, to' + rm, none⟩) HTC.out.1).trans HTC.out.2⟩
          have HTL : Hid (tb < wA1.heap.size) := Lib.hid (by
            obtain ⟨b9, o9, _, e9, h9, _⟩ := HTA.out.at_ hr
            obtain ⟨rfl, rfl⟩ : tb = b9 ∧ to' = o9 := by simpa using e9
            exact h9)
          rw [← hwx, ← hxb]
          clear hBa hbx hwx hxb c0 c1 c2 c3 c4 zb g1
          refine wp_region_free10 14 (by kernel_rfl) [some 49, some 50, some 51, some 52, some 53, some 54, some 55, some 56, some 57, some 58, some 59, some 60, some 61, some 62, some 14] [[], [0], [], [], [3], [2, 4], [5], [1, 6], [], [], [9], [8, 10], [11], [7, 12], [13, 0, 1, 2, 3, 4, 5, 6, 7, 8, 9, 10, 11, 12, 13]] [(13, .pointer (some ⟨xb, 0, none⟩)), (7, .slice (some ⟨fb, 0, none⟩) bn bn), (8, .slice (some ⟨cb, 0, none⟩) bn bn)] (fun W _ => Below wA1.heap.size wA1 W ∧ Blk W xb 77 #[.int .i64 (rm : Int), .int .i64 (u : Int), .int .i64 gn, .int .i64 cr, .int .i64 sp] ∧ (Blk W lb 3 (intsA ((tkL h pump t).take k ++ List.replicate (cn - k) 0)))) (t12Phi xb fb cb bn u cr F N q) (fun _ _ _ => True) (by kernel_rfl) (by kernel_rfl) rfl (by kernel_rfl) ?_ ?_ ⟨fun _ => 0, ⟨HX.out.1.drew, HX.out.2.1.below (Below.refl _ _).drew HX.out.2.1.lt, HX.out.2.2.below (Below.refl _ _).drew HX.out.2.2.lt⟩, fun i _ => trivial⟩ ?_ ?_
          · intro z hz
            simp only [List.mem_cons, List.mem_nil_iff, or_false] at hz
            rcases hz with rfl | rfl | rfl
            all_goals exact ⟨by kernel_rfl, rfl⟩
          · intro i v W γ hi h
            rcases i with _ | _ | _ | _ | _ | _ | _ | _ | _ | _ | _ | _ | _ | _ | _ | i
            all_goals first | exact h | (simp at hi)
          · refine ⟨?_, ?_, ?_, ?_, ?_, ?_, ?_, ?_, ?_, ?_, ?_, ?_, ?_, ?_, ?_, trivial⟩
            all_goals
              intro a9 W γ ev hcc hff hfx hR hψ hpre
              simp only [List.mem_cons, List.mem_nil_iff, or_false, forall_eq, forall_eq_or_imp] at hfx
              obtain ⟨f0, f1, f2⟩ := hfx
              have HR := Lib.hid hR
              clear hR
            · refine ⟨fun hg K hK => ?_, trivial⟩
              clear hg
              clear hpre hψ
              go_simp
              exact hK _ _ γ HR.out (fun _ _ _ _ h => h) (fun _ _ _ h => h) rfl
            · refine ⟨fun hg K hK => ?_, trivial⟩
              clear hg
              have q0 : ev (.tmp 49) = _ := hpre 0 (by decide)
              have hbk := HR.out.2.1
              have hzg := hbk.lt
              have e3 := hbk.cell 3
              simp only [List.getElem?_toArray, List.getElem?_cons_zero, List.getElem?_cons_succ] at e3
              clear hbk
              clear hpre hψ
              go_simp
              exact hK _ _ γ HR.out (fun _ _ _ _ h => h) (fun _ _ _ h => h) rfl
            · refine ⟨fun hg K hK => ?_, trivial⟩
              clear hg
              clear hpre hψ
              go_simp
              exact hK _ _ γ HR.out (fun _ _ _ _ h => h) (fun _ _ _ h => h) rfl
            · refine ⟨fun hg K hK => ?_, trivial⟩
              clear hg
              clear hpre hψ
              go_simp
              exact hK _ _ γ HR.out (fun _ _ _ _ h => h) (fun _ _ _ h => h) rfl
            · refine ⟨fun hg K hK => ?_, trivial⟩
              clear hg
              have q0 : ev (.tmp 52) = _ := hpre 3 (by decide)
              have hbk := HR.out.2.1
              have hzg := hbk.lt
              have e1 := hbk.cell 1
              simp only [List.getElem?_toArray, List.getElem?_cons_zero, List.getElem?_cons_succ] at e1
              clear hbk
              clear hpre hψ
              go_simp
              exact hK _ _ γ HR.out (fun _ _ _ _ h => h) (fun _ _ _ h => h) rfl
            · refine ⟨fun hg K hK => ?_, trivial⟩
              clear hg
              have q0 : ev (.tmp 51) = _ := hpre 2 (by decide)
              have q1 : ev (.tmp 53) = _ := hpre 4 (by decide)
              clear hpre hψ
              go_simp
              exact hK _ _ γ HR.out (fun _ _ _ _ h => h) (fun _ _ _ h => h) rfl
            · refine ⟨fun hg K hK => ?_, trivial⟩
              clear hg
              have q0 : ev (.tmp 54) = _ := hpre 5 (by decide)
              have hbk := HFA.out.below HR.out.1 HFA.out.lt
              have hzg := hbk.lt
              have ca := hbk.intAt HFU.out
              clear hbk
              clear hpre hψ
              go_simp
              exact hK _ _ γ HR.out (fun _ _ _ _ h => h) (fun _ _ _ h => h) rfl
            · refine ⟨fun hg K hK => ?_, trivial⟩
              clear hg
              have q0 : ev (.tmp 50) = _ := hpre 1 (by decide)
              have q1 : ev (.tmp 55) = _ := hpre 6 (by decide)
              have wm := HAR.out.1
              clear hpre hψ
              go_simp
              exact hK _ _ γ HR.out (fun _ _ _ _ h => h) (fun _ _ _ h => h) rfl
            · refine ⟨fun hg K hK => ?_, trivial⟩
              clear hg
              clear hpre hψ
              go_simp
              exact hK _ _ γ HR.out (fun _ _ _ _ h => h) (fun _ _ _ h => h) rfl
            · refine ⟨fun hg K hK => ?_, trivial⟩
              clear hg
              clear hpre hψ
              go_simp
              exact hK _ _ γ HR.out (fun _ _ _ _ h => h) (fun _ _ _ h => h) rfl
            · refine ⟨fun hg K hK => ?_, trivial⟩
              clear hg
              have q0 : ev (.tmp 58) = _ := hpre 9 (by decide)
              have hbk := HR.out.2.1
              have hzg := hbk.lt
              have e1 := hbk.cell 1
              simp only [List.getElem?_toArray, List.getElem?_cons_zero, List.getElem?_cons_succ] at e1
              clear hbk
              clear hpre hψ
              go_simp
              exact hK _ _ γ HR.out (fun _ _ _ _ h => h) (fun _ _ _ h => h) rfl
            · refine ⟨fun hg K hK => ?_, trivial⟩
              clear hg
              have q0 : ev (.tmp 57) = _ := hpre 8 (by decide)
              have q1 : ev (.tmp 59) = _ := hpre 10 (by decide)
              clear hpre hψ
              go_simp
              exact hK _ _ γ HR.out (fun _ _ _ _ h => h) (fun _ _ _ h => h) rfl
            · refine ⟨fun hg K hK => ?_, trivial⟩
              clear hg
              have q0 : ev (.tmp 60) = _ := hpre 11 (by decide)
              have hbk := HCT.out.below HR.out.1 HCT.out.lt
              have hzg := hbk.lt
              have ca := hbk.intAt HNU.out
              clear hbk
              clear hpre hψ
              go_simp
              exact hK _ _ γ HR.out (fun _ _ _ _ h => h) (fun _ _ _ h => h) rfl
            · refine ⟨fun hg K hK => ?_, trivial⟩
              clear hg
              have q0 : ev (.tmp 56) = _ := hpre 7 (by decide)
              have q1 : ev (.tmp 61) = _ := hpre 12 (by decide)
              have tq := HAR.out.2.1
              have wq := HAR.out.2.2.1
              have s0 := HAR.out.2.2.2
              clear hpre hψ
              go_simp
              exact hK _ _ γ HR.out (fun _ _ _ _ h => h) (fun _ _ _ h => h) rfl
            · refine ⟨fun hg K hK => ?_, trivial⟩
              clear hg
              have q0 : ev (.tmp 62) = _ := hpre 13 (by decide)
              clear hpre hψ
              go_simp
              exact hK _ _ γ HR.out (fun _ _ _ _ h => h) (fun _ _ _ h => h) rfl
          · intro vs wz γ hvl hR hφ
            have q14 := hφ 14 (by decide)
            have HR := Lib.hid hR
            clear hφ hR
            match vs, hvl with
            | [y0, y1, y2, y3, y4, y5, y6, y7, y8, y9, y10, y11, y12, y13, y14], _ =>
            simp only [List.getD_cons_zero, List.getD_cons_succ] at q14
            obtain rfl : y14 = _ := q14
            have HY := Lib.hid HR.out
            clear HR
            simp [putAll]
            go_wp2
            refine wp_region_free10 17 (by kernel_rfl) [some 63, some 64, some 65, some 66, some 67, some 68, some 69, some 70, some 71, some 72, some 73, some 74, some 75, some 76, some 77, some 78, some 79, none] [[], [], [], [2], [], [], [5], [4, 6], [7], [], [9], [8, 10], [3, 11], [12], [], [13, 14], [0, 1, 0, 1, 2, 3, 4, 5, 6, 7, 8, 9, 10, 11, 12, 13, 14, 15], [16, 15, 0, 1, 2, 3, 4, 5, 6, 7, 8, 9, 10, 11, 12, 13, 14, 15]] [(11, .slice (some ⟨lb, 0, none⟩) cn cn), (12, .int .i64 (k : Int)), (13, .pointer (some ⟨xb, 0, none⟩)), (1, .slice (some ⟨tb, to', none⟩) rn tc), (14, .int .i64 q)] (fun W γ => Below wA1.heap.size wA1 W ∧ Blk W xb 77 #[.int .i64 (rm : Int), .int .i64 (u : Int), .int .i64 gn, .int .i64 cr, .int .i64 sp] ∧ (γ 0 = 0 → Blk W lb 3 (intsA ((tkL h pump t).take k ++ List.replicate (cn - k) 0)))) (t13Phi xb lb tb to' cn rn tc k rm gn ti sp D G M q Z (((tkL h pump t).take k ++ List.replicate (cn - k) 0).set k Z)) (fun _ _ γ => γ 0 = 0) (by kernel_rfl) (by kernel_rfl) rfl (by kernel_rfl) ?_ ?_ ⟨fun _ => 0, ⟨HY.out.1.drew, HY.out.2.1.below (Below.refl _ _).drew HY.out.2.1.lt, fun _ => HY.out.2.2.below (Below.refl _ _).drew HY.out.2.2.lt⟩, fun i _ => rfl⟩ ?_ ?_
            · intro z hz
              simp only [List.mem_cons, List.mem_nil_iff, or_false] at hz
              rcases hz with rfl | rfl | rfl | rfl | rfl
              all_goals exact ⟨by kernel_rfl, rfl⟩
            · intro i v W γ hi h
              rcases i with _ | _ | _ | _ | _ | _ | _ | _ | _ | _ | _ | _ | _ | _ | _ | _ | _ | _ | i
              all_goals first | exact h | (simp at hi)
            · refine ⟨?_, ?_, ?_, ?_, ?_, ?_, ?_, ?_, ?_, ?_, ?_, ?_, ?_, ?_, ?_, ?_, ?_, ?_, trivial⟩
              all_goals
                intro a9 W γ ev hcc hff hfx hR hψ hpre
                simp only [List.mem_cons, List.mem_nil_iff, or_false, forall_eq, forall_eq_or_imp] at hfx
                obtain ⟨f0, f1, f2, f3, f4⟩ := hfx
                have HR := Lib.hid hR
                clear hR
              · refine ⟨fun hg K hK => ?_, trivial⟩
                clear hg
                clear hpre hψ
                go_simp
                exact hK _ _ γ HR.out (fun _ _ _ _ h => h) (fun _ _ _ h => h) rfl
              · refine ⟨fun hg K hK => ?_, trivial⟩
                clear hg
                clear hpre hψ
                go_simp
                exact hK _ _ γ HR.out (fun _ _ _ _ h => h) (fun _ _ _ h => h) rfl
              · refine ⟨fun hg K hK => ?_, trivial⟩
                clear hg
                clear hpre hψ
                go_simp
                exact hK _ _ γ HR.out (fun _ _ _ _ h => h) (fun _ _ _ h => h) rfl
              · refine ⟨fun hg K hK => ?_, trivial⟩
                clear hg
                have q0 : ev (.tmp 65) = _ := hpre 2 (by decide)
                have hbk := HR.out.2.1
                have hzg := hbk.lt
                have e2 := hbk.cell 2
                simp only [List.getElem?_toArray, List.getElem?_cons_zero, List.getElem?_cons_succ] at e2
                clear hbk
                clear hpre hψ
                go_simp
                exact hK _ _ γ HR.out (fun _ _ _ _ h => h) (fun _ _ _ h => h) rfl
              · refine ⟨fun hg K hK => ?_, trivial⟩
                clear hg
                clear hpre hψ
                go_simp
                exact hK _ _ γ HR.out (fun _ _ _ _ h => h) (fun _ _ _ h => h) rfl
              · refine ⟨fun hg K hK => ?_, trivial⟩
                clear hg
                clear hpre hψ
                go_simp
                exact hK _ _ γ HR.out (fun _ _ _ _ h => h) (fun _ _ _ h => h) rfl
              · refine ⟨fun hg K hK => ?_, trivial⟩
                clear hg
                have q0 : ev (.tmp 68) = _ := hpre 5 (by decide)
                have hbk := HR.out.2.1
                have hzg := hbk.lt
                have e0 := hbk.cell 0
                simp only [List.getElem?_toArray, List.getElem?_cons_zero, List.getElem?_cons_succ] at e0
                clear hbk
                clear hpre hψ
                go_simp
                exact hK _ _ γ HR.out (fun _ _ _ _ h => h) (fun _ _ _ h => h) rfl
              · refine ⟨fun hg K hK => ?_, trivial⟩
                clear hg
                have q0 : ev (.tmp 67) = _ := hpre 4 (by decide)
                have q1 : ev (.tmp 69) = _ := hpre 6 (by decide)
                clear hpre hψ
                go_simp
                exact hK _ _ γ HR.out (fun _ _ _ _ h => h) (fun _ _ _ h => h) rfl
              · refine ⟨fun hg K hK => ?_, trivial⟩
                clear hg
                have q0 : ev (.tmp 70) = _ := hpre 7 (by decide)
                have hca : W.cell? ⟨tb, to' + rm, none⟩ = some (.int .i64 ti) := by
                  have h9 := HTA.out.below (HR.out.1)
                  obtain ⟨b9, o9, t9, e9, hb9, hx9, hc9⟩ := (HTA.out.next HR.out.1).at_ hr
                  obtain ⟨rfl, rfl⟩ : tb = b9 ∧ to' = o9 := by simpa using e9
                  have h8 := cellI hc9
                  rw [HTI.out] at hx9
                  obtain rfl := Option.some.inj hx9
                  exact h8
                have hza : tb < W.heap.size := block_of_cell hca
                clear hpre hψ
                go_simp
                exact hK _ _ γ HR.out (fun _ _ _ _ h => h) (fun _ _ _ h => h) rfl
              · refine ⟨fun hg K hK => ?_, trivial⟩
                clear hg
                clear hpre hψ
                go_simp
                exact hK _ _ γ HR.out (fun _ _ _ _ h => h) (fun _ _ _ h => h) rfl
              · refine ⟨fun hg K hK => ?_, trivial⟩
                clear hg
                have q0 : ev (.tmp 72) = _ := hpre 9 (by decide)
                have hbk := HR.out.2.1
                have hzg := hbk.lt
                have e4 := hbk.cell 4
                simp only [List.getElem?_toArray, List.getElem?_cons_zero, List.getElem?_cons_succ] at e4
                clear hbk
                clear hpre hψ
                go_simp
                exact hK _ _ γ HR.out (fun _ _ _ _ h => h) (fun _ _ _ h => h) rfl
              · refine ⟨fun hg K hK => ?_, trivial⟩
                clear hg
                have q0 : ev (.tmp 71) = _ := hpre 8 (by decide)
                have q1 : ev (.tmp 73) = _ := hpre 10 (by decide)
                have wm := HAG.out.1
                clear hpre hψ
                go_simp
                exact hK _ _ γ HR.out (fun _ _ _ _ h => h) (fun _ _ _ h => h) rfl
              · refine ⟨fun hg K hK => ?_, trivial⟩
                clear hg
                have q0 : ev (.tmp 66) = _ := hpre 3 (by decide)
                have q1 : ev (.tmp 74) = _ := hpre 11 (by decide)
                have wm := HAG.out.2.1
                clear hpre hψ
                go_simp
                exact hK _ _ γ HR.out (fun _ _ _ _ h => h) (fun _ _ _ h => h) rfl
              · refine ⟨fun hg K hK => ?_, trivial⟩
                clear hg
                have q0 : ev (.tmp 75) = _ := hpre 12 (by decide)
                have wm := HAG.out.2.2.1
                clear hpre hψ
                go_simp
                exact hK _ _ γ HR.out (fun _ _ _ _ h => h) (fun _ _ _ h => h) rfl
              · refine ⟨fun hg K hK => ?_, trivial⟩
                clear hg
                clear hpre hψ
                go_simp
                exact hK _ _ γ HR.out (fun _ _ _ _ h => h) (fun _ _ _ h => h) rfl
              · refine ⟨fun hg K hK => ?_, trivial⟩
                clear hg
                have q0 : ev (.tmp 76) = _ := hpre 13 (by decide)
                have q1 : ev (.tmp 77) = _ := hpre 14 (by decide)
                have wm := HAG.out.2.2.2
                clear hpre hψ
                go_simp
                exact hK _ _ γ HR.out (fun _ _ _ _ h => h) (fun _ _ _ h => h) rfl
              · refine ⟨fun hg K hK => ?_, trivial⟩
                clear hg
                have q0 : ev (.tmp 63) = _ := hpre 0 (by decide)
                have q1 : ev (.tmp 64) = _ := hpre 1 (by decide)
                clear hpre hψ
                go_simp
                exact hK _ _ γ HR.out (fun _ _ _ _ h => h) (fun _ _ _ h => h) rfl
              · refine ⟨fun hg K hK => ?_, trivial⟩
                clear hg
                have q0 : ev (.tmp 78) = _ := hpre 15 (by decide)
                have q1 : ev (.tmp 79) = _ := hpre 16 (by decide)
                have hlb := HR.out.2.2 hψ
                have zl := hlb.lt
                have fl9 := hlb.frozen
                have ca := hlb.intAt HZ0.out
                have HR9 := Lib.hid (And.intro HR.out.1 (And.intro HR.out.2.1 hlb))
                clear hpre hψ hlb
                go_simp
                refine hK undef _ (fun _ => 1) ⟨HR9.out.1.setCell HLB.out _, HR9.out.2.1.far (Nat.ne_of_gt HXB.out) _, fun e => by simp at e⟩ (fun j u _ hne h => t13Phi_w hne h) (fun h => absurd rfl h) ?_
                have h9 := HR9.out.2.2.set_ k (.int .i64 Z)
                rw [intsA_set] at h9
                exact h9
            · intro vs wy γ hvl hR hφ
              have q17 := hφ 17 (by decide)
              have HR := Lib.hid hR
              clear hφ hR
              match vs, hvl with
              | [z0, z1, z2, z3, z4, z5, z6, z7, z8, z9, z10, z11, z12, z13, z14, z15, z16, z17], _ =>
              simp only [List.getD_cons_zero, List.getD_cons_succ] at q17
              have HN : Hid (Below wA1.heap.size wA1 wy ∧ Blk wy lb 3 (intsA ((tkL h pump t).take (k + 1) ++ List.replicate (cn - (k + 1)) 0))) := Lib.hid ⟨HR.out.1, by rw [← HNX.out]; exact q17⟩
              clear HR
              simp [putAll]
              go_wp2
              go_roundw
              case rel => exact ⟨k + 1, by omega, by go_num, HN⟩
              case measure => simp [intOf]; omega
        · obtain rfl : cn = k := by omega
          have HF : Hid (Blk wr lb 3 (intsA (tkL h pump t))) := Lib.hid (by have h9 := HW.out.2; rw [List.take_of_length_le (by unfold tkL; rw [List.length_map, HCN.out]; exact Nat.le_refl _), Nat.sub_self, List.replicate_zero, List.append_nil] at h9; exact h9)
          go_wp2
          go_ret
          exact ⟨lb, rfl, HF.out, Nat.le_trans ((below3 (below3 B0.out B1.out (Nat.le_refl _)) B2.out (Nat.le_refl _))).size HLB.out, below3 (below3 (below3 B0.out B1.out (Nat.le_refl _)) B2.out (Nat.le_refl _)) HW.out.1 (Nat.le_refl _)⟩
end Go.Proofs.Ytldbciflpnhfpaa
