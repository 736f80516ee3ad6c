/- heat: a second's loads and coolers. -/
import Derived.Test.YtldbciflpnhfpaaHtG

set_option linter.unusedSimpArgs false
set_option linter.unusedVariables false
namespace Go.Proofs.Ytldbciflpnhfpaa
open Go.RowKit

theorem getD_set {L : List Int} {k j : Nat} {x : Int} (hk : k < L.length) : (L.set k x).getD j 0 = if k = j then x else L.getD j 0 := by
  rw [List.getD_eq_getElem?_getD, List.getD_eq_getElem?_getD, List.getElem?_set]
  by_cases e : k = j
  · rw [if_pos e, if_pos e, if_pos hk]; rfl
  · rw [if_neg e, if_neg e]
theorem some_getD {L : List Int} {k : Nat} (hk : k < L.length) : L[k]? = some (L.getD k 0) := by
  rw [List.getD_eq_getElem?_getD, List.getElem?_eq_getElem hk]; rfl
set_option maxRecDepth 100000 in
set_option maxHeartbeats 4000000 in
theorem loads_any (rA wA bA cA lA tA : Option Addr) (rn rc wn wc bn bc cn cc lc tc : Nat) (out pump : Int) (hb : Nat) (l H : List Int) (M : Int) (w : World) (hn : rn ≤ 8) (hl : Rd w hb 1 encI lA rn l) (hH : Blk w hb 3 (intsA H)) (hHn : H.length = rn) (hlb : ∀ x ∈ l, 0 ≤ x ∧ x ≤ 10000000) (hM : M ≤ 1000000000000000) (hHb : ∀ j, -M ≤ H.getD j 0 ∧ H.getD j 0 ≤ M) :
    Calls Try.prog 76 #[.agg #[.slice rA rn rc, .slice wA wn wc, .slice bA bn bc, .slice cA cn cc, .slice lA rn lc, .int .i64 out, .int .i64 pump, .slice tA rn tc], .slice (some ⟨hb, 0, none⟩) rn rn] w fun e w' => e = .returned (.tuple #[]) ∧ Keep (fun i => i = hb) w w' ∧ ∃ L, Blk w' hb 3 (intsA L) ∧ L.length = rn ∧ ∀ j, j < rn → L.getD j 0 = H.getD j 0 + l.getD j 0 := by
  have HL := Lib.hid hl
  have HH := Lib.hid hH
  have HHN := Lib.hid hHn
  have HLB := Lib.hid hlb
  have HM := Lib.hid hM
  have HHB := Lib.hid hHb
  have g1 : w.heap.size < w.heap.size + 1 := by omega
  clear hl hH hHn hlb hM hHb
  go_enter Try.func76, Try.ntmps76
  go_wp2_with fail
  obtain ⟨w1, hw1⟩ : ∃ z, z = w.alloc (.cells #[.slice rA rn rc, .slice wA wn wc, .slice bA bn bc, .slice cA cn cc, .slice lA rn lc, .int .i64 out, .int .i64 pump, .slice tA rn tc] 110) := ⟨_, rfl⟩
  have hBa : Below w.heap.size w w1 := by rw [hw1]; exact (Below.refl _ _).alloc (Nat.le_refl _) _
  have HS : Hid (Keep (fun i => i = hb) w w1 ∧ Blk w1 hb 3 (intsA H)) := Lib.hid ⟨Keep.of_below hBa, HH.out.below hBa HH.out.lt⟩
  rw [← hw1]
  clear hw1 hBa g1
  go_loopw [10] (fun i wr => ∃ k : Nat, k ≤ rn ∧ i = .int .i64 ((k : Nat) : Int) ∧ ∃ L, Hid (Keep (fun i => i = hb) w wr ∧ Blk wr hb 3 (intsA L) ∧ L.length = rn ∧ ∀ j, j < rn → L.getD j 0 = H.getD j 0 + if j < k then l.getD j 0 else 0)) (fun i _ => rn - (intOf i).toNat)
  case atStart => exact ⟨0, by omega, rfl, H, Lib.hid ⟨HS.out.1, HS.out.2, HHN.out, fun j _ => by rw [if_neg (by omega), Int.add_zero]⟩⟩
  case round =>
    obtain ⟨k, hk, rfl, L, HW⟩ := hrel
    by_cases hlt : k < rn
    · have HLW := Lib.hid (HL.out.keep (w' := wr) (fun p hp => World.cell?_of_block (HW.out.1.block p.block (by have := HH.out.lt; omega) (by omega))))
      obtain ⟨b, off, x, e1, hb9, hx, hcx⟩ := HLW.out.at_ hlt
      subst e1
      have cl := cellI hcx
      have zb := block_of_cell cl
      dsimp only at zb
      have hk0 : (0 : Int) ≤ (k : Int) := by omega
      have hkn : (k : Int) < (rn : Int) := by omega
      have hlx : l.getD k 0 = x := by rw [List.getD_eq_getElem?_getD, hx]; rfl
      have h1 := HLB.out x (List.mem_of_getElem? hx)
      have h2 := HHB.out k
      have h3 := HM.out
      obtain ⟨a, ha⟩ : ∃ z, z = L.getD k 0 := ⟨_, rfl⟩
      have h4 := HW.out.2.2.2 k hlt
      rw [if_neg (by omega), Int.add_zero, ← ha] at h4
      have ca := HW.out.2.1.intAt (some_getD (by rw [HW.out.2.2.1]; exact hlt))
      rw [← ha] at ca
      have zl := HW.out.2.1.lt
      have fl9 := HW.out.2.1.frozen
      have wa : IntKind.i64.wrap (a + x) = a + x := IntWalk.i64_in _ (by omega)
      have HNX : Hid ((L.set k (a + x)).length = rn ∧ ∀ j, j < rn → (L.set k (a + x)).getD j 0 = H.getD j 0 + if j < k + 1 then l.getD j 0 else 0) := Lib.hid ⟨by rw [List.length_set]; exact HW.out.2.2.1, fun j hj => by
        rw [getD_set (by rw [HW.out.2.2.1]; exact hlt)]
        by_cases e : k = j
        · subst e; rw [if_pos rfl, if_pos (by omega), h4, hlx]
        · rw [if_neg e, HW.out.2.2.2 j hj]
          by_cases e2 : j < k
          · rw [if_pos e2, if_pos (by omega)]
          · rw [if_neg e2, if_neg (by omega)]⟩
      clear hb9 hx hcx hlx h1 h2 h3 h4 ha
      go_wp2
      go_roundw
      case rel => exact ⟨k + 1, by omega, by go_num, L.set k (a + x), Lib.hid ⟨HW.out.1.setCell (p := ⟨hb, k, none⟩) rfl _, by
        have h9 := HW.out.2.1.set_ k (.int .i64 (a + x))
        rw [intsA_set] at h9
        exact h9, HNX.out.1, HNX.out.2⟩⟩
      case measure => simp [intOf]; omega
    · obtain rfl : rn = k := by omega
      go_wp2
      refine bodyPost_end (v := .tuple #[]) (results_none rfl _ _ _) rfl ?_
      exact ⟨rfl, HW.out.1, L, HW.out.2.1, HW.out.2.2.1, fun j hj => by rw [HW.out.2.2.2 j hj, if_pos hj]⟩
def Hl.cr (h : Hl) (i : Nat) : Clr := h.crs.getD i ⟨0, 0, 0, 0, 0⟩
/-- What the first coolers take from a room. -/
def clS (h : Hl) (L : List Int) (j : Nat) : Nat → Int
  | 0 => 0
  | k + 1 => clS h L j k + if (h.cr k).rm = (j : Int) then L.getD k 0 else 0
theorem tkL_len (h : Hl) (pump : Int) (t : List Int) : (tkL h pump t).length = h.crs.length := by simp [tkL]
theorem tk_bd {h : Hl} (ok : HlOk h) {pump : Int} (hp : 0 ≤ pump ∧ pump ≤ 100000) (t : List Int) (k : Nat) : 0 ≤ (tkL h pump t).getD k 0 ∧ (tkL h pump t).getD k 0 ≤ 100000000 := by
  by_cases hk : k < h.crs.length
  · have hx := List.getElem?_eq_getElem hk
    obtain ⟨x, hx9⟩ : ∃ z, z = h.crs[k] := ⟨_, rfl⟩
    rw [← hx9] at hx
    have e : (tkL h pump t).getD k 0 = tkV h pump t x := by unfold tkL; rw [List.getD_eq_getElem?_getD, List.getElem?_map, hx]; rfl
    rw [e]
    obtain ⟨_, h2, _, h4, _⟩ := ok.clr x (List.mem_of_getElem? hx)
    have h5 := fl_nonneg ok pump (show x.br.toNat < h.brs.length by omega)
    have h6 := fl_le ok hp.1 x.br.toNat (by omega)
    have h7 : 0 ≤ x.cr * fl h pump x.br.toNat := Int.mul_nonneg h4.1 h5
    have h8 : x.cr * fl h pump x.br.toNat ≤ 1000 * 100000 := Int.mul_le_mul h4.2 (by omega) h5 (by omega)
    have h9 := (cnC_bd x.br h.crs).2 x (List.mem_of_getElem? hx) rfl
    have h10 : 0 ≤ x.cr * fl h pump x.br.toNat / cnC x.br h.crs := Int.ediv_nonneg h7 (by omega)
    have h11 : x.cr * fl h pump x.br.toNat / cnC x.br h.crs ≤ x.cr * fl h pump x.br.toNat := Int.ediv_le_self _ h7
    unfold tkV
    omega
  · rw [List.getD_eq_getElem?_getD, List.getElem?_eq_none (by rw [tkL_len]; omega)]
    simp
theorem clS_bd {h : Hl} (ok : HlOk h) {pump : Int} (hp : 0 ≤ pump ∧ pump ≤ 100000) (t : List Int) (j k : Nat) : 0 ≤ clS h (tkL h pump t) j k ∧ clS h (tkL h pump t) j k ≤ 100000000 * k := by
  induction k with
  | zero => simp [clS]
  | succ k ih =>
    have h1 := tk_bd ok hp t k
    simp only [clS]
    split <;> omega
theorem HlIn.more {w : World} {B B' : Nat} {a : HA} {h : Hl} (hh : HlIn w B a h) (hB : B ≤ B') : HlIn w B' a h := ⟨hh.rm.more hB, hh.wl.more hB, hh.br.more hB, hh.cl.more hB⟩
set_option maxRecDepth 100000 in
set_option maxHeartbeats 4000000 in
theorem coolers_any (rA wA bA cA lA tA : Option Addr) (rn rc wn wc bn bc cn cc lc tc : Nat) (out pump : Int) (hb : Nat) (h : Hl) (t H : List Int) (M : Int) (w : World) (hin : HlIn w hb ⟨rA, wA, bA, cA, rn, wn, bn, cn⟩ h) (ok : HlOk h) (hp : 0 ≤ pump ∧ pump ≤ 100000) (ht : Rd w hb 1 encI tA rn t) (htb : ∀ x ∈ t, 0 ≤ x ∧ x ≤ 1000000) (hH : Blk w hb 3 (intsA H)) (hHn : H.length = rn) (hM : M ≤ 1000000000000000) (hHb : ∀ j, -M ≤ H.getD j 0 ∧ H.getD j 0 ≤ M) :
    Calls Try.prog 78 #[.agg #[.slice rA rn rc, .slice wA wn wc, .slice bA bn bc, .slice cA cn cc, .slice lA rn lc, .int .i64 out, .int .i64 pump, .slice tA rn tc], .slice (some ⟨hb, 0, none⟩) rn rn] w fun e w' => e = .returned (.tuple #[]) ∧ Keep (fun i => i = hb) w w' ∧ ∃ L, Blk w' hb 3 (intsA L) ∧ L.length = rn ∧ ∀ j, j < rn → L.getD j 0 = H.getD j 0 - clS h (tkL h pump t) j cn := by
  have HH := Lib.hid hH
  have HHN := Lib.hid hHn
  have HM := Lib.hid hM
  have HHB := Lib.hid hHb
  have OK := Lib.hid ok
  have HP := Lib.hid hp
  have HCL := Lib.hid hin.cl
  have HRN : Hid (h.rooms.length = rn) := Lib.hid hin.rm.1
  have HCN : Hid (h.crs.length = cn) := Lib.hid hin.cl.1
  have hc16 : cn ≤ 16 := by rw [← HCN.out]; exact ok.c16
  have KT := Lib.hid (fun W (hW : Below w.heap.size w W) => taken_any rA wA bA cA rn rc wn wc bn bc cn cc h W ((hin.more (Nat.le_of_lt hH.lt)).next hW) ok tA tc t pump hp ((ht.more (Nat.le_of_lt hH.lt)).next hW) htb)
  have HT2 := Lib.hid (fun j k => clS_bd OK.out HP.out t j k)
  have HTB := Lib.hid (fun k => tk_bd OK.out HP.out t k)
  obtain ⟨TL, hTL⟩ : ∃ z, z = tkL h pump t := ⟨_, rfl⟩
  have HTN : Hid (TL.length = cn) := Lib.hid (by rw [hTL, tkL_len]; exact HCN.out)
  rw [← hTL] at KT HT2 HTB ⊢
  clear hTL
  have g1 : w.heap.size < w.heap.size + 1 := by omega
  clear hin ok hp ht htb hH hHn hM hHb
  go_enter Try.func78, Try.ntmps78
  go_wp2_with fail
  obtain ⟨bx, hbx⟩ : ∃ z, z = w.heap.size := ⟨_, rfl⟩
  obtain ⟨w1, hw1⟩ : ∃ z, z = w.alloc (.cells #[.slice rA rn rc, .slice wA wn wc, .slice bA bn bc, .slice cA cn cc, .slice lA rn lc, .int .i64 out, .int .i64 pump, .slice tA rn tc] 110) := ⟨_, rfl⟩
  have hBa : Below w.heap.size w w1 := by rw [hw1]; exact (Below.refl _ _).alloc (Nat.le_refl _) _
  have BX : Hid (Blk w1 bx 110 #[.slice rA rn rc, .slice wA wn wc, .slice bA bn bc, .slice cA cn cc, .slice lA rn lc, .int .i64 out, .int .i64 pump, .slice tA rn tc]) := Lib.hid (by rw [hw1, hbx]; exact heap_alloc_new w _)
  have HN1 : Hid (hb < bx) := Lib.hid (by rw [hbx]; exact HH.out.lt)
  rw [← hw1, ← hbx]
  have HB1 := Lib.hid hBa
  have HZX : Hid (bx < w1.heap.size) := Lib.hid BX.out.lt
  clear hw1 hBa g1 hbx
  refine (KT.out _ HB1.out).mono ?_
  rintro e w2 ⟨lb, rfl, hlb, hle, hB⟩
  have HS : Hid (Keep (fun i => i = hb) w w2 ∧ Blk w2 hb 3 (intsA H)) := Lib.hid ⟨Keep.of_below (below3 HB1.out hB (Nat.le_refl _)), (HH.out.below HB1.out HH.out.lt).below hB (Nat.lt_of_lt_of_le HH.out.lt HB1.out.size)⟩
  have HLB := Lib.hid hlb
  have HNL : Hid (lb ≠ hb) := Lib.hid (by have := HN1.out; have := HZX.out; omega)
  have HBX2 := Lib.hid (BX.out.below hB BX.out.lt)
  clear hlb hle hB KT
  go_wp2
  go_loopw [15] (fun i wr => ∃ k : Nat, k ≤ cn ∧ i = .int .i64 ((k : Nat) : Int) ∧ ∃ L, Hid (Keep (fun i => i = hb) w2 wr ∧ Blk wr hb 3 (intsA L) ∧ L.length = rn ∧ ∀ j, j < rn → L.getD j 0 = H.getD j 0 - clS h TL j k)) (fun i _ => cn - (intOf i).toNat)
  case atStart => exact ⟨0, by omega, rfl, H, Lib.hid ⟨Keep.refl _ _, HS.out.2, HHN.out, fun j _ => by simp [clS]⟩⟩
  case round =>
    obtain ⟨k, hk, rfl, L, HW⟩ := hrel
    by_cases hlt : k < cn
    · have HCW := Lib.hid (HCL.out.keep (w' := wr) (fun p hp => World.cell?_of_block ((HS.out.1.trans HW.out.1).block p.block (by have := HH.out.lt; omega) (by omega))))
      obtain ⟨b, off, x, e1, hb9, hx, hcx⟩ := HCW.out.at_ hlt
      subst e1
      have cl := (Clr.cells hcx).1
      have zb := block_of_cell cl
      dsimp only at zb
      have hk0 : (0 : Int) ≤ (k : Int) := by omega
      have hkn : (k : Int) < (cn : Int) := by omega
      have h1 := (OK.out.clr x (List.mem_of_getElem? hx)).1
      have hcr : h.cr k = x := by unfold Hl.cr; rw [List.getD_eq_getElem?_getD, hx]; rfl
      obtain ⟨xm, xu, gn, cr, sp⟩ := x
      dsimp only at h1 cl
      obtain ⟨r, rfl⟩ : ∃ u : Nat, xm = (u : Int) := ⟨xm.toNat, by omega⟩
      have hr : r < rn := by have := HRN.out; omega
      have hr0 : (0 : Int) ≤ (r : Int) := by omega
      have hrn : (r : Int) < (rn : Int) := by omega
      obtain ⟨y, hy⟩ : ∃ z, z = TL.getD k 0 := ⟨_, rfl⟩
      have hlbw := HW.out.1.blk HLB.out HNL.out
      have ct := hlbw.intAt (some_getD (by rw [HTN.out]; exact hlt))
      rw [← hy] at ct
      have zt := hlbw.lt
      have h2 := HHB.out r
      have h3 := HM.out
      have h5 := HT2.out r k
      have h6 := HTB.out k
      rw [← hy] at h6
      obtain ⟨a, ha⟩ : ∃ z, z = L.getD r 0 := ⟨_, rfl⟩
      have h4 := HW.out.2.2.2 r hr
      rw [← ha] at h4
      have ca := HW.out.2.1.intAt (some_getD (by rw [HW.out.2.2.1]; exact hr))
      rw [← ha] at ca
      have zl := HW.out.2.1.lt
      have fl9 := HW.out.2.1.frozen
      have hbw := HW.out.1.blk HBX2.out (Nat.ne_of_gt HN1.out)
      have d3 := hbw.cell 3
      have zd := hbw.lt
      simp only [List.getElem?_toArray, List.getElem?_cons_zero, List.getElem?_cons_succ] at d3
      have wa : IntKind.i64.wrap (a - y) = a - y := IntWalk.i64_in _ (by omega)
      have HNX : Hid ((L.set r (a - y)).length = rn ∧ ∀ j, j < rn → (L.set r (a - y)).getD j 0 = H.getD j 0 - clS h TL j (k + 1)) := Lib.hid ⟨by rw [List.length_set]; exact HW.out.2.2.1, fun j hj => by
        rw [getD_set (by rw [HW.out.2.2.1]; exact hr)]
        simp only [clS, hcr]
        by_cases e : r = j
        · subst e; rw [if_pos rfl, if_pos rfl, h4, ← hy]; omega
        · rw [if_neg e, if_neg (by omega), HW.out.2.2.2 j hj]; omega⟩
      clear hb9 hx hcx hcr h1 h2 h3 h4 h5 h6 ha hy hlbw hbw
      go_wp2
      go_roundw
      case rel => exact ⟨k + 1, by omega, by go_num, L.set r (a - y), Lib.hid ⟨HW.out.1.setCell (p := ⟨hb, r, none⟩) rfl _, by
        have h9 := HW.out.2.1.set_ r (.int .i64 (a - y))
        rw [intsA_set] at h9
        exact h9, HNX.out.1, HNX.out.2⟩⟩
      case measure => simp [intOf]; omega
    · obtain rfl : cn = k := by omega
      go_wp2
      refine bodyPost_end (v := .tuple #[]) (results_none rfl _ _ _) rfl ?_
      exact ⟨rfl, HS.out.1.trans HW.out.1, L, HW.out.2.1, HW.out.2.2.1, HW.out.2.2.2⟩
end Go.Proofs.Ytldbciflpnhfpaa
