/- heat: after, next. -/
import Derived.Test.YtldbciflpnhfpaaHtI

set_option linter.unusedSimpArgs false
set_option linter.unusedVariables false
namespace Go.Proofs.Ytldbciflpnhfpaa
open Go.RowKit

/-- The heat that comes to a room, and its temperature after the second. -/
def htV (h : Hl) (t l : List Int) (out pump : Int) (j : Nat) : Int := l.getD j 0 + wlS h t out j h.walls.length - clS h (tkL h pump t) j h.crs.length
def nxV (h : Hl) (t l : List Int) (out pump : Int) (j : Nat) : Int := min 1000000 (((h.rooms.getD j ⟨0, 0⟩).st * t.getD j 0 + htV h t l out pump j).tdiv (h.rooms.getD j ⟨0, 0⟩).st)
def nxL (h : Hl) (t l : List Int) (out pump : Int) : List Int := (List.range h.rooms.length).map (nxV h t l out pump)
/-- What has come when so many have brought. -/
def brV (h : Hl) (t l : List Int) (out pump : Int) (j : Nat) : Nat → Int
  | 0 => 0
  | 1 => l.getD j 0
  | 2 => l.getD j 0 + wlS h t out j h.walls.length
  | _ => htV h t l out pump j
theorem HlIn.below {w w' : World} {B : Nat} {a : HA} {h : Hl} (hh : HlIn w B a h) (hb : Below B w w') : HlIn w' B a h := ⟨hh.rm.below hb, hh.wl.below hb, hh.br.below hb, hh.cl.below hb⟩
theorem brV_bd {h : Hl} (ok : HlOk h) {t l : List Int} {out pump : Int} (ht : ∀ x ∈ t, 0 ≤ x ∧ x ≤ 1000000) (hl : ∀ x ∈ l, 0 ≤ x ∧ x ≤ 10000000) (ho : 0 ≤ out ∧ out ≤ 1000000) (hp : 0 ≤ pump ∧ pump ≤ 100000) (j k : Nat) : -10000000000000 ≤ brV h t l out pump j k ∧ brV h t l out pump j k ≤ 10000000000000 := by
  have h1 : 0 ≤ l.getD j 0 ∧ l.getD j 0 ≤ 10000000 := by
    rw [List.getD_eq_getElem?_getD]
    by_cases hi : j < l.length
    · rw [List.getElem?_eq_getElem hi]; exact hl _ (List.getElem_mem hi)
    · rw [List.getElem?_eq_none (by omega)]; simp
  have h2 := wlS_bd ok ht ho j _ (Nat.le_refl _)
  have h3 := clS_bd ok hp t j h.crs.length
  have h4 := ok.w16
  have h5 := ok.c16
  unfold brV
  split
  · omega
  · omega
  · omega
  · unfold htV; omega
theorem tdiv_abs {a b : Int} : (a.tdiv b).natAbs ≤ a.natAbs := by
  rw [Int.natAbs_tdiv]
  exact Nat.div_le_self _ _
theorem nxL_len (h : Hl) (t l : List Int) (out pump : Int) : (nxL h t l out pump).length = h.rooms.length := by simp [nxL]
theorem nxL_get {h : Hl} {t l : List Int} {out pump : Int} {i : Nat} (hi : i < h.rooms.length) : (nxL h t l out pump)[i]? = some (nxV h t l out pump i) := by simp [nxL, hi]
def x14Phi (lb xb bx tb to hb rn tc k : Nat) (st ta Pp Hk Q q Z : Int) (L2 : List Int) : Nat → Value → World → (Nat → Nat) → Prop
  | 0, v, _, _ => v = .slice (some ⟨lb, 0, none⟩) rn rn
  | 1, v, _, _ => v = .int .i64 (k : Int)
  | 2, v, _, _ => v = .pointer (some ⟨xb, 0, none⟩)
  | 3, v, _, _ => v = .int .i64 st
  | 4, v, _, _ => v = .pointer (some ⟨bx, 7, none⟩)
  | 5, v, _, _ => v = .slice (some ⟨tb, to, none⟩) rn tc
  | 6, v, _, _ => v = .int .i64 (k : Int)
  | 7, v, _, _ => v = .pointer (some ⟨tb, to + k, none⟩)
  | 8, v, _, _ => v = .int .i64 ta
  | 9, v, _, _ => v = .int .i64 Pp
  | 10, v, _, _ => v = .slice (some ⟨hb, 0, none⟩) rn rn
  | 11, v, _, _ => v = .int .i64 (k : Int)
  | 12, v, _, _ => v = .pointer (some ⟨hb, k, none⟩)
  | 13, v, _, _ => v = .int .i64 Hk
  | 14, v, _, _ => v = .int .i64 Q
  | 15, v, _, _ => v = .pointer (some ⟨xb, 0, none⟩)
  | 16, v, _, _ => v = .int .i64 st
  | 17, v, _, _ => v = .int .i64 q
  | 18, v, _, _ => v = .int .i64 Z
  | 19, v, _, _ => v = .pointer (some ⟨lb, k, none⟩)
  | 20, _, W, _ => Blk W lb 3 (intsA L2)
  | _, _, _, _ => True
theorem x14Phi_w {lb xb bx tb to hb rn tc k : Nat} {st ta Pp Hk Q q Z : Int} {L2 : List Int} {j : Nat} {v : Value} {W W' : World} {γ γ' : Nat → Nat} (hl : j ≠ 20) (hq : x14Phi lb xb bx tb to hb rn tc k st ta Pp Hk Q q Z L2 j v W γ) : x14Phi lb xb bx tb to hb rn tc k st ta Pp Hk Q q Z L2 j v W' γ' := by
  unfold x14Phi at hq ⊢
  split at hq <;> first | exact hq | exact absurd rfl hl | trivial
set_option maxRecDepth 100000 in
set_option maxHeartbeats 4000000 in
theorem afterS_any (rA wA bA cA lA tA : Option Addr) (rn rc wn wc bn bc cn cc lc tc : Nat) (out pump : Int) (h : Hl) (t l : List Int) (w : World) (hin : HlIn w w.heap.size ⟨rA, wA, bA, cA, rn, wn, bn, cn⟩ h) (ok : HlOk h) (ho : 0 ≤ out ∧ out ≤ 1000000) (hp : 0 ≤ pump ∧ pump ≤ 100000) (ht : Rd w w.heap.size 1 encI tA rn t) (htb : ∀ x ∈ t, 0 ≤ x ∧ x ≤ 1000000) (hl : Rd w w.heap.size 1 encI lA rn l) (hlb : ∀ x ∈ l, 0 ≤ x ∧ x ≤ 10000000) :
    Calls Try.prog 51 #[.agg #[.slice rA rn rc, .slice wA wn wc, .slice bA bn bc, .slice cA cn cc, .slice lA rn lc, .int .i64 out, .int .i64 pump, .slice tA rn tc]] w fun e w' => ∃ lb, e = .returned (.slice (some ⟨lb, 0, none⟩) rn rn) ∧ Blk w' lb 3 (intsA (nxL h t l out pump)) ∧ w.heap.size ≤ lb ∧ Below w.heap.size w w' := by
  have HI := Lib.hid hin
  have OK := Lib.hid ok
  have HT := Lib.hid ht
  have HL := Lib.hid hl
  have HRN : Hid (h.rooms.length = rn) := Lib.hid hin.rm.1
  have HWN : Hid (h.walls.length = wn) := Lib.hid hin.wl.1
  have HCN : Hid (h.crs.length = cn) := Lib.hid hin.cl.1
  have hn8 : rn ≤ 8 := by rw [← HRN.out]; exact ok.n8
  have HTBD := Lib.hid htb
  have HBB := Lib.hid (fun j k => brV_bd ok htb hlb ho hp j k)
  have KL := Lib.hid (fun (hb : Nat) (H : List Int) (W : World) (hW : Below w.heap.size w W) (hle : w.heap.size ≤ hb) (hH : Blk W hb 3 (intsA H)) (hHn : H.length = rn) (hHb : ∀ j, -10000000000000 ≤ H.getD j 0 ∧ H.getD j 0 ≤ 10000000000000) => loads_any rA wA bA cA lA tA rn rc wn wc bn bc cn cc lc tc out pump hb l H 10000000000000 W hn8 ((hl.below hW).more hle) hH hHn hlb (by omega) hHb)
  have KW := Lib.hid (fun (hb : Nat) (H : List Int) (W : World) (hW : Below w.heap.size w W) (hle : w.heap.size ≤ hb) (hH : Blk W hb 3 (intsA H)) (hHn : H.length = rn) (hHb : ∀ j, -10000000000000 ≤ H.getD j 0 ∧ H.getD j 0 ≤ 10000000000000) => walls_any rA wA bA cA lA tA rn rc wn wc bn bc cn cc lc tc out pump hb h t H 10000000000000 W ((hin.below hW).more hle) ok ho ((ht.below hW).more hle) htb hH hHn (by omega) hHb)
  have KC := Lib.hid (fun (hb : Nat) (H : List Int) (W : World) (hW : Below w.heap.size w W) (hle : w.heap.size ≤ hb) (hH : Blk W hb 3 (intsA H)) (hHn : H.length = rn) (hHb : ∀ j, -10000000000000 ≤ H.getD j 0 ∧ H.getD j 0 ≤ 10000000000000) => coolers_any rA wA bA cA lA tA rn rc wn wc bn bc cn cc lc tc out pump hb h t H 10000000000000 W ((hin.below hW).more hle) ok hp ((ht.below hW).more hle) htb hH hHn (by omega) hHb)
  have hmk := run_makeInts rn (by omega)
  have g1 : w.heap.size < w.heap.size + 1 := by omega
  have g2 : w.heap.size < w.heap.size + 1 + 1 := by omega
  have g3 : w.heap.size < w.heap.size + 1 + 1 + 1 := by omega
  clear hin ok ho hp ht htb hl hlb
  go_enter Try.func51, Try.ntmps51
  go_wp2_with fail
  obtain ⟨bx, hbx⟩ : ∃ z, z = w.heap.size := ⟨_, rfl⟩
  obtain ⟨w1, hw1⟩ : ∃ z, z = w.alloc (.cells #[.slice rA rn rc, .slice wA wn wc, .slice bA bn bc, .slice cA cn cc, .slice lA rn lc, .int .i64 out, .int .i64 pump, .slice tA rn tc] 110) := ⟨_, rfl⟩
  have BX : Hid (Blk w1 bx 110 #[.slice rA rn rc, .slice wA wn wc, .slice bA bn bc, .slice cA cn cc, .slice lA rn lc, .int .i64 out, .int .i64 pump, .slice tA rn tc]) := Lib.hid (by rw [hw1, hbx]; exact heap_alloc_new w _)
  have Sw1 : Hid (w1.heap.size = bx + 1) := Lib.hid (by rw [hw1, hbx, World.size_alloc])
  have Zbx : Hid (w.heap.size ≤ bx) := Lib.hid (by rw [hbx]; exact Nat.le_refl _)
  have hBn : Below w.heap.size w w1 := by rw [hw1]; exact (Below.refl _ _).alloc (Nat.le_refl _) _
  rw [← hw1, ← hbx]
  have B0 : Hid (Below w.heap.size w w1) := Lib.hid hBn
  clear hw1 hbx hBn
  obtain ⟨hb, hhb⟩ : ∃ z, z = bx + 1 := ⟨_, rfl⟩
  obtain ⟨w2, hw2⟩ : ∃ z, z = w1.alloc (.cells (intsA (List.replicate rn 0)) 3) := ⟨_, rfl⟩
  have HB : Hid (Blk w2 hb 3 (intsA (List.replicate rn 0))) := Lib.hid (by have e2 := heap_alloc_new w1 (.cells (intsA (List.replicate rn 0)) 3); rw [Sw1.out] at e2; rw [hw2, hhb]; exact e2)
  have Sw2 : Hid (w2.heap.size = hb + 1) := Lib.hid (by rw [hw2, hhb, World.size_alloc, Sw1.out])
  have Zhb : Hid (w1.heap.size = hb) := Lib.hid (by rw [Sw1.out, hhb])
  have hBn : Below w1.heap.size w1 w2 := by rw [hw2]; exact (Below.refl _ _).alloc (Nat.le_refl _) _
  rw [← hw2, ← hhb]
  have B1 : Hid (Below w1.heap.size w1 w2) := Lib.hid hBn
  clear hw2 hhb hBn
  obtain ⟨fb, hfb⟩ : ∃ z, z = hb + 1 := ⟨_, rfl⟩
  obtain ⟨w3, hw3⟩ : ∃ z, z = w2.alloc (.cells #[.func (.func 76) #[.agg #[.slice rA rn rc, .slice wA wn wc, .slice bA bn bc, .slice cA cn cc, .slice lA rn lc, .int .i64 out, .int .i64 pump, .slice tA rn tc]] #[], .func (.func 77) #[.agg #[.slice rA rn rc, .slice wA wn wc, .slice bA bn bc, .slice cA cn cc, .slice lA rn lc, .int .i64 out, .int .i64 pump, .slice tA rn tc]] #[], .func (.func 78) #[.agg #[.slice rA rn rc, .slice wA wn wc, .slice bA bn bc, .slice cA cn cc, .slice lA rn lc, .int .i64 out, .int .i64 pump, .slice tA rn tc]] #[]] 135) := ⟨_, rfl⟩
  have FB : Hid (Blk w3 fb 135 #[.func (.func 76) #[.agg #[.slice rA rn rc, .slice wA wn wc, .slice bA bn bc, .slice cA cn cc, .slice lA rn lc, .int .i64 out, .int .i64 pump, .slice tA rn tc]] #[], .func (.func 77) #[.agg #[.slice rA rn rc, .slice wA wn wc, .slice bA bn bc, .slice cA cn cc, .slice lA rn lc, .int .i64 out, .int .i64 pump, .slice tA rn tc]] #[], .func (.func 78) #[.agg #[.slice rA rn rc, .slice wA wn wc, .slice bA bn bc, .slice cA cn cc, .slice lA rn lc, .int .i64 out, .int .i64 pump, .slice tA rn tc]] #[]]) := Lib.hid (by have e2 := heap_alloc_new w2 (.cells #[.func (.func 76) #[.agg #[.slice rA rn rc, .slice wA wn wc, .slice bA bn bc, .slice cA cn cc, .slice lA rn lc, .int .i64 out, .int .i64 pump, .slice tA rn tc]] #[], .func (.func 77) #[.agg #[.slice rA rn rc, .slice wA wn wc, .slice bA bn bc, .slice cA cn cc, .slice lA rn lc, .int .i64 out, .int .i64 pump, .slice tA rn tc]] #[], .func (.func 78) #[.agg #[.slice rA rn rc, .slice wA wn wc, .slice bA bn bc, .slice cA cn cc, .slice lA rn lc, .int .i64 out, .int .i64 pump, .slice tA rn tc]] #[]] 135); rw [Sw2.out] at e2; rw [hw3, hfb]; exact e2)
  have Sw3 : Hid (w3.heap.size = fb + 1) := Lib.hid (by rw [hw3, hfb, World.size_alloc, Sw2.out])
  have Zfb : Hid (w2.heap.size = fb) := Lib.hid (by rw [Sw2.out, hfb])
  have hBn : Below w2.heap.size w2 w3 := by rw [hw3]; exact (Below.refl _ _).alloc (Nat.le_refl _) _
  rw [← hw3, ← hfb]
  have B2 : Hid (Below w2.heap.size w2 w3) := Lib.hid hBn
  clear hw3 hfb hBn
  clear g1 g2 g3
  have HBL : Hid (w.heap.size ≤ hb) := Lib.hid (Nat.le_trans (B0.out).size (Nat.le_of_eq Zhb.out))
  have HNE : Hid (bx ≠ hb ∧ fb ≠ hb) := Lib.hid (by have h1 := Zhb.out; have h2 := Zfb.out; have h3 := Sw1.out; have h4 := Sw2.out; omega)
  have HLOW : Hid (Below w.heap.size w w3) := Lib.hid (below3 (below3 B0.out B1.out (Nat.le_refl _)) B2.out (Nat.le_refl _))
  have HH3 : Hid (Blk w3 hb 3 (intsA (List.replicate rn 0))) := Lib.hid (HB.out.below B2.out HB.out.lt)
  have HX3 := Lib.hid (BX.out.below (below3 B1.out B2.out (Nat.le_refl _)) BX.out.lt)
  go_loopw [22] (fun i wr => ∃ k : Nat, k ≤ 3 ∧ i = .int .i64 ((k : Nat) : Int) ∧ ∃ L, Hid (Keep (fun i => i = hb) w3 wr ∧ Blk wr hb 3 (intsA L) ∧ L.length = rn ∧ ∀ j, j < rn → L.getD j 0 = brV h t l out pump j k)) (fun i _ => 3 - (intOf i).toNat)
  case atStart => exact ⟨0, by omega, rfl, List.replicate rn 0, Lib.hid ⟨Keep.refl _ _, HH3.out, List.length_replicate .., fun j hj => by rw [List.getD_eq_getElem?_getD]; simp [hj, brV]⟩⟩
  case round =>
    obtain ⟨k, hk, rfl, L, HW⟩ := hrel
    have HBW : Hid (Below w.heap.size w wr) := Lib.hid (HLOW.out.trans (HW.out.1.below HLOW.out.size (fun b e => by rw [e]; exact HBL.out)))
    have HLB : Hid (∀ j, -10000000000000 ≤ L.getD j 0 ∧ L.getD j 0 ≤ 10000000000000) := Lib.hid (fun j => by
      by_cases hj : j < rn
      · rw [HW.out.2.2.2 j hj]; exact HBB.out j k
      · rw [List.getD_eq_getElem?_getD, List.getElem?_eq_none (by rw [HW.out.2.2.1]; omega)]; simp)
    by_cases hlt : k < 3
    · have hbk := HW.out.1.blk FB.out HNE.out.2
      have f0 := hbk.cell 0
      have f1 := hbk.cell 1
      have f2 := hbk.cell 2
      have zf := hbk.lt
      simp only [List.getElem?_toArray, List.getElem?_cons_zero, List.getElem?_cons_succ] at f0 f1 f2
      clear hbk
      obtain rfl | rfl | rfl : k = 0 ∨ k = 1 ∨ k = 2 := by omega
      · have C := Lib.hid (KL.out hb L wr HBW.out HBL.out HW.out.2.1 HW.out.2.2.1 HLB.out)
        go_wp2_with fail
        refine C.out.mono ?_
        rintro e w5 ⟨rfl, hK5, L2, hL2, hn2, hv2⟩
        have HN : Hid (Keep (fun i => i = hb) w3 w5 ∧ Blk w5 hb 3 (intsA L2) ∧ L2.length = rn ∧ ∀ j, j < rn → L2.getD j 0 = brV h t l out pump j (0 + 1)) := Lib.hid ⟨HW.out.1.trans hK5, hL2, hn2, fun j hj => by
          have h1 := hv2 j hj
          rw [HW.out.2.2.2 j hj] at h1
          rw [h1]
          show 0 + _ = _; rw [Int.zero_add]; rfl⟩
        clear hK5 hL2 hn2 hv2 f0 f1 f2 zf C
        go_wp2
        go_roundw
        case rel => exact ⟨0 + 1, by omega, by go_num, L2, HN⟩
        case measure => simp [intOf]
      · have C := Lib.hid (KW.out hb L wr HBW.out HBL.out HW.out.2.1 HW.out.2.2.1 HLB.out)
        go_wp2_with fail
        refine C.out.mono ?_
        rintro e w5 ⟨rfl, hK5, L2, hL2, hn2, hv2⟩
        have HN : Hid (Keep (fun i => i = hb) w3 w5 ∧ Blk w5 hb 3 (intsA L2) ∧ L2.length = rn ∧ ∀ j, j < rn → L2.getD j 0 = brV h t l out pump j (1 + 1)) := Lib.hid ⟨HW.out.1.trans hK5, hL2, hn2, fun j hj => by
          have h1 := hv2 j hj
          rw [HW.out.2.2.2 j hj] at h1
          rw [h1]
          rw [← HWN.out]; rfl⟩
        clear hK5 hL2 hn2 hv2 f0 f1 f2 zf C
        go_wp2
        go_roundw
        case rel => exact ⟨1 + 1, by omega, by go_num, L2, HN⟩
        case measure => simp [intOf]
      · have C := Lib.hid (KC.out hb L wr HBW.out HBL.out HW.out.2.1 HW.out.2.2.1 HLB.out)
        go_wp2_with fail
        refine C.out.mono ?_
        rintro e w5 ⟨rfl, hK5, L2, hL2, hn2, hv2⟩
        have HN : Hid (Keep (fun i => i = hb) w3 w5 ∧ Blk w5 hb 3 (intsA L2) ∧ L2.length = rn ∧ ∀ j, j < rn → L2.getD j 0 = brV h t l out pump j (2 + 1)) := Lib.hid ⟨HW.out.1.trans hK5, hL2, hn2, fun j hj => by
          have h1 := hv2 j hj
          rw [HW.out.2.2.2 j hj] at h1
          rw [h1]
          rw [← HCN.out]; rfl⟩
        clear hK5 hL2 hn2 hv2 f0 f1 f2 zf C
        go_wp2
        go_roundw
        case rel => exact ⟨2 + 1, by omega, by go_num, L2, HN⟩
        case measure => simp [intOf]
    · have HK3 : Hid (k = 3) := Lib.hid (by omega)
      have d9 : decide (((k : Nat) : Int) < 3) = false := decide_eq_false (by omega)
      have d8 : ¬ (((k : Nat) : Int) < 3) := by omega
      obtain ⟨wA, hwA⟩ : ∃ z, z = wr := ⟨wr, rfl⟩
      subst hwA
      have hbk := HW.out.1.blk HX3.out HNE.out.1
      have d0 := hbk.cell 0
      have zd := hbk.lt
      simp only [List.getElem?_toArray, List.getElem?_cons_zero, List.getElem?_cons_succ] at d0
      have HBXA := Lib.hid hbk
      have g1 : wA.heap.size < wA.heap.size + 1 := by omega
      clear hbk
      go_wp2_with fail
      obtain ⟨lb, hlb9⟩ : ∃ z, z = wA.heap.size := ⟨_, rfl⟩
      obtain ⟨w4, hw4⟩ : ∃ z, z = wA.alloc (.cells (intsA (List.replicate rn 0)) 3) := ⟨_, rfl⟩
      have hBn : Below wA.heap.size wA w4 := by rw [hw4]; exact (Below.refl _ _).alloc (Nat.le_refl _) _
      have HL1 : Hid (Blk w4 lb 3 (intsA ((nxL h t l out pump).take 0 ++ List.replicate (rn - 0) 0))) := Lib.hid (by rw [hw4, hlb9]; exact heap_alloc_new wA _)
      have HLOWA := Lib.hid hBn
      have HLBB : Hid (wA.heap.size ≤ lb) := Lib.hid (Nat.le_of_eq hlb9.symm)
      rw [← hw4, ← hlb9]
      have HRA := Lib.hid ((HI.out.below HBW.out).more HBW.out.size).rm
      have HTA := Lib.hid ((HT.out.below HBW.out).more HBW.out.size)
      have HHA := Lib.hid HW.out.2.1
      have HHN : Hid (L.length = rn ∧ ∀ j, j < rn → L.getD j 0 = htV h t l out pump j) := Lib.hid ⟨HW.out.2.2.1, fun j hj => by have h1 := HW.out.2.2.2 j hj; rw [HK3.out] at h1; exact h1⟩
      have HHBD : Hid (∀ j, j < rn → -10000000000000 ≤ L.getD j 0 ∧ L.getD j 0 ≤ 10000000000000) := Lib.hid (fun j _ => HLB.out j)
      clear hw4 hlb9 hBn hmk d0 zd g1 HW
      go_loopw [39] (fun i wr => ∃ k : Nat, k ≤ rn ∧ i = .int .i64 ((k : Nat) : Int) ∧ Hid (Below wA.heap.size wA wr ∧ Blk wr lb 3 (intsA ((nxL h t l out pump).take k ++ List.replicate (rn - k) 0)))) (fun i _ => rn - (intOf i).toNat)
      case atStart => exact ⟨0, by omega, rfl, Lib.hid ⟨HLOWA.out, HL1.out⟩⟩
      case round =>
        obtain ⟨k, hk, rfl, HW⟩ := hrel
        by_cases hlt : k < rn
        · obtain ⟨b, off, x, e1, hb9, hx, hcx⟩ := (HRA.out.next HW.out.1).at_ hlt
          subst e1
          obtain ⟨c0, c1⟩ := Rom.cells hcx
          have zb : b < wr.heap.size := hb9
          have hk0 : (0 : Int) ≤ (k : Int) := by omega
          have hkn : (k : Int) < (rn : Int) := by omega
          have g1 : wr.heap.size < wr.heap.size + 1 := by omega
          have h1 := (OK.out.rom x (List.mem_of_getElem? hx)).1
          have hrx : h.rooms.getD k ⟨0, 0⟩ = x := by rw [List.getD_eq_getElem?_getD, hx]; rfl
          have hln : (nxL h t l out pump).length = rn := by rw [nxL_len]; exact HRN.out
          have htk := nxL_get (h := h) (t := t) (l := l) (out := out) (pump := pump) (show k < h.rooms.length by rw [HRN.out]; exact hlt)
          have hlt' : ((nxL h t l out pump).take k).length = k := by rw [List.length_take]; omega
          obtain ⟨m, hm⟩ : ∃ m, rn - k = m + 1 := ⟨rn - k - 1, by omega⟩
          have HNX : Hid (((nxL h t l out pump).take k ++ List.replicate (rn - k) 0).set k (nxV h t l out pump k) = (nxL h t l out pump).take (k + 1) ++ List.replicate (rn - (k + 1)) 0) := Lib.hid (by
            have h2 := set_fill' ((nxL h t l out pump).take k) m (nxV h t l out pump k)
            rw [hlt'] at h2
            rw [hm, h2, List.take_add_one, htk, show rn - (k + 1) = m by omega]
            rfl)
          have HZ0 : Hid (((nxL h t l out pump).take k ++ List.replicate (rn - k) 0)[k]? = some 0) := Lib.hid (by
            have h2 := fill_at' ((nxL h t l out pump).take k) m
            rw [hlt'] at h2
            rw [hm]; exact h2)
          obtain ⟨Z, hZ⟩ : ∃ z, z = nxV h t l out pump k := ⟨_, rfl⟩
          rw [← hZ] at HNX
          unfold nxV at hZ
          rw [hrx] at hZ
          obtain ⟨st, lim⟩ := x
          dsimp only at h1 c0 c1 hZ
          obtain ⟨tb, to', ta, e2, htb9, htx, htc⟩ := HTA.out.at_ hlt
          subst e2
          have hgt : t.getD k 0 = ta := by rw [List.getD_eq_getElem?_getD, htx]; rfl
          have hta := HTBD.out ta (List.mem_of_getElem? htx)
          have HTC : Hid (tb < wA.heap.size ∧ wA.cell? ⟨tb, to' + k, none⟩ = some (.int .i64 ta)) := Lib.hid ⟨htb9, cellI htc⟩
          rw [hgt, ← HHN.out.2 k hlt] at hZ
          obtain ⟨Hk, hHk⟩ : ∃ z, z = L.getD k 0 := ⟨_, rfl⟩
          have hhb := HHBD.out k hlt
          have HHK : Hid (L[k]? = some Hk) := Lib.hid (by rw [hHk]; exact some_getD (by rw [HHN.out.1]; exact hlt))
          rw [← hHk] at hZ hhb
          obtain ⟨Pp, hP⟩ : ∃ z, z = st * ta := ⟨_, rfl⟩
          have hp1 : 0 ≤ Pp := by rw [hP]; exact Int.mul_nonneg (by omega) hta.1
          have hp2 : Pp ≤ 1000000 * 1000000 := by rw [hP]; exact Int.mul_le_mul h1.2 hta.2 hta.1 (by omega)
          rw [← hP] at hZ
          obtain ⟨Q, hQ⟩ : ∃ z, z = Pp + Hk := ⟨_, rfl⟩
          rw [← hQ] at hZ
          obtain ⟨q, hq⟩ : ∃ z, z = Q.tdiv st := ⟨_, rfl⟩
          have hqa : q.natAbs ≤ Q.natAbs := by rw [hq]; exact tdiv_abs
          rw [← hq] at hZ
          have HAR : Hid (IntKind.i64.wrap (st * ta) = Pp ∧ IntKind.i64.wrap (Pp + Hk) = Q ∧ (Q.tdiv st = q ∧ IntKind.i64.wrap q = q ∧ ¬ st = 0) ∧ min 1000000 q = Z) := Lib.hid ⟨by rw [← hP]; exact IntWalk.i64_in _ (by omega), by rw [← hQ]; exact IntWalk.i64_in _ (by omega), ⟨hq.symm, IntWalk.i64_in _ (by omega), by omega⟩, hZ.symm⟩
          clear hx hcx hb9 h1 hrx hln htk hlt' hm hZ htb9 htx htc hgt hta hHk hhb hP hp1 hp2 hQ hq hqa
          go_wp2_with fail
          obtain ⟨xb, hxb⟩ : ∃ z, z = wr.heap.size := ⟨_, rfl⟩
          obtain ⟨wx, hwx⟩ : ∃ z, z = wr.alloc (.cells #[.int .i64 st, .int .i64 lim] 61) := ⟨_, rfl⟩
          have hBa : Below wr.heap.size wr wx := by rw [hwx]; exact (Below.refl _ _).alloc (Nat.le_refl _) _
          have hbx : Blk wx xb 61 #[.int .i64 st, .int .i64 lim] := by rw [hwx, hxb]; exact heap_alloc_new wr _
          have HX := Lib.hid (And.intro (below3 HW.out.1 hBa (Nat.le_refl _)) (And.intro hbx (HW.out.2.below hBa HW.out.2.lt)))
          have HXB : Hid (lb < xb) := Lib.hid (by rw [hxb]; exact HW.out.2.lt)
          rw [← hwx, ← hxb]
          clear hBa hbx hwx hxb c0 c1 zb g1
          refine wp_region_free10 20 (by kernel_rfl) [some 44, some 45, some 46, some 47, some 48, some 49, some 50, some 51, some 52, some 53, some 54, some 55, some 56, some 57, some 58, some 59, some 60, some 61, some 62, some 63, none] [[], [], [], [2], [], [4], [], [5, 6], [7], [3, 8], [], [], [10, 11], [12], [9, 13], [], [15], [14, 16], [17], [0, 1, 0, 1, 2, 3, 4, 5, 6, 7, 8, 9, 10, 11, 12, 13, 14, 15, 16, 17, 18], [19, 18, 0, 1, 2, 3, 4, 5, 6, 7, 8, 9, 10, 11, 12, 13, 14, 15, 16, 17, 18]] [(6, .slice (some ⟨lb, 0, none⟩) rn rn), (7, .int .i64 (k : Int)), (8, .pointer (some ⟨xb, 0, none⟩)), (1, .pointer (some ⟨bx, 0, none⟩)), (3, .slice (some ⟨hb, 0, none⟩) rn rn)] (fun W γ => Below wA.heap.size wA W ∧ Blk W xb 61 #[.int .i64 st, .int .i64 lim] ∧ (γ 0 = 0 → Blk W lb 3 (intsA ((nxL h t l out pump).take k ++ List.replicate (rn - k) 0)))) (x14Phi lb xb bx tb to' hb rn tc k st ta Pp Hk Q q Z (((nxL h t l out pump).take k ++ List.replicate (rn - k) 0).set k Z)) (fun _ _ γ => γ 0 = 0) (by kernel_rfl) (by kernel_rfl) rfl (by kernel_rfl) ?_ ?_ ⟨fun _ => 0, ⟨HX.out.1.drew, HX.out.2.1.below (Below.refl _ _).drew HX.out.2.1.lt, fun _ => HX.out.2.2.below (Below.refl _ _).drew HX.out.2.2.lt⟩, fun i _ => rfl⟩ ?_ ?_
          · intro z hz
            simp only [List.mem_cons, List.mem_nil_iff, or_false] at hz
            rcases hz with rfl | rfl | rfl | rfl | rfl
            all_goals exact ⟨by kernel_rfl, rfl⟩
          · intro i v W γ hi h
            rcases i with _ | _ | _ | _ | _ | _ | _ | _ | _ | _ | _ | _ | _ | _ | _ | _ | _ | _ | _ | _ | _ | i
            all_goals first | exact h | (simp at hi)
          · refine ⟨?_, ?_, ?_, ?_, ?_, ?_, ?_, ?_, ?_, ?_, ?_, ?_, ?_, ?_, ?_, ?_, ?_, ?_, ?_, ?_, ?_, trivial⟩
            all_goals
              intro a9 W γ ev hcc hff hfx hR hψ hpre
              simp only [List.mem_cons, List.mem_nil_iff, or_false, forall_eq, forall_eq_or_imp] at hfx
              obtain ⟨f0, f1, f2, f3, f4⟩ := hfx
              have HR := Lib.hid hR
              clear hR
            · refine ⟨fun hg K hK => ?_, trivial⟩
              clear hg
              clear hpre hψ
              go_simp
              exact hK _ _ γ HR.out (fun _ _ _ _ h => h) (fun _ _ _ h => h) rfl
            · refine ⟨fun hg K hK => ?_, trivial⟩
              clear hg
              clear hpre hψ
              go_simp
              exact hK _ _ γ HR.out (fun _ _ _ _ h => h) (fun _ _ _ h => h) rfl
            · refine ⟨fun hg K hK => ?_, trivial⟩
              clear hg
              clear hpre hψ
              go_simp
              exact hK _ _ γ HR.out (fun _ _ _ _ h => h) (fun _ _ _ h => h) rfl
            · refine ⟨fun hg K hK => ?_, trivial⟩
              clear hg
              have q0 : ev (.tmp 46) = _ := hpre 2 (by decide)
              have hbk := HR.out.2.1
              have hzg := hbk.lt
              have e0 := hbk.cell 0
              simp only [List.getElem?_toArray, List.getElem?_cons_zero, List.getElem?_cons_succ] at e0
              clear hbk
              clear hpre hψ
              go_simp
              exact hK _ _ γ HR.out (fun _ _ _ _ h => h) (fun _ _ _ h => h) rfl
            · refine ⟨fun hg K hK => ?_, trivial⟩
              clear hg
              clear hpre hψ
              go_simp
              exact hK _ _ γ HR.out (fun _ _ _ _ h => h) (fun _ _ _ h => h) rfl
            · refine ⟨fun hg K hK => ?_, trivial⟩
              clear hg
              have q0 : ev (.tmp 48) = _ := hpre 4 (by decide)
              have hbk := HBXA.out.below HR.out.1 HBXA.out.lt
              have hzg := hbk.lt
              have e7 := hbk.cell 7
              simp only [List.getElem?_toArray, List.getElem?_cons_zero, List.getElem?_cons_succ] at e7
              clear hbk
              clear hpre hψ
              go_simp
              exact hK _ _ γ HR.out (fun _ _ _ _ h => h) (fun _ _ _ h => h) rfl
            · refine ⟨fun hg K hK => ?_, trivial⟩
              clear hg
              clear hpre hψ
              go_simp
              exact hK _ _ γ HR.out (fun _ _ _ _ h => h) (fun _ _ _ h => h) rfl
            · refine ⟨fun hg K hK => ?_, trivial⟩
              clear hg
              have q0 : ev (.tmp 49) = _ := hpre 5 (by decide)
              have q1 : ev (.tmp 50) = _ := hpre 6 (by decide)
              clear hpre hψ
              go_simp
              exact hK _ _ γ HR.out (fun _ _ _ _ h => h) (fun _ _ _ h => h) rfl
            · refine ⟨fun hg K hK => ?_, trivial⟩
              clear hg
              have q0 : ev (.tmp 51) = _ := hpre 7 (by decide)
              have hca : W.cell? ⟨tb, to' + k, none⟩ = some (.int .i64 ta) := (HR.out.1.cell (p := ⟨tb, to' + k, none⟩) HTC.out.1).trans HTC.out.2
              have hza : tb < W.heap.size := block_of_cell hca
              clear hpre hψ
              go_simp
              exact hK _ _ γ HR.out (fun _ _ _ _ h => h) (fun _ _ _ h => h) rfl
            · refine ⟨fun hg K hK => ?_, trivial⟩
              clear hg
              have q0 : ev (.tmp 47) = _ := hpre 3 (by decide)
              have q1 : ev (.tmp 52) = _ := hpre 8 (by decide)
              have wm := HAR.out.1
              clear hpre hψ
              go_simp
              exact hK _ _ γ HR.out (fun _ _ _ _ h => h) (fun _ _ _ h => h) rfl
            · refine ⟨fun hg K hK => ?_, trivial⟩
              clear hg
              clear hpre hψ
              go_simp
              exact hK _ _ γ HR.out (fun _ _ _ _ h => h) (fun _ _ _ h => h) rfl
            · refine ⟨fun hg K hK => ?_, trivial⟩
              clear hg
              clear hpre hψ
              go_simp
              exact hK _ _ γ HR.out (fun _ _ _ _ h => h) (fun _ _ _ h => h) rfl
            · refine ⟨fun hg K hK => ?_, trivial⟩
              clear hg
              have q0 : ev (.tmp 54) = _ := hpre 10 (by decide)
              have q1 : ev (.tmp 55) = _ := hpre 11 (by decide)
              clear hpre hψ
              go_simp
              exact hK _ _ γ HR.out (fun _ _ _ _ h => h) (fun _ _ _ h => h) rfl
            · refine ⟨fun hg K hK => ?_, trivial⟩
              clear hg
              have q0 : ev (.tmp 56) = _ := hpre 12 (by decide)
              have hbk := HHA.out.below HR.out.1 HHA.out.lt
              have hzg := hbk.lt
              have ca := hbk.intAt HHK.out
              clear hbk
              clear hpre hψ
              go_simp
              exact hK _ _ γ HR.out (fun _ _ _ _ h => h) (fun _ _ _ h => h) rfl
            · refine ⟨fun hg K hK => ?_, trivial⟩
              clear hg
              have q0 : ev (.tmp 53) = _ := hpre 9 (by decide)
              have q1 : ev (.tmp 57) = _ := hpre 13 (by decide)
              have wm := HAR.out.2.1
              clear hpre hψ
              go_simp
              exact hK _ _ γ HR.out (fun _ _ _ _ h => h) (fun _ _ _ h => h) rfl
            · refine ⟨fun hg K hK => ?_, trivial⟩
              clear hg
              clear hpre hψ
              go_simp
              exact hK _ _ γ HR.out (fun _ _ _ _ h => h) (fun _ _ _ h => h) rfl
            · refine ⟨fun hg K hK => ?_, trivial⟩
              clear hg
              have q0 : ev (.tmp 59) = _ := hpre 15 (by decide)
              have hbk := HR.out.2.1
              have hzg := hbk.lt
              have e0 := hbk.cell 0
              simp only [List.getElem?_toArray, List.getElem?_cons_zero, List.getElem?_cons_succ] at e0
              clear hbk
              clear hpre hψ
              go_simp
              exact hK _ _ γ HR.out (fun _ _ _ _ h => h) (fun _ _ _ h => h) rfl
            · refine ⟨fun hg K hK => ?_, trivial⟩
              clear hg
              have q0 : ev (.tmp 58) = _ := hpre 14 (by decide)
              have q1 : ev (.tmp 60) = _ := hpre 16 (by decide)
              have tq := HAR.out.2.2.1.1
              have wq := HAR.out.2.2.1.2.1
              have s0 := HAR.out.2.2.1.2.2
              clear hpre hψ
              go_simp
              exact hK _ _ γ HR.out (fun _ _ _ _ h => h) (fun _ _ _ h => h) rfl
            · refine ⟨fun hg K hK => ?_, trivial⟩
              clear hg
              have q0 : ev (.tmp 61) = _ := hpre 17 (by decide)
              have wm := HAR.out.2.2.2
              clear hpre hψ
              go_simp
              exact hK _ _ γ HR.out (fun _ _ _ _ h => h) (fun _ _ _ h => h) rfl
            · refine ⟨fun hg K hK => ?_, trivial⟩
              clear hg
              have q0 : ev (.tmp 44) = _ := hpre 0 (by decide)
              have q1 : ev (.tmp 45) = _ := hpre 1 (by decide)
              clear hpre hψ
              go_simp
              exact hK _ _ γ HR.out (fun _ _ _ _ h => h) (fun _ _ _ h => h) rfl
            · refine ⟨fun hg K hK => ?_, trivial⟩
              clear hg
              have q0 : ev (.tmp 62) = _ := hpre 18 (by decide)
              have q1 : ev (.tmp 63) = _ := hpre 19 (by decide)
              have hlb := HR.out.2.2 hψ
              have zl := hlb.lt
              have fl9 := hlb.frozen
              have ca := hlb.intAt HZ0.out
              have HR9 := Lib.hid (And.intro HR.out.1 (And.intro HR.out.2.1 hlb))
              clear hpre hψ hlb
              go_simp
              refine hK undef _ (fun _ => 1) ⟨HR9.out.1.setCell HLBB.out _, HR9.out.2.1.far (Nat.ne_of_gt HXB.out) _, fun e => by simp at e⟩ (fun j u _ hne h => x14Phi_w hne h) (fun h => absurd rfl h) ?_
              have h9 := HR9.out.2.2.set_ k (.int .i64 Z)
              rw [intsA_set] at h9
              exact h9
          · intro vs wy γ hvl hR hφ
            have q20 := hφ 20 (by decide)
            have HR := Lib.hid hR
            clear hφ hR
            match vs, hvl with
            | [y0, y1, y2, y3, y4, y5, y6, y7, y8, y9, y10, y11, y12, y13, y14, y15, y16, y17, y18, y19, y20], _ =>
            simp only [List.getD_cons_zero, List.getD_cons_succ] at q20
            have HN : Hid (Below wA.heap.size wA wy ∧ Blk wy lb 3 (intsA ((nxL h t l out pump).take (k + 1) ++ List.replicate (rn - (k + 1)) 0))) := Lib.hid ⟨HR.out.1, by rw [← HNX.out]; exact q20⟩
            clear HR
            simp [putAll]
            go_wp2
            go_roundw
            case rel => exact ⟨k + 1, by omega, by go_num, HN⟩
            case measure => simp [intOf]; omega
        · obtain rfl : rn = k := by omega
          have HF : Hid (Blk wr lb 3 (intsA (nxL h t l out pump))) := Lib.hid (by have h9 := HW.out.2; rw [List.take_of_length_le (by rw [nxL_len, HRN.out]; exact Nat.le_refl _), Nat.sub_self, List.replicate_zero, List.append_nil] at h9; exact h9)
          go_wp2
          go_ret
          exact ⟨lb, rfl, HF.out, Nat.le_trans HBW.out.size HLBB.out, below3 HBW.out HW.out.1 (Nat.le_refl _)⟩
end Go.Proofs.Ytldbciflpnhfpaa
