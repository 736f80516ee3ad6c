/- heat: flows. -/
import Derived.Test.YtldbciflpnhfpaaHtB

set_option linter.unusedSimpArgs false
set_option linter.unusedVariables false
namespace Go.Proofs.Ytldbciflpnhfpaa
open Go.RowKit

def flL (h : Hl) (pump : Int) : List Int := (List.range h.brs.length).map (fl h pump)
theorem flL_len (h : Hl) (pump : Int) : (flL h pump).length = h.brs.length := by simp [flL]
theorem flL_get {h : Hl} {pump : Int} {i : Nat} (hi : i < h.brs.length) : (flL h pump)[i]? = some (fl h pump i) := by simp [flL, hi]
theorem flL_end {h : Hl} (ok : HlOk h) {pump : Int} {bn : Nat} {L L' : List Int} (hb : h.brs.length = bn) (e : FlEnd h pump bn 0 L L') : L' = flL h pump := by
  apply List.ext_getElem?
  intro i
  by_cases hi : i < h.brs.length
  · rw [flL_get hi]
    have h1 := e.new i (desc_all ok i hi)
    have h2 : i < L'.length := by rw [e.len]; omega
    rw [List.getD_eq_getElem?_getD, List.getElem?_eq_getElem h2] at h1
    rw [List.getElem?_eq_getElem h2]
    exact congrArg some h1
  · rw [List.getElem?_eq_none (by rw [e.len]; omega), List.getElem?_eq_none (by rw [flL_len]; omega)]
set_option maxRecDepth 100000 in
set_option maxHeartbeats 4000000 in
theorem flows_any (rA wA bA cA : Option Addr) (rn rc wn wc bn bc cn cc : Nat) (h : Hl) (w : World) (hin : HlIn w w.heap.size ⟨rA, wA, bA, cA, rn, wn, bn, cn⟩ h) (ok : HlOk h) (pump : Int) (hp : 0 ≤ pump ∧ pump ≤ 100000) :
    Calls Try.prog 49 #[.agg #[.slice rA rn rc, .slice wA wn wc, .slice bA bn bc, .slice cA cn cc], .int .i64 pump] w fun e w' => ∃ lb, e = .returned (.slice (some ⟨lb, 0, none⟩) bn bn) ∧ Blk w' lb 3 (intsA (flL h pump)) ∧ w.heap.size ≤ lb ∧ Below w.heap.size w w' := by
  have HI := Lib.hid hin
  have OK := Lib.hid ok
  have HP := Lib.hid hp
  have HBN : Hid (h.brs.length = bn) := Lib.hid hin.br.1
  have hb16 : bn ≤ 16 := by rw [← HBN.out]; exact ok.b16
  have g1 : w.heap.size < w.heap.size + 1 := by omega
  have g2 : w.heap.size < w.heap.size + 1 + 1 := by omega
  have g3 : w.heap.size < w.heap.size + 1 + 1 + 1 := by omega
  have hmk := run_makeInts bn (by omega)
  clear hin ok hp
  go_enter Try.func49, Try.ntmps49
  go_wp2_with fail
  obtain ⟨hx, hhx⟩ : ∃ z, z = w.heap.size := ⟨_, rfl⟩
  obtain ⟨w1, hw1⟩ : ∃ z, z = w.alloc (.cells #[.slice rA rn rc, .slice wA wn wc, .slice bA bn bc, .slice cA cn cc] 28) := ⟨_, rfl⟩
  have HX : Hid (Blk w1 hx 28 #[.slice rA rn rc, .slice wA wn wc, .slice bA bn bc, .slice cA cn cc]) := Lib.hid (by rw [hw1, hhx]; exact heap_alloc_new w _)
  have Sw1 : Hid (w1.heap.size = hx + 1) := Lib.hid (by rw [hw1, hhx, World.size_alloc])
  have Zhx : Hid (w.heap.size ≤ hx) := Lib.hid (by rw [hhx]; exact Nat.le_refl _)
  have hBn : Below w.heap.size w w1 := by rw [hw1]; exact (Below.refl _ _).alloc (Nat.le_refl _) _
  rw [← hw1, ← hhx]
  have B0 : Hid (Below w.heap.size w w1) := Lib.hid hBn
  clear hw1 hhx hBn
  obtain ⟨lb, hlb⟩ : ∃ z, z = hx + 1 := ⟨_, rfl⟩
  obtain ⟨w2, hw2⟩ : ∃ z, z = w1.alloc (.cells (intsA (List.replicate bn 0)) 3) := ⟨_, rfl⟩
  have LB : Hid (Blk w2 lb 3 (intsA (List.replicate bn 0))) := Lib.hid (by have e2 := heap_alloc_new w1 (.cells (intsA (List.replicate bn 0)) 3); rw [Sw1.out] at e2; rw [hw2, hlb]; exact e2)
  have Sw2 : Hid (w2.heap.size = lb + 1) := Lib.hid (by rw [hw2, hlb, World.size_alloc, Sw1.out])
  have Zlb : Hid (w1.heap.size = lb) := Lib.hid (by rw [Sw1.out, hlb])
  have hBn : Below w1.heap.size w1 w2 := by rw [hw2]; exact (Below.refl _ _).alloc (Nat.le_refl _) _
  rw [← hw2, ← hlb]
  have B1 : Hid (Below w1.heap.size w1 w2) := Lib.hid hBn
  clear hw2 hlb hBn
  obtain ⟨lx, hlx⟩ : ∃ z, z = lb + 1 := ⟨_, rfl⟩
  obtain ⟨w3, hw3⟩ : ∃ z, z = w2.alloc (.cells #[.slice (some ⟨lb, 0, none⟩) bn bn] 30) := ⟨_, rfl⟩
  have LX : Hid (Blk w3 lx 30 #[.slice (some ⟨lb, 0, none⟩) bn bn]) := Lib.hid (by have e2 := heap_alloc_new w2 (.cells #[.slice (some ⟨lb, 0, none⟩) bn bn] 30); rw [Sw2.out] at e2; rw [hw3, hlx]; exact e2)
  have Sw3 : Hid (w3.heap.size = lx + 1) := Lib.hid (by rw [hw3, hlx, World.size_alloc, Sw2.out])
  have Zlx : Hid (w2.heap.size = lx) := Lib.hid (by rw [Sw2.out, hlx])
  have hBn : Below w2.heap.size w2 w3 := by rw [hw3]; exact (Below.refl _ _).alloc (Nat.le_refl _) _
  rw [← hw3, ← hlx]
  have B2 : Hid (Below w2.heap.size w2 w3) := Lib.hid hBn
  clear hw3 hlx hBn
  refine (openings_any rA wA bA cA rn rc wn wc bn bc cn cc h w3 (HI.out.next (below3 (below3 B0.out B1.out (Nat.le_refl _)) B2.out (Nat.le_refl _))) OK.out).mono ?_
  rintro e w4 ⟨ob, rfl, hob, hle, hB⟩
  have B3 : Hid (Below w3.heap.size w3 w4) := Lib.hid hB
  clear hB
  have HOB := Lib.hid hob
  have HOL := Lib.hid hle
  clear hob hle g1 g2 g3 hmk
  have hbk := LX.out.below B3.out LX.out.lt
  have l0 := hbk.cell 0
  simp only [List.getElem?_toArray, List.getElem?_cons_zero, List.getElem?_cons_succ] at l0
  have zl := hbk.lt
  clear hbk
  have g5 : w4.heap.size < w4.heap.size + 1 := by omega
  have g6 : w4.heap.size < w4.heap.size + 1 + 1 := by omega
  by_cases hz : bn = 0
  · subst hz
    go_wp2
    go_ret
    exact ⟨lb, rfl, by
      have h9 : flL h pump = [] := List.eq_nil_of_length_eq_zero (by rw [flL_len]; exact HBN.out)
      rw [h9]
      exact ((LB.out.below (below3 B2.out B3.out (Nat.le_refl _)) LB.out.lt).alloc _).alloc _, Nat.le_trans (B0.out).size (Nat.le_of_eq Zlb.out), below3 (below3 (below3 (below3 B0.out B1.out (Nat.le_refl _)) B2.out (Nat.le_refl _)) B3.out (Nat.le_refl _)) (((Below.refl _ _).alloc (Nat.le_refl _) _).alloc (by simp) _) (Nat.le_refl _)⟩
  · have hb0 : 0 < bn := by omega
    have hb1 : (0 : Int) < (bn : Int) := by omega
    have d0 : decide ((0 : Int) < (bn : Int)) = true := decide_eq_true hb1
    have d1 : decide (0 < bn) = true := decide_eq_true hb0
    go_wp2_with fail
    obtain ⟨ox, hox⟩ : ∃ z, z = w4.heap.size := ⟨_, rfl⟩
    obtain ⟨w5, hw5⟩ : ∃ z, z = w4.alloc (.cells #[.slice (some ⟨ob, 0, none⟩) bn bn] 30) := ⟨_, rfl⟩
    have OX : Hid (Blk w5 ox 30 #[.slice (some ⟨ob, 0, none⟩) bn bn]) := Lib.hid (by rw [hw5, hox]; exact heap_alloc_new w4 _)
    have Sw5 : Hid (w5.heap.size = ox + 1) := Lib.hid (by rw [hw5, hox, World.size_alloc])
    have Zox : Hid (w4.heap.size ≤ ox) := Lib.hid (by rw [hox]; exact Nat.le_refl _)
    have hBn : Below w4.heap.size w4 w5 := by rw [hw5]; exact (Below.refl _ _).alloc (Nat.le_refl _) _
    rw [← hw5, ← hox]
    have B4 : Hid (Below w4.heap.size w4 w5) := Lib.hid hBn
    clear hw5 hox hBn
    obtain ⟨fx, hfx⟩ : ∃ z, z = ox + 1 := ⟨_, rfl⟩
    rw [← hfx]
    obtain ⟨w6, hw6⟩ : ∃ z, z = w5.alloc (.cells #[.func (.func 75) #[] #[.pointer (some ⟨hx, 0, none⟩), .pointer (some ⟨lx, 0, none⟩), .pointer (some ⟨ox, 0, none⟩), .pointer (some ⟨fx, 0, none⟩)]] 134) := ⟨_, rfl⟩
    have FX : Hid (Blk w6 fx 134 #[.func (.func 75) #[] #[.pointer (some ⟨hx, 0, none⟩), .pointer (some ⟨lx, 0, none⟩), .pointer (some ⟨ox, 0, none⟩), .pointer (some ⟨fx, 0, none⟩)]]) := Lib.hid (by have e2 := heap_alloc_new w5 (.cells #[.func (.func 75) #[] #[.pointer (some ⟨hx, 0, none⟩), .pointer (some ⟨lx, 0, none⟩), .pointer (some ⟨ox, 0, none⟩), .pointer (some ⟨fx, 0, none⟩)]] 134); rw [Sw5.out, ← hfx] at e2; rw [hw6]; exact e2)
    have Sw6 : Hid (w6.heap.size = fx + 1) := Lib.hid (by rw [hw6, World.size_alloc, Sw5.out, hfx])
    have hBn : Below w5.heap.size w5 w6 := by rw [hw6]; exact (Below.refl _ _).alloc (Nat.le_refl _) _
    rw [← hw6]
    have HFX := Lib.hid hfx
    have B5 : Hid (Below w5.heap.size w5 w6) := Lib.hid hBn
    clear hfx hw6 hBn
    have HOBL : Hid (lb < ob) := Lib.hid (by have h1 := HOL.out; have h2 := (LB.out.below B2.out LB.out.lt).lt; omega)
    have HX6 : Hid (FlX h rA wA bA cA rn rc wn wc bn bc cn cc hx lx ox fx lb ob w.heap.size w6) := Lib.hid (by
      have h1 := Zhx.out
      have h2 := Zlb.out
      have h3 := Zlx.out
      have h4 := Zox.out
      have h5 := HFX.out
      have h6 := Sw1.out
      have h7 := Sw2.out
      have h8 := Sw3.out
      have h9 := HOBL.out
      have h10 := B3.out.size
      have h11 : w.heap.size ≤ w1.heap.size := B0.out.size
      exact ⟨HX.out.below (below3 (below3 (below3 (below3 B1.out B2.out (Nat.le_refl _)) B3.out (Nat.le_refl _)) B4.out (Nat.le_refl _)) B5.out (Nat.le_refl _)) HX.out.lt, LX.out.below (below3 (below3 B3.out B4.out (Nat.le_refl _)) B5.out (Nat.le_refl _)) LX.out.lt, OX.out.below B5.out OX.out.lt, FX.out, HOB.out.below (below3 B4.out B5.out (Nat.le_refl _)) HOB.out.lt, HI.out.br.below (below3 (below3 (below3 (below3 (below3 B0.out B1.out (Nat.le_refl _)) B2.out (Nat.le_refl _)) B3.out (Nat.le_refl _)) B4.out (Nat.le_refl _)) B5.out (Nat.le_refl _)), by have := Sw6.out; omega, by omega, by omega, by omega, by omega, by omega, by omega⟩)
    have HL6 : Hid (Blk w6 lb 3 (intsA (List.replicate bn 0))) := Lib.hid (LB.out.below (below3 (below3 (below3 B2.out B3.out (Nat.le_refl _)) B4.out (Nat.le_refl _)) B5.out (Nat.le_refl _)) LB.out.lt)
    have C := Lib.hid (fill_any h rA wA bA cA rn rc wn wc bn bc cn cc hx lx ox fx lb ob w.heap.size pump HP.out OK.out HBN.out bn 0 pump (List.replicate bn 0) w6 (by omega) hb0 HX6.out HL6.out (List.length_replicate ..) (fun j hj => Or.inl (by rw [List.getD_eq_getElem?_getD]; simp [hj])) HP.out (by rw [fl_step OK.out pump (by rw [HBN.out]; exact hb0), if_pos rfl]))
    refine C.out.mono ?_
    rintro e w7 ⟨rfl, hK7, L', hL7, hE7⟩
    have hl7 := (HX6.out.keep hK7).bl
    have c7 := hl7.cell 0
    have z7 := hl7.lt
    simp only [List.getElem?_toArray, List.getElem?_cons_zero, List.getElem?_cons_succ] at c7
    have HE : Hid (Blk w7 lb 3 (intsA (flL h pump)) ∧ Below w.heap.size w w7) := Lib.hid ⟨by rw [← flL_end OK.out HBN.out hE7]; exact hL7, ((below3 (below3 (below3 (below3 (below3 B0.out B1.out (Nat.le_refl _)) B2.out (Nat.le_refl _)) B3.out (Nat.le_refl _)) B4.out (Nat.le_refl _)) B5.out (Nat.le_refl _))).trans (hK7.below ((below3 (below3 (below3 (below3 (below3 B0.out B1.out (Nat.le_refl _)) B2.out (Nat.le_refl _)) B3.out (Nat.le_refl _)) B4.out (Nat.le_refl _)) B5.out (Nat.le_refl _))).size (fun b e => by rw [e]; exact HX6.out.lo))⟩
    clear hK7 hL7 hE7 hl7 C
    go_wp2
    go_ret
    exact ⟨lb, rfl, HE.out.1, HX6.out.lo, HE.out.2⟩
end Go.Proofs.Ytldbciflpnhfpaa
