/- law08: leads; the closure of KeepGreatest. -/
import Derived.Test.YtalngalikblgkaaKpVp
import Derived.Test.YtalngalikblgkaaKpT

set_option linter.unusedSimpArgs false
set_option linter.unusedVariables false
namespace Go.Proofs.Ytalngalikblgkaa
open Go.RowKit

/-- Whether some control keeps a state in a set. -/
def exB (g : Gm) (inn : List Bool) (s : Nat) : Bool := (List.range g.C).any (keepB g inn s)
theorem exB_yes {g : Gm} {inn : List Bool} {s u : Nat} (hu : u < g.C) (h : keepB g inn s u = true) : exB g inn s = true := List.any_eq_true.2 ⟨u, List.mem_range.2 hu, h⟩
theorem exB_no {g : Gm} {inn : List Bool} {s : Nat} (h : ∀ u < g.C, keepB g inn s u = false) : exB g inn s = false := List.any_eq_false.2 fun u hu => by rw [h u (List.mem_range.1 hu)]; decide
theorem exB_iff {g : Gm} {inn : List Bool} {s : Nat} : exB g inn s = true ↔ ∃ u < g.C, keepB g inn s u = true := by
  unfold exB
  rw [List.any_eq_true]
  exact ⟨fun ⟨u, hu, h⟩ => ⟨u, List.mem_range.1 hu, h⟩, fun ⟨u, hu, h⟩ => ⟨u, List.mem_range.2 hu, h⟩⟩
/-- A set of good states, each kept in it, is kept. -/
theorem kept_of {g : Gm} {inn : List Bool} (ok : GmOk g) (hg : ∀ s < g.S, inn.getD s false = true → g.good.getD s false = true) (he : ∀ s < g.S, inn.getD s false = true → exB g inn s = true) : KeptS g (fun s => inn.getD s false = true) := by
  intro s hs hi
  obtain ⟨u, hu, hk⟩ := exB_iff.1 (he s hs hi)
  refine ⟨hg s hs hi, u, hu, fun x hx => ?_⟩
  have h2 := (List.all_eq_true.1 (show (subL g s u).all (isInB inn) = true from hk)) x hx
  have hb := sub_bd ok hx
  by_cases hx1 : x = -1
  · rw [hx1] at h2
    cases h2
  · obtain ⟨t, rfl⟩ : ∃ t : Nat, x = (t : Int) := ⟨x.toNat, by omega⟩
    rw [isInB_nat] at h2
    exact ⟨t, rfl, h2⟩
theorem safe_ex {g : Gm} (ok : GmOk g) {k : Nat} (h : Solved g k) {s : Nat} (hs : s < g.S) (hi : (itR g k).1.getD s false = true) : exB g (itR g k).1 s = true := by
  obtain ⟨_, u, hu, hk⟩ := safe_kept ok h s hs hi
  refine exB_yes hu ?_
  unfold keepB
  rw [List.all_eq_true]
  intro x hx
  obtain ⟨t, rfl, ht⟩ := hk x hx
  rw [isInB_nat]
  exact ht
theorem leads_ix {g : Gm} (ok : GmOk g) {s u t : Nat} (hs : s < g.S) (hu : u < g.C) (ht : t < g.H) : (s * g.C + u) * g.H + t < g.next.length ∧ (subL g s u)[t]? = g.next[(s * g.C + u) * g.H + t]? := by
  have h := sub_ix ok hs hu
  refine ⟨by omega, ?_⟩
  unfold subL
  rw [List.getElem?_take_of_lt ht, List.getElem?_drop]
set_option maxRecDepth 100000 in
theorem leads_any (nA gA : Option Addr) (nn nc gn gc : Nat) (g : Gm) (s u t : Nat) (w : World) (hin : GmIn w w.heap.size ⟨nA, gA, nn, nc, gn, gc⟩ g) (ok : GmOk g) (hs : s < g.S) (hu : u < g.C) (ht : t < g.H) :
    Calls Try.prog 25 #[.agg #[.int .i64 (g.S : Int), .int .i64 (g.C : Int), .int .i64 (g.H : Int), .slice nA nn nc, .slice gA gn gc], .int .i64 (s : Int), .int .i64 (u : Int), .int .i64 (t : Int)] w fun e w' => ∃ x : Int, e = .returned (.int .i64 x) ∧ (subL g s u)[t]? = some x ∧ Below w.heap.size w w' := by
  obtain ⟨h1, h2⟩ := leads_ix ok hs hu ht
  have hnn : nn = g.next.length := hin.next.1.symm
  obtain ⟨m, hm⟩ : ∃ z, z = (s * g.C + u) * g.H + t := ⟨_, rfl⟩
  rw [← hm] at h1 h2
  obtain ⟨b, off, x, e1, hb, hx, hcx⟩ := hin.next.at_ (show m < nn by omega)
  have e1 : nA = some ⟨b, off, none⟩ := e1
  have c0 := cellI hcx
  have q4 := block_of_cell c0
  dsimp only at q4
  have h3 : (subL g s u)[t]? = some x := h2.trans hx
  have HX := Lib.hid h3
  have b1 := ok.s1
  have b2 := ok.c1
  have b3 := ok.h1
  have m1 : s * g.C ≤ 400 * 16 := Nat.mul_le_mul (by omega) b2
  have m2 : (s * g.C + u) * g.H ≤ 6420 * 16 := Nat.mul_le_mul (by omega) b3
  obtain ⟨m3, hm3⟩ : ∃ z, z = s * g.C := ⟨_, rfl⟩
  obtain ⟨m4, hm4⟩ : ∃ z, z = (m3 + u) * g.H := ⟨_, rfl⟩
  rw [← hm3] at m1 m2 hm
  rw [← hm4] at m2 hm
  have v1 : IntKind.i64.wrap ((s : Int) * (g.C : Int)) = (m3 : Int) := by rw [show (s : Int) * (g.C : Int) = (m3 : Int) by rw [hm3]; push_cast; rfl]; exact IntWalk.i64_in _ (by omega)
  obtain ⟨m5, hm5⟩ : ∃ z, z = m3 + u := ⟨_, rfl⟩
  have v2 : IntKind.i64.wrap ((m3 : Int) + (u : Int)) = (m5 : Int) := by rw [show (m3 : Int) + (u : Int) = (m5 : Int) by rw [hm5]; push_cast; rfl]; exact IntWalk.i64_in _ (by omega)
  rw [← hm5] at hm4
  have v3 : IntKind.i64.wrap ((m5 : Int) * (g.H : Int)) = (m4 : Int) := by rw [show (m5 : Int) * (g.H : Int) = (m4 : Int) by rw [hm4]; push_cast; rfl]; exact IntWalk.i64_in _ (by omega)
  have v4 : IntKind.i64.wrap ((m4 : Int) + (t : Int)) = (m : Int) := by rw [show (m4 : Int) + (t : Int) = (m : Int) by rw [hm]; push_cast; rfl]; exact IntWalk.i64_in _ (by omega)
  have i1 : (0 : Int) ≤ (m : Int) := by omega
  have i2 : (m : Int) < (nn : Int) := by omega
  subst e1
  clear hin ok hs hu ht h1 h2 hnn hm hx hcx h3 b1 b2 b3 m1 m2 hm3 hm4 hm5
  go_enter Try.func25, Try.ntmps25
  go_wp2
  go_ret
  exact ⟨x, rfl, HX.out, by (repeat' (first | (with_reducible exact Below.refl _ _) | (with_reducible assumption) | (with_reducible refine below_drewN ?_ _) | (with_reducible refine below_after (by assumption) ?_ ?_) | (with_reducible refine Below.drew ?_) | (with_reducible refine Below.alloc ?_ ?_ _) | (with_reducible refine Below.setCell ?_ ?_ _) | omega | (simp; omega) | (simp; done)))⟩
set_option maxRecDepth 100000 in
set_option maxHeartbeats 2000000 in
theorem keeps1_any (nA gA sA : Option Addr) (nn nc gn gc sc qa : Nat) (g : Gm) (L : List Bool) (s : Nat) (w : World) (hq : Blk w qa 25 #[.int .i64 (g.S : Int), .int .i64 (g.C : Int), .int .i64 (g.H : Int), .slice nA nn nc, .slice gA gn gc]) (hin : GmIn w w.heap.size ⟨nA, gA, nn, nc, gn, gc⟩ g) (ok : GmOk g) (hL : Rd w w.heap.size 1 encB sA g.S L) (hs : s < g.S) :
    Calls Try.prog 24 #[.slice sA g.S sc, .int .i64 (s : Int), .pointer (some ⟨qa, 0, none⟩)] w fun e w' => e = .returned (.bool (exB g L s)) ∧ Below w.heap.size w w' := by
  have KL := Lib.hid (fun (u t : Nat) W (h : Below w.heap.size w W) (hu : u < g.C) (ht : t < g.H) => leads_any nA gA nn nc gn gc g s u t W (hin.next' h) ok hs hu ht)
  have hc1 := ok.c1
  have hh1 := ok.h1
  have HQ := Lib.hid hq
  have HLr := Lib.hid hL
  have HSB : Hid (∀ u x, x ∈ subL g s u → -1 ≤ x ∧ x < g.S) := Lib.hid (fun u x hx => sub_bd ok hx)
  have HSL : Hid (∀ u, u < g.C → (subL g s u).length = g.H) := Lib.hid (fun u hu => sub_len ok hs hu)
  obtain ⟨res, hres⟩ : ∃ z, z = exB g L s := ⟨_, rfl⟩
  have HRES := Lib.hid hres
  rw [← hres]
  have hq0 := hq.cell 0
  have hq1 := hq.cell 1
  have hq2 := hq.cell 2
  have hq3 := hq.cell 3
  have hq4 := hq.cell 4
  have hqz := hq.lt
  simp only [List.getElem?_toArray, List.getElem?_cons_zero, List.getElem?_cons_succ] at hq0 hq1 hq2 hq3 hq4
  clear hq hin ok hL hs hres
  go_enter Try.func24, Try.ntmps24
  go_wp2
  clear hq0 hq1 hq2 hq3 hq4 hqz
  go_loopw [12] (fun i wr => ∃ u : Nat, u ≤ g.C ∧ i = .int .i64 u ∧ Hid (Below w.heap.size w wr ∧ ∀ v < u, keepB g L s v = false)) (fun i _ => g.C - (intOf i).toNat)
  case atStart => exact ⟨0, by omega, rfl, Lib.hid ⟨Below.refl _ _, fun v hv => absurd hv (by omega)⟩⟩
  case round =>
    obtain ⟨u, hu, rfl, HW⟩ := hrel
    by_cases hlt : u < g.C
    · have hk0 : (0 : Int) ≤ (u : Int) := by omega
      have hkn : (u : Int) < (g.C : Int) := by omega
      obtain ⟨sl, hsl⟩ : ∃ z, z = subL g s u := ⟨_, rfl⟩
      have HSL2 : Hid (sl = subL g s u) := Lib.hid hsl
      have hbk := HQ.out.below HW.out.1 HQ.out.lt
      have e2 := hbk.cell 2
      have ze := hbk.lt
      simp only [List.getElem?_toArray, List.getElem?_cons_zero, List.getElem?_cons_succ] at e2
      have HW0 : Hid (Below w.heap.size w wr) := Lib.hid HW.out.1
      clear hbk hsl
      go_wp2
      clear e2 ze
      go_loopw [7, 17] (fun a i wr => ∃ t : Nat, t ≤ g.H ∧ i = .int .i64 t ∧ a = .bool ((sl.take t).all (isInB L)) ∧ Hid (Below w.heap.size w wr)) (fun _ i _ => g.H - (intOf i).toNat)
      case atStart => exact ⟨0, by omega, rfl, rfl, HW0⟩
      case round =>
        obtain ⟨t, ht, rfl, rfl, HW2⟩ := hrel
        by_cases hlt2 : t < g.H
        · have K := Lib.hid (KL.out u t wr HW2.out hlt hlt2)
          rw [← HSL2.out] at K
          have hk2 : (0 : Int) ≤ (t : Int) := by omega
          have hk3 : (t : Int) < (g.H : Int) := by omega
          obtain ⟨al, hal⟩ : ∃ z, z = (sl.take t).all (isInB L) := ⟨_, rfl⟩
          have HAL := Lib.hid hal
          rw [← hal]
          have hbk := HQ.out.below HW2.out HQ.out.lt
          have e0 := hbk.cell 0
          have e1 := hbk.cell 1
          have e2 := hbk.cell 2
          have e3 := hbk.cell 3
          have e4 := hbk.cell 4
          have ze := hbk.lt
          simp only [List.getElem?_toArray, List.getElem?_cons_zero, List.getElem?_cons_succ] at e0 e1 e2 e3 e4
          clear hbk hal
          go_wp2_with fail
          refine K.out.mono ?_
          rintro e w3 ⟨x, rfl, hx, hB3⟩
          have HW3 : Hid (Below w.heap.size w w3) := Lib.hid (below3 HW2.out hB3 (Nat.le_refl _))
          have hxb := HSB.out u x (by rw [← HSL2.out]; exact List.mem_of_getElem? hx)
          have HNX : Hid ((sl.take (t + 1)).all (isInB L) = (al && isInB L x)) := Lib.hid (by rw [List.take_add_one, hx, List.all_append, HAL.out]; simp)
          clear hx hB3 e0 e1 e2 e3 e4 ze
          cases al
          · clear hxb
            go_wp2
            go_roundw
            case rel => exact ⟨t + 1, by omega, by go_num, by rw [HNX.out]; rfl, HW3⟩
            case measure => simp [intOf]; omega
          · by_cases hx1 : x = -1
            · subst hx1
              go_wp2
              go_roundw
              case rel => exact ⟨t + 1, by omega, by go_num, by rw [HNX.out]; rfl, HW3⟩
              case measure => simp [intOf]; omega
            · obtain ⟨y, rfl⟩ : ∃ y : Nat, x = (y : Int) := ⟨x.toNat, by omega⟩
              obtain ⟨lb, lo, q, e1, hlb, hxq, hcq⟩ := (HLr.out.below HW3.out).at_ (show y < g.S by omega)
              have c9 := cellB hcq
              have z9 := block_of_cell c9
              dsimp only at z9
              have hin : isInB L (y : Int) = q := by rw [isInB_nat, List.getD_eq_getElem?_getD, hxq]; rfl
              rw [hin] at HNX
              have i1 : (0 : Int) ≤ (y : Int) := by omega
              have i2 : (y : Int) < (g.S : Int) := by omega
              have d1 : decide ((0 : Int) ≤ (y : Int)) = true := decide_eq_true i1
              subst e1
              clear hxb hlb hxq hcq hin hx1
              cases q
              · go_wp2
                go_roundw
                case rel => exact ⟨t + 1, by omega, by go_num, by rw [HNX.out]; rfl, HW3⟩
                case measure => simp [intOf]; omega
              · go_wp2
                go_roundw
                case rel => exact ⟨t + 1, by omega, by go_num, by rw [HNX.out]; rfl, HW3⟩
                case measure => simp [intOf]; omega
        · obtain rfl : g.H = t := by omega
          have hfull : (sl.take g.H).all (isInB L) = keepB g L s u := by
            rw [List.take_of_length_le (by rw [HSL2.out, HSL.out u hlt]; exact Nat.le_refl _), HSL2.out]
            rfl
          rw [hfull]
          obtain ⟨kb, hkb⟩ : ∃ z, z = keepB g L s u := ⟨_, rfl⟩
          have HKB := Lib.hid hkb
          rw [← hkb]
          clear hfull hkb
          cases kb
          · go_wp2
            go_roundw
            case rel => exact ⟨u + 1, by omega, by go_num, Lib.hid ⟨HW2.out, fun v hv => by
              rcases Nat.lt_succ_iff_lt_or_eq.1 hv with h | h
              · exact HW.out.2 v h
              · rw [h]; exact HKB.out.symm⟩⟩
            case measure => simp [intOf]; omega
          · go_wp2
            go_ret
            exact ⟨ret_bool (by rw [HRES.out, exB_yes hlt HKB.out.symm]), HW2.out⟩
    · obtain rfl : g.C = u := by omega
      go_wp2
      go_ret
      exact ⟨ret_bool (by rw [HRES.out, exB_no HW.out.2]), HW.out.1⟩
end Go.Proofs.Ytalngalikblgkaa
