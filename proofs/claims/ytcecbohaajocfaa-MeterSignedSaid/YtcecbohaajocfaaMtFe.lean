/- meter: Verify. -/
import Derived.Test.YtcecbohaajocfaaMtFc
import Derived.Carry

set_option linter.unusedSimpArgs false
set_option linter.unusedVariables false
namespace Go.Proofs.Ytcecbohaajocfaa
open Go.RowKit

def lkA (L : List Lk) (i : Nat) : Lk := L.getD i (⟨0, 0, 0⟩, 0)
theorem lk_rg (L : List Lk) (i : Nat) : rgA (L.map Prod.fst) i = (lkA L i).1 := by
  unfold rgA lkA
  rw [List.getD_eq_getElem?_getD, List.getD_eq_getElem?_getD, List.getElem?_map]
  cases L[i]? <;> rfl
theorem lk_at {w : World} {B n k : Nat} {A : Option Addr} {L : List Lk} (h : Rd w B 4 encLk A n L) (hk : k < n) : ∃ b o, A = some ⟨b, o, none⟩ ∧ b < B ∧ w.cell? ⟨b, o + k * 4, none⟩ = some (.int .i64 (lkA L k).1.m) ∧ w.cell? ⟨b, o + k * 4 + 1, none⟩ = some (.int .i64 (lkA L k).1.h) ∧ w.cell? ⟨b, o + k * 4 + 2, none⟩ = some (.int .i64 (lkA L k).1.v) ∧ w.cell? ⟨b, o + k * 4 + 3, none⟩ = some (.int .u64 (lkA L k).2) := by
  obtain ⟨b, o, x, e, hb, hx, hc⟩ := h.at_ hk
  have hs : lkA L k = x := by unfold lkA; rw [List.getD_eq_getElem?_getD, hx]; rfl
  rw [hs]
  exact ⟨b, o, e, hb, hc 0 _ rfl, hc 1 _ rfl, hc 2 _ rfl, hc 3 _ rfl⟩
/-- The first link whose sign is not that of its readings. -/
structure BadAt (key : Int) (L : List Lk) (n j : Nat) : Prop where
  le : j ≤ n
  ok : ∀ i, i < j → (lkA L i).2 = sgK key (L.map Prod.fst) (i + 1)
  bad : j < n → (lkA L j).2 ≠ sgK key (L.map Prod.fst) (j + 1)
theorem bad_ex (key : Int) (L : List Lk) (n : Nat) : ∃ j, BadAt key L n j := by
  suffices H : ∀ d m, m + d = n → (∀ i, i < m → (lkA L i).2 = sgK key (L.map Prod.fst) (i + 1)) → ∃ j, BadAt key L n j from H n 0 (by omega) (fun i h => by omega)
  intro d
  induction d with
  | zero => intro m hm h; exact ⟨m, by omega, h, fun h9 => by omega⟩
  | succ d ih =>
    intro m hm h
    by_cases e : (lkA L m).2 = sgK key (L.map Prod.fst) (m + 1)
    · refine ih (m + 1) (by omega) (fun i hi => ?_)
      by_cases e2 : i = m
      · rw [e2]; exact e
      · exact h i (by omega)
    · exact ⟨m, by omega, h, fun _ => e⟩
set_option maxRecDepth 100000 in
set_option maxHeartbeats 4000000 in
theorem Verify_any (key : Int) (A : Option Addr) (n c j : Nat) (cd : Int) (L : List Lk) (w : World) (hcd : cd = if j = n then 0 else 7) (hr : Rd w w.heap.size 4 encLk A n L) (ok : RgsOk (L.map Prod.fst)) (hn : n ≤ 4096) (hj : BadAt key L n j) :
    Calls Try.prog 23 #[.int .u64 key, .slice A n c] w fun e w' => e = .returned (.tuple #[.int .i64 (j : Int), .int .i64 cd]) ∧ Below w.heap.size w w' := by
  have HR := Lib.hid (And.intro hr (And.intro ok (And.intro hr.1 (And.intro hn hj))))
  have HCD := Lib.hid hcd
  have h4 : ¬ ((4096 : Int) < (n : Int)) := by omega
  have hn0 : (0 : Int) ≤ (n : Int) := by omega
  obtain ⟨l, hl⟩ : ∃ z, z = L.map Prod.fst := ⟨_, rfl⟩
  have HLL := Lib.hid hl
  clear hr ok hn hj hl hcd
  go_enter Try.func23, Try.ntmps23
  have hmk : ∀ W, (Instr.makeMap 126 none).run Try.prog W = .ok (.map (some W.heap.size)) (W.alloc (.map #[] 0)) := fun W => run_makeMap _ W
  go_wp2_with fail
  obtain ⟨mb, hmb⟩ : ∃ z, z = w.heap.size := ⟨_, rfl⟩
  obtain ⟨w1, hw1⟩ : ∃ z, z = w.alloc (.map #[] 0) := ⟨_, rfl⟩
  have HW1 : Hid (RegS w1 mb [] ∧ Below w.heap.size w w1 ∧ w.heap.size ≤ mb) := Lib.hid ⟨by rw [hw1, hmb]; exact RegS.made w, by rw [hw1]; exact (Below.refl _ _).alloc (Nat.le_refl _) _, by omega⟩
  rw [← hw1, ← hmb]
  clear hw1 hmb hmk
  refine (start_any key w1).mono ?_
  rintro e w2 ⟨rfl, rfl⟩
  obtain ⟨sg, hsg⟩ : ∃ z : Nat → Int, z = sgK key l := ⟨_, rfl⟩
  have HSG : Hid (sg = sgK key l) := Lib.hid hsg
  have h0 : mixF key 1 = sg 0 := by rw [hsg]; rfl
  rw [h0]
  clear h0 hsg
  have HL0 : Hid (Below w.heap.size w w2 ∧ RegS w2 mb (slotsK l 0)) := Lib.hid ⟨HW1.out.2.1, HW1.out.1⟩
  go_wp2
  go_loopw [7, 19] (fun sv iv wr => ∃ k : Nat, k ≤ j ∧ sv = .int .u64 (sg k) ∧ iv = .int .i64 ((k : Nat) : Int) ∧ Hid (Below w.heap.size w wr ∧ RegS wr mb (slotsK l k))) (fun _ iv _ => n - (intOf iv).toNat)
  case atStart => exact ⟨0, Nat.zero_le _, rfl, rfl, HL0⟩
  case round =>
    obtain ⟨k, hk, rfl, rfl, HX⟩ := hrel
    have HKJ := Lib.hid hk
    by_cases hlt : k < n
    · have HLT : Hid (k < n) := Lib.hid hlt
      have hk0 : (0 : Int) ≤ (k : Int) := by omega
      have hkn : (k : Int) < (n : Int) := by omega
      have hk9 : (k : Int) ≤ 4096 := by have := HR.out; omega
      obtain ⟨ab, ao, eA, hab, ca0, ca1, ca2, ca3⟩ := lk_at HR.out.1 hlt
      have d0 := (HX.out.1.cell (p := ⟨ab, ao + k * 4, none⟩) hab).trans ca0
      have d1 := (HX.out.1.cell (p := ⟨ab, ao + k * 4 + 1, none⟩) hab).trans ca1
      have d2 := (HX.out.1.cell (p := ⟨ab, ao + k * 4 + 2, none⟩) hab).trans ca2
      have d3 := (HX.out.1.cell (p := ⟨ab, ao + k * 4 + 3, none⟩) hab).trans ca3
      have za : ab < wr.heap.size := Nat.lt_of_lt_of_le hab HX.out.1.size
      have hln : l.length = n := by rw [HLL.out, List.length_map]; exact HR.out.2.2.1
      have hok9 : RgsOk l := by rw [HLL.out]; exact HR.out.2.1
      have hok := hok9.ok k (by rw [hln]; exact hlt)
      have hnot := slotsK_not hok9.dis (k := k) (by rw [hln]; exact hlt) k (Nat.le_refl _)
      have hrg : rgA l k = (lkA L k).1 := by rw [HLL.out]; exact lk_rg L k
      rw [← hrg] at d0 d1 d2
      obtain ⟨r, hrr⟩ : ∃ z, z = rgA l k := ⟨_, rfl⟩
      rw [← hrr] at d0 d1 d2 hok hnot
      obtain ⟨s9, hs9⟩ : ∃ z, z = (lkA L k).2 := ⟨_, rfl⟩
      rw [← hs9] at d3
      have HRR := Lib.hid (And.intro hrr (And.intro hok (And.intro hnot hs9)))
      have KEN := fun W (hW : RegS W mb (slotsK l k)) => enter_any mb (slotsK l k) r hok W hW hnot (by rw [slotsK_len]; omega)
      have HKEN := Lib.hid KEN
      have HKS := Lib.hid (fun W => sign_any key (sg k) r hok W)
      obtain ⟨xb, hxb⟩ : ∃ z, z = wr.heap.size := ⟨_, rfl⟩
      obtain ⟨wx, hwx⟩ : ∃ z, z = wr.alloc (.cells #[.int .i64 r.m, .int .i64 r.h, .int .i64 r.v, .int .u64 s9] 67) := ⟨_, rfl⟩
      have hBx : Below wr.heap.size wr wx := by rw [hwx]; exact (Below.refl _ _).alloc (Nat.le_refl _) _
      have HXB : Hid (Blk wx xb 67 #[.int .i64 r.m, .int .i64 r.h, .int .i64 r.v, .int .u64 s9]) := Lib.hid (by rw [hwx, hxb]; exact heap_alloc_new wr _)
      have HX1 : Hid (Below w.heap.size w wx ∧ RegS wx mb (slotsK l k)) := Lib.hid ⟨below3 HX.out.1 hBx (Nat.le_refl _), HX.out.2.next hBx⟩
      have g1 : wr.heap.size < wr.heap.size + 1 := by omega
      have wk : IntKind.i64.wrap ((k : Int) + 1) = (k : Int) + 1 := IntWalk.i64_in _ (by omega)
      clear hlt hk hab ca0 ca1 ca2 ca3 hok hnot hrr KEN hBx hln hok9 hrg hs9
      subst eA
      go_wp2_with fail
      rw [← hwx, ← hxb]
      clear hwx hxb d0 d1 d2 d3 za g1
      refine (HKEN.out wx HX1.out.2).mono ?_
      rintro e w5 ⟨rfl, hr5, hk5⟩
      have H5 : Hid (Below w.heap.size w w5 ∧ RegS w5 mb (slotsK l (k + 1)) ∧ Blk w5 xb 67 #[.int .i64 r.m, .int .i64 r.h, .int .i64 r.v, .int .u64 s9]) := Lib.hid ⟨HX1.out.1.trans (hk5.below HX1.out.1.size (fun b e => by rw [e]; exact HW1.out.2.2)), by unfold slotsK; rw [← HRR.out.1]; exact hr5, hk5.blk HXB.out (fun e => HX1.out.2.neB HXB.out e)⟩
      clear hr5 hk5
      have e0 := H5.out.2.2.cell 0
      have e1 := H5.out.2.2.cell 1
      have e2 := H5.out.2.2.cell 2
      simp only [List.getElem?_toArray, List.getElem?_cons_zero, List.getElem?_cons_succ] at e0 e1 e2
      have ze := H5.out.2.2.lt
      go_wp2_with fail
      refine (HKS.out w5).mono ?_
      rintro e w6 ⟨rfl, hB6⟩
      have H6 : Hid (Below w.heap.size w w6 ∧ RegS w6 mb (slotsK l (k + 1)) ∧ Blk w6 xb 67 #[.int .i64 r.m, .int .i64 r.h, .int .i64 r.v, .int .u64 s9]) := Lib.hid ⟨below3 H5.out.1 hB6 (Nat.le_refl _), H5.out.2.1.next hB6, H5.out.2.2.below hB6 H5.out.2.2.lt⟩
      clear hB6 e0 e1 e2 ze
      have e3 := H6.out.2.2.cell 3
      simp only [List.getElem?_toArray, List.getElem?_cons_zero, List.getElem?_cons_succ] at e3
      have ze := H6.out.2.2.lt
      have hs1 : signF key (sg k) r = sg (k + 1) := by rw [HSG.out, HRR.out.1]; rfl
      rw [hs1]
      clear hs1
      obtain ⟨s1, hs1⟩ : ∃ z, z = sg (k + 1) := ⟨_, rfl⟩
      have HS2 := Lib.hid hs1
      rw [← hs1]
      by_cases hkj : k < j
      · have heq : s9 = s1 := by
          have h := HR.out.2.2.2.2.ok k hkj
          rw [HRR.out.2.2.2, hs1, HSG.out, HLL.out]
          exact h
        have HKJ2 := Lib.hid hkj
        clear hkj hs1
        subst heq
        go_wp2
        rw [HS2.out]
        go_roundw
        case rel => exact ⟨k + 1, HKJ2.out, rfl, by go_num, Lib.hid ⟨H6.out.1, H6.out.2.1⟩⟩
        case measure => have := HLT.out; simp [intOf]; omega
      · have hje : j = k := by have := HKJ.out; omega
        have hne : ¬ (s9 = s1) := by
          have h := HR.out.2.2.2.2.bad (by rw [hje]; exact HLT.out)
          rw [HRR.out.2.2.2, hs1, HSG.out, HLL.out, ← hje]
          exact h
        have hn1 : (s9 == s1) = false := by rw [beq_eq_false_iff_ne]; exact hne
        have hn2 : (s9 != s1) = true := by rw [bne_iff_ne]; exact hne
        have hjn : ¬ (j = n) := by have := HLT.out; omega
        have HFN : Hid (cd = 7 ∧ j = k) := Lib.hid ⟨by rw [HCD.out, if_neg hjn], hje⟩
        clear hkj hs1 hje hjn
        go_wp2
        all_goals go_ret2
        all_goals exact ⟨by rw [HFN.out.1, HFN.out.2]; rfl, H6.out.1⟩
    · have hje : j = n ∧ k = n := by have := HKJ.out; have := HR.out.2.2.2.2.le; omega
      have HFN : Hid (cd = 0 ∧ j = n) := Lib.hid ⟨by rw [HCD.out, if_pos hje.1], hje.1⟩
      obtain ⟨_, rfl⟩ := hje
      clear hlt hk
      go_wp2
      go_ret2
      exact ⟨by rw [HFN.out.1, HFN.out.2]; rfl, HX.out.1⟩
end Go.Proofs.Ytcecbohaajocfaa
