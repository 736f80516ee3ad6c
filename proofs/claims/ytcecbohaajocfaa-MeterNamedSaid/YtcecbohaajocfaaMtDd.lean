/- meter: holds, Broken, of a valid case. -/
import Derived.Test.YtcecbohaajocfaaMtD
import Derived.Test.YtcecbohaajocfaaMtR

set_option linter.unusedSimpArgs false
set_option linter.unusedVariables false
namespace Go.Proofs.Ytcecbohaajocfaa
open Go.RowKit

set_option maxRecDepth 100000 in
set_option maxHeartbeats 4000000 in
theorem holds_any (nA vA : Option Addr) (n nc vc i : Nat) (c : Ks) (w : World) (ok : KsOk c) (hi9 : i < n) (hin : KsIn w w.heap.size n nA vA c) :
    Calls Try.prog 41 #[.agg #[.slice nA n nc, .slice vA n vc], .int .i64 (i : Int)] w fun e w' => e = .returned (.bool (holdB c i)) ∧ Below w.heap.size w w' := by
  have hcn := hin.len
  have h14 : n ≤ 14 := by rw [← hcn]; exact ok.n14
  have HN := Lib.hid (And.intro hcn (And.intro h14 (And.intro hi9 ok)))
  have HIN := Lib.hid hin
  have KS := Lib.hid (fun W (h : Below w.heap.size w W) => sons_any nA vA n nc vc i c W h14 (hin.next h))
  have KL := Lib.hid (fun W (h : Below w.heap.size w W) => loss_any nA vA n nc vc i c W hi9 h14 (hin.next h))
  have g1 : w.heap.size < w.heap.size + 1 := by omega
  clear hin h14 hcn ok
  go_enter Try.func41, Try.ntmps41
  go_wp2_with fail
  obtain ⟨bx, hbx⟩ : ∃ z, z = w.heap.size := ⟨_, rfl⟩
  obtain ⟨w1, hw1⟩ : ∃ z, z = w.alloc (.cells #[.slice nA n nc, .slice vA n vc] 35) := ⟨_, rfl⟩
  have BX : Hid (Blk w1 bx 35 #[.slice nA n nc, .slice vA n vc]) := Lib.hid (by rw [hw1, hbx]; exact heap_alloc_new w _)
  have Sw1 : Hid (w1.heap.size = bx + 1) := Lib.hid (by rw [hw1, hbx, World.size_alloc])
  have Zbx : Hid (w.heap.size ≤ bx) := Lib.hid (by rw [hbx]; exact Nat.le_refl _)
  have hBn : Below w.heap.size w w1 := by rw [hw1]; exact (Below.refl _ _).alloc (Nat.le_refl _) _
  rw [← hw1, ← hbx]
  have B0 : Hid (Below w.heap.size w w1) := Lib.hid hBn
  clear hw1 hbx hBn
  have hbk := BX.out.below (Below.refl w1.heap.size w1) BX.out.lt
  have d0 := hbk.cell 0
  have d1 := hbk.cell 1
  simp only [List.getElem?_toArray, List.getElem?_cons_zero, List.getElem?_cons_succ] at d0 d1
  have zd := hbk.lt
  clear hbk
  clear g1
  go_wp2_with fail
  refine (KS.out w1 B0.out).mono ?_
  rintro e w2 ⟨A, ca, rfl, ho, hB⟩
  have B1 : Hid (Below w1.heap.size w1 w2) := Lib.hid hB
  clear hB
  obtain ⟨l, hl⟩ : ∃ z, z = sonsL c i := ⟨_, rfl⟩
  rw [← hl] at ho
  rw [← hl]
  have HL : Hid (l = sonsL c i) := Lib.hid hl
  obtain ⟨ln, hln⟩ : ∃ z, z = l.length := ⟨_, rfl⟩
  rw [← hln] at ho
  rw [← hln]
  have HLN : Hid (ln = l.length ∧ ln ≤ 14) := Lib.hid ⟨hln, by have h1 := sonsK_le c i c.n; have h2 := HN.out; have h3 : sonsK c i c.n = sonsL c i := rfl; rw [h3, ← hl] at h1; omega⟩
  have HRW : Hid (Rd w2 w2.heap.size 1 encN A ln l) := Lib.hid (row_rd (fun _ => rfl) hln.symm ho)
  have HLM : Hid (∀ x ∈ l, x < n) := Lib.hid (fun x hx => by rw [hl] at hx; have := (mem_sons.1 hx).1; have := HN.out.1; omega)
  clear d0 d1 zd hl hln ho
  have hbk := BX.out.below B1.out BX.out.lt
  have d0 := hbk.cell 0
  have d1 := hbk.cell 1
  simp only [List.getElem?_toArray, List.getElem?_cons_zero, List.getElem?_cons_succ] at d0 d1
  have zd := hbk.lt
  clear hbk
  obtain ⟨vb, vo, eV, hvb, cv⟩ := HIN.out.vlAt HN.out.2.2.1
  have cv1 := (Below.cell (below3 B0.out B1.out (Nat.le_refl _)) (p := ⟨vb, vo + i, none⟩) hvb).trans cv
  have zv : vb < w2.heap.size := Nat.lt_of_lt_of_le hvb (below3 B0.out B1.out (Nat.le_refl _)).size
  have hi0 : (0 : Int) ≤ (i : Int) := by omega
  have hin0 : (i : Int) < (n : Int) := by have := HN.out; omega
  have hln0 : (0 : Int) ≤ (ln : Int) := by omega
  have HVE := Lib.hid eV
  obtain ⟨m1, hm1⟩ : ∃ z : Nat → Int, z = fun k => c.v i - ((l.take k).map c.v).sum := ⟨_, rfl⟩
  have HM1 : Hid (m1 0 = c.v i ∧ (∀ j x, l[j]? = some x → m1 (j + 1) = m1 j - c.v x) ∧ (∀ j, -100000000000 ≤ m1 j ∧ m1 j ≤ 1000000000) ∧ m1 ln = c.v i - ((sonsL c i).map c.v).sum) := Lib.hid (by
    have hv := HN.out.2.2.2.val i (by rw [HN.out.1]; exact HN.out.2.2.1)
    subst hm1
    refine ⟨by simp, fun j x hx => ?_, fun j => ?_, ?_⟩
    · have e : l.take (j + 1) = l.take j ++ [x] := by rw [List.take_add_one, hx]; rfl
      simp only [e, List.map_append, List.sum_append, List.map_cons, List.map_nil, List.sum_cons, List.sum_nil]
      omega
    · dsimp only
      have e2 := sum_nn (f := c.v) (m := 1000000000) (l.take j) fun k hk => HN.out.2.2.2.val k (by rw [HN.out.1]; exact HLM.out k (List.mem_of_mem_take hk))
      have l1 : (l.take j).length ≤ 14 := by rw [List.length_take]; have := HLN.out; omega
      omega
    · dsimp only
      rw [HLN.out.1, List.take_length, HL.out])
  have cv2 : w2.cell? ⟨vb, vo + i, none⟩ = some (.int .i64 (m1 0)) := by rw [HM1.out.1]; exact cv1
  clear cv1 cv hvb hm1
  subst eV
  go_wp2
  go_loopw [6, 19] (fun sv iv wr => ∃ k : Nat, k ≤ ln ∧ sv = .int .i64 (m1 k) ∧ iv = .int .i64 ((k : Nat) : Int) ∧ Hid (Below w2.heap.size w2 wr)) (fun _ iv _ => ln - (intOf iv).toNat)
  case atStart => exact ⟨0, Nat.zero_le _, rfl, rfl, Lib.hid (Below.refl _ _)⟩
  case round =>
    obtain ⟨k, hk, rfl, rfl, HW⟩ := hrel
    clear d0 d1 zd cv2 zv
    have hbk := (BX.out.below (below3 B1.out HW.out (Nat.le_refl _)) BX.out.lt)
    have d0 := hbk.cell 0
    have d1 := hbk.cell 1
    simp only [List.getElem?_toArray, List.getElem?_cons_zero, List.getElem?_cons_succ] at d0 d1
    have zd := hbk.lt
    clear hbk
    by_cases hlt : k < ln
    · have HLT := Lib.hid hlt
      have hk0 : (0 : Int) ≤ (k : Int) := by omega
      have hkn : (k : Int) < (ln : Int) := by omega
      have hk9 : (k : Int) ≤ 14 := by have := HLN.out; omega
      obtain ⟨gb, go9, x, eA, hgb, hx, hcx⟩ := HRW.out.at_ hlt
      have cx := hcx 0 _ rfl
      rw [Nat.mul_one, Nat.add_zero] at cx
      have cx1 := (HW.out.cell (p := ⟨gb, go9 + k, none⟩) hgb).trans cx
      have zx : gb < wr.heap.size := Nat.lt_of_lt_of_le hgb HW.out.size
      have hxn : x < n := HLM.out x (List.mem_of_getElem? hx)
      obtain ⟨vb2, vo2, eV2, hvb2, cw⟩ := HIN.out.vlAt hxn
      have hBB := below3 (below3 B0.out B1.out (Nat.le_refl _)) HW.out (Nat.le_refl _)
      have cw1 := (hBB.cell (p := ⟨vb2, vo2 + x, none⟩) hvb2).trans cw
      have zw : vb2 < wr.heap.size := Nat.lt_of_lt_of_le hvb2 hBB.size
      cases eV2
      have hx0 : (0 : Int) ≤ (x : Int) := by omega
      have hxn0 : (x : Int) < (n : Int) := by omega
      obtain ⟨vx, hvx⟩ : ∃ z, z = c.v x := ⟨_, rfl⟩
      rw [← hvx] at cw1
      obtain ⟨mj, hmj⟩ : ∃ z, z = m1 k := ⟨_, rfl⟩
      obtain ⟨mk, hmk⟩ : ∃ z, z = m1 (k + 1) := ⟨_, rfl⟩
      have HMK := Lib.hid hmk
      have wv : IntKind.i64.wrap (mj - vx) = mk := by
        have h1 := HM1.out.2.1 k x hx
        have h2 := HM1.out.2.2.1 (k + 1)
        rw [hmj, hvx, ← h1, hmk]
        exact IntWalk.i64_in _ (by omega)
      rw [← hmj]
      clear hx hcx cx hgb hlt hk hvb2 cw hBB hxn hvx hmj hmk
      subst eA
      go_wp2
      rw [HMK.out]
      go_roundw
      case rel => exact ⟨k + 1, by have := HLT.out; omega, rfl, by go_num, HW⟩
      case measure => have := HLT.out; simp [intOf]; omega
    · obtain rfl : ln = k := by omega
      have HE : Hid (Below w.heap.size w wr) := Lib.hid (below3 (below3 B0.out B1.out (Nat.le_refl _)) HW.out (Nat.le_refl _))
      obtain ⟨lo, hlo⟩ : ∃ z, z = (c.nd i).lo := ⟨_, rfl⟩
      obtain ⟨hi, hhi⟩ : ∃ z, z = (c.nd i).hi := ⟨_, rfl⟩
      have KL1 := KL.out wr HE.out
      rw [← hlo, ← hhi] at KL1
      obtain ⟨mk, hmk⟩ : ∃ z, z = m1 ln := ⟨_, rfl⟩
      have HRES : Hid (holdB c i = (decide (ln = 0) || inB lo mk hi)) := Lib.hid (by
        unfold holdB inB
        rw [hlo, hhi, hmk, HM1.out.2.2.2]
        by_cases h : sonsL c i = []
        · have : ln = 0 := by rw [HLN.out.1, HL.out, h]; rfl
          simp [h, this]
        · have : ¬ ln = 0 := by rw [HLN.out.1, HL.out]; intro h9; exact h (List.eq_nil_of_length_eq_zero h9)
          simp [h, this])
      rw [← hmk]
      clear hlo hhi hmk hk hlt
      by_cases h0 : ln = 0
      · have e0 : ((ln : Int) = 0) := by omega
        have HZ : Hid (holdB c i = true) := Lib.hid (by rw [HRES.out, h0]; rfl)
        subst h0
        go_wp2
        go_ret
        exact ⟨by rw [HZ.out]; rfl, HE.out⟩
      · have e0 : ¬ ((ln : Int) = 0) := by omega
        have e1 : ¬ (ln = 0) := h0
        have HZ : Hid (holdB c i = inB lo mk hi) := Lib.hid (by rw [HRES.out]; simp [h0])
        clear h0
        go_wp2_with fail
        refine KL1.mono ?_
        rintro e w5 ⟨rfl, hB5⟩
        have HB5 := Lib.hid (below3 HE.out hB5 (Nat.le_refl _))
        clear hB5 KL1
        go_wp2_with fail
        refine (has_any lo hi mk w5).mono ?_
        rintro e w6 ⟨rfl, hB6⟩
        have HB6 := Lib.hid (below3 HB5.out hB6 (Nat.le_refl _))
        clear hB6
        go_wp2
        go_ret
        exact ⟨by rw [HZ.out]; rfl, HB6.out⟩
set_option maxRecDepth 100000 in
set_option maxHeartbeats 4000000 in
theorem Broken_any (nA vA : Option Addr) (n nc vc : Nat) (c : Ks) (w : World) (ok : KsOk c) (hin : KsIn w w.heap.size n nA vA c) :
    Calls Try.prog 11 #[.agg #[.slice nA n nc, .slice vA n vc]] w fun e w' => ∃ (A : Option Addr) (ca : Nat), e = .returned (.tuple #[.slice A (brkL c).length ca, .int .i64 0]) ∧ Below w.heap.size w w' := by
  have hcn := hin.len
  have h14 : n ≤ 14 := by rw [← hcn]; exact ok.n14
  have HN := Lib.hid (And.intro hcn h14)
  have KC := Lib.hid (fun W (h : Below w.heap.size w W) => Check_ok nA vA n nc vc c W (hin.next h) ok)
  have KH := Lib.hid (fun W (i : Nat) (h : Below w.heap.size w W) (hi : i < n) => holds_any nA vA n nc vc i c W ok hi (hin.next h))
  obtain ⟨i0, hi0, hz0, hz1, hz2⟩ := info_parts intInfo
  have hi := Lib.hid (And.intro hi0 (And.intro hz0 (And.intro hz1 hz2)))
  have g1 : w.heap.size < w.heap.size + 1 := by omega
  clear hin h14 hcn ok hi0 hz0 hz1 hz2
  go_enter Try.func11, Try.ntmps11
  go_wp2_with fail
  obtain ⟨bx, hbx⟩ : ∃ z, z = w.heap.size := ⟨_, rfl⟩
  obtain ⟨w1, hw1⟩ : ∃ z, z = w.alloc (.cells #[.slice nA n nc, .slice vA n vc] 35) := ⟨_, rfl⟩
  have BX : Hid (Blk w1 bx 35 #[.slice nA n nc, .slice vA n vc]) := Lib.hid (by rw [hw1, hbx]; exact heap_alloc_new w _)
  have Sw1 : Hid (w1.heap.size = bx + 1) := Lib.hid (by rw [hw1, hbx, World.size_alloc])
  have Zbx : Hid (w.heap.size ≤ bx) := Lib.hid (by rw [hbx]; exact Nat.le_refl _)
  have hBn : Below w.heap.size w w1 := by rw [hw1]; exact (Below.refl _ _).alloc (Nat.le_refl _) _
  rw [← hw1, ← hbx]
  have B0 : Hid (Below w.heap.size w w1) := Lib.hid hBn
  clear hw1 hbx hBn
  have hbk := BX.out.below (Below.refl w1.heap.size w1) BX.out.lt
  have d0 := hbk.cell 0
  have d1 := hbk.cell 1
  simp only [List.getElem?_toArray, List.getElem?_cons_zero, List.getElem?_cons_succ] at d0 d1
  have zd := hbk.lt
  clear hbk
  clear g1
  go_wp2_with fail
  refine (KC.out w1 B0.out).mono ?_
  rintro e w2 ⟨rfl, hB⟩
  have B1 : Hid (Below w1.heap.size w1 w2) := Lib.hid hB
  clear hB
  clear d0 d1 zd
  have hbk := BX.out.below B1.out BX.out.lt
  have d0 := hbk.cell 0
  have d1 := hbk.cell 1
  simp only [List.getElem?_toArray, List.getElem?_cons_zero, List.getElem?_cons_succ] at d0 d1
  have zd := hbk.lt
  clear hbk
  obtain ⟨bk, hbk⟩ : ∃ z : Nat → List Nat, z = fun k => (List.range k).filter fun i => !holdB c i := ⟨_, rfl⟩
  have HBK : Hid (bk 0 = [] ∧ (∀ k, holdB c k = true → bk (k + 1) = bk k) ∧ (∀ k, holdB c k = false → bk (k + 1) = bk k ++ [k]) ∧ (∀ k, (bk k).length ≤ k) ∧ bk n = brkL c) := Lib.hid (by
    subst hbk
    refine ⟨rfl, fun k h => ?_, fun k h => ?_, fun k => ?_, ?_⟩
    · dsimp only; rw [List.range_succ, List.filter_append]; simp [h]
    · dsimp only; rw [List.range_succ, List.filter_append]; simp [h]
    · have := List.length_filter_le (fun i => !holdB c i) (List.range k); simpa using this
    · unfold brkL; rw [HN.out.1])
  clear hbk
  have hn0 : (0 : Int) ≤ (n : Int) := by omega
  have HW0 : Hid (Below w2.heap.size w2 w2 ∧ w2.ownsRow w2.heap.size 3 1 (.slice none 0 0) (bk 0).length ((bk 0).flatMap encN)) := Lib.hid ⟨Below.refl _ _, by rw [HBK.out.1]; exact World.ownsRow_nil _ _ _ _⟩
  go_wp2
  clear d0 d1 zd
  go_loopw [5, 15] (fun lv iv wr => ∃ (k : Nat) (A : Option Addr) (ca ln : Nat), k ≤ n ∧ lv = .slice A ln ca ∧ iv = .int .i64 ((k : Nat) : Int) ∧ Hid (ln = (bk k).length ∧ Below w2.heap.size w2 wr ∧ wr.ownsRow w2.heap.size 3 1 (.slice A ln ca) ln ((bk k).flatMap encN))) (fun _ iv _ => n - (intOf iv).toNat)
  case atStart => exact ⟨0, none, 0, 0, Nat.zero_le _, rfl, rfl, Lib.hid ⟨by rw [HBK.out.1]; rfl, Below.refl _ _, by rw [HBK.out.1]; exact World.ownsRow_nil _ _ _ _⟩⟩
  case round =>
    obtain ⟨k, A, ca, ln, hk, rfl, rfl, HW⟩ := hrel
    by_cases hlt : k < n
    · have HLT : Hid (k < n) := Lib.hid hlt
      have hk0 : (0 : Int) ≤ (k : Int) := by omega
      have hkn : (k : Int) < (n : Int) := by omega
      have hk9 : (k : Int) ≤ 14 := by have := HN.out; omega
      have hbk := (BX.out.below (below3 B1.out HW.out.2.1 (Nat.le_refl _)) BX.out.lt)
      have d0 := hbk.cell 0
      have d1 := hbk.cell 1
      simp only [List.getElem?_toArray, List.getElem?_cons_zero, List.getElem?_cons_succ] at d0 d1
      have zd := hbk.lt
      have HL14 : Hid (ln ≤ 14) := Lib.hid (by have h1 := HBK.out.2.2.2.1 k; have h2 := HN.out; have h3 := HW.out.1; omega)
      have KHX := KH.out wr k (below3 (below3 B0.out B1.out (Nat.le_refl _)) HW.out.2.1 (Nat.le_refl _)) hlt
      clear hbk hlt hk
      go_wp2_with fail
      obtain ⟨hb9, hhb9⟩ : ∃ z, z = holdB c k := ⟨_, rfl⟩
      rw [← hhb9] at KHX
      have HHB := Lib.hid hhb9
      clear hhb9
      refine KHX.mono ?_
      rintro e wh ⟨rfl, hB⟩
      have HA : Hid (Below w2.heap.size w2 wh ∧ wh.ownsRow w2.heap.size 3 1 (.slice A ln ca) ln ((bk k).flatMap encN)) := Lib.hid ⟨below3 HW.out.2.1 hB (Nat.le_refl _), own_keep HW.out.2.2 hB⟩
      clear hB KHX d0 d1 zd
      cases hb9 with
      | false =>
        have hb8 := HA.out.1.size
        have g1 : wh.heap.size < wh.heap.size + 1 := by omega
        have HLS : Hid ((bk (k + 1)).length = ln + 1 ∧ (bk (k + 1)).flatMap encN = (bk k).flatMap encN ++ encN k) := Lib.hid (by
          rw [HBK.out.2.2.1 k HHB.out.symm]
          exact ⟨by rw [List.length_append, HW.out.1]; rfl, by rw [List.flatMap_append]; simp⟩)
        go_wp2_with (at_builtin; refine wpList_append_own_at _ rfl (.tmp 22) (.tmp 24) 22 rfl w2.heap.size 3 i0 (.int .i64 0) 1 8 Try.underlying22 hi.out.1 hi.out.2.1 hi.out.2.2.1 hi.out.2.2.2 rfl (by decide) (.slice A ln ca) ln ((bk k).flatMap encN) rfl (HA.out.2.alloc _) ⟨wh.heap.size, 0, none⟩ 1 1 [.int .i64 (k : Int)] rfl rfl ?_ ?_ ?_ ?_ ?_ ?_)
        case _ =>
          intro j z hz
          match j, hz with
          | 0, hz =>
            simp only [List.getElem?_cons_zero, Option.some.injEq] at hz
            subst hz
            simp [Addr.add, go_sem]
        case _ => (intro z hz; simp only [List.mem_cons, List.mem_nil_iff, or_false] at hz; subst hz; rfl)
        case _ => simp only [maxLen]; have := HL14.out; omega
        case _ => have := HL14.out; omega
        case _ => simp only [World.size_alloc]; omega
        intro v' wy hown hg8 _ _
        obtain ⟨A9, c9, rfl⟩ := row_slice hown
        have HN9 : Hid (ln + 1 = (bk (k + 1)).length ∧ Below w2.heap.size w2 wy ∧ wy.ownsRow w2.heap.size 3 1 (.slice A9 (ln + 1) c9) (ln + 1) ((bk (k + 1)).flatMap encN)) := Lib.hid (by
          have h0 : Below wh.heap.size wh (wh.alloc (.cells #[.int .i64 (k : Int)] 3)) := (Below.refl _ _).alloc (Nat.le_refl _) _
          have h1 := below3 HA.out.1 h0 (Nat.le_refl _)
          have h2 := own_keep HA.out.2 h0
          rw [HLS.out.1, HLS.out.2]
          exact ⟨rfl, h1.grown hg8 h1.size (fun r e => (World.ownsRow.lt h2 r e).1), hown⟩)
        clear hown hg8 hb8
        go_wp2
        go_roundw
        case rel => exact ⟨k + 1, A9, c9, ln + 1, by have := HLT.out; omega, rfl, by go_num, HN9⟩
        case measure => have := HLT.out; simp [intOf]; omega
      | true =>
        have HN9 : Hid (ln = (bk (k + 1)).length ∧ Below w2.heap.size w2 wh ∧ wh.ownsRow w2.heap.size 3 1 (.slice A ln ca) ln ((bk (k + 1)).flatMap encN)) := Lib.hid (by
          rw [HBK.out.2.1 k HHB.out.symm]
          exact ⟨HW.out.1, HA.out⟩)
        go_wp2
        go_roundw
        case rel => exact ⟨k + 1, A, ca, ln, by have := HLT.out; omega, rfl, by go_num, HN9⟩
        case measure => have := HLT.out; simp [intOf]; omega
    · obtain rfl : n = k := by omega
      have HF : Hid (Below w.heap.size w wr ∧ ln = (brkL c).length) := Lib.hid ⟨below3 (below3 B0.out B1.out (Nat.le_refl _)) HW.out.2.1 (Nat.le_refl _), by rw [HW.out.1, HBK.out.2.2.2.2]⟩
      clear hlt hk
      go_wp2
      go_ret2
      exact ⟨A, ca, by rw [HF.out.2]; rfl, HF.out.1⟩
end Go.Proofs.Ytcecbohaajocfaa
