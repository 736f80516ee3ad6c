/- The law on the states in which a part has failed. -/
import Derived.Test.YtigefkjabjnmjaaGreatDoorRefP
import Derived.Test.YtigefkjabjnmjaaGreatDoorRefG
import Derived.Test.YtigefkjabjnmjaaGreatDoorBig
import Derived.Test.YtigefkjabjnmjaaGreatDoorSame
import Derived.StillTailTactics
import Derived.Deep.CutRange
namespace Go.Proofs.YtigefkjabjnmjaaGreatDoor
open Go.RowKit

theorem refBreak_cont {p : Plt} {s t : Stt} {K i : Int} {x : Bool} (h : t.cont = failCont p s K i x) {u : Stt} (k : u.cont = failCont p s K i x) : t.cont = u.cont := h.trans k.symm
theorem sameS_cont {s t : Stt} (h : s.cont = t.cont) : sameS s t = true := by
  obtain ⟨e0, e1, e2, e3, e4, e5, e6⟩ := cont_eq h
  simp [sameS, sameL, e0, e1, e2, e3, e4, e5, e6]
theorem partsOf_in (p : Plt) (w : World) (hp : PltIn w w.heap.size p) :
    Calls Tryz.prog 29 #[p.val] w fun e w' => ∃ A n c, e = .returned (.tuple #[.slice A n c, .int .i64 (check p)]) ∧ Below w.heap.size w w' ∧ Rd w' w'.heap.size 2 encP A n (partsOf p) ∧ n ≤ 9223372036854775807 := by
  by_cases hc : check p = 0
  · obtain ⟨B, hB, h1, h2⟩ := check_buses hc
    obtain ⟨k1, k2, k3⟩ := check_small hc hp
    refine (parts_ok p B w hp hc hB h2).mono ?_
    rintro e w' ⟨A, c, rfl, hb, ho⟩
    rw [partL_cells] at ho
    refine ⟨A, _, c, by rw [hc], hb, ?_, by omega⟩
    have := rd_row2 ho (partL_length _ _ _)
    unfold partsOf
    rw [if_pos hc, hB]
    exact this
  · refine (parts_bad p w hp hc).mono ?_
    rintro e w' ⟨rfl, hb⟩
    refine ⟨none, 0, 0, rfl, hb, ?_, by omega⟩
    unfold partsOf
    rw [if_neg hc]
    exact Rd.nil _ _ _ _
theorem refPartsOf_in (p : Plt) (w : World) (hp : PltIn w w.heap.size p) :
    Calls Tryz.prog 30 #[p.val] w fun e w' => ∃ A n c, e = .returned (.tuple #[.slice A n c, .int .i64 (check p)]) ∧ Below w.heap.size w w' ∧ Rd w' w'.heap.size 2 encP A n (partsOf p) ∧ n ≤ 9223372036854775807 := by
  by_cases hc : check p = 0
  · obtain ⟨B, hB, h1, h2⟩ := check_buses hc
    obtain ⟨k1, k2, k3⟩ := check_small hc hp
    refine (refParts_ok p B w hp hc hB h2).mono ?_
    rintro e w' ⟨A, c, rfl, hb, ho⟩
    rw [partL_cells] at ho
    refine ⟨A, _, c, by rw [hc], hb, ?_, by omega⟩
    have := rd_row2 ho (partL_length _ _ _)
    unfold partsOf
    rw [if_pos hc, hB]
    exact this
  · refine (refParts_bad p w hp hc).mono ?_
    rintro e w' ⟨rfl, hb⟩
    refine ⟨none, 0, 0, rfl, hb, ?_, by omega⟩
    unfold partsOf
    rw [if_neg hc]
    exact Rd.nil _ _ _ _
/-- What the law keeps. -/
structure Fl (w : World) (p : Plt) (s : Stt) (K i : Int) (W : World) : Prop where
  lo : Lo w p s w.heap.size (w.heap.size + 1) W
  bx : Blk W (w.heap.size + 1 + 1) 60 #[.int .i64 K, .int .i64 i]
theorem Fl.next {w : World} {p : Plt} {s : Stt} {K i : Int} {W W' : World} (h : Fl w p s K i W) (hb : Below W.heap.size W W') : Fl w p s K i W' := ⟨h.lo.next hb, h.bx.below hb h.bx.lt⟩
theorem Fl.alloc {w : World} {p : Plt} {s : Stt} {K i : Int} {W : World} (h : Fl w p s K i W) (o : Obj) : Fl w p s K i (W.alloc o) := h.next ((Below.refl _ _).alloc (Nat.le_refl _) _)
/-- A state in a box. -/
structure Sb (W : World) (g : Nat) (t : Stt) : Prop where
  box : Blk W g 29 (sBox t)
  stt : SttIn W W.heap.size t
theorem Sb.next {W W' : World} {g : Nat} {t : Stt} (h : Sb W g t) (hb : Below W.heap.size W W') : Sb W' g t := ⟨h.box.below hb h.box.lt, h.stt.next hb⟩
theorem Sb.alloc {W : World} {g : Nat} {t : Stt} (h : Sb W g t) (o : Obj) : Sb (W.alloc o) g t := h.next ((Below.refl _ _).alloc (Nat.le_refl _) _)
theorem Sb.new {W : World} {t : Stt} (h : SttIn W W.heap.size t) : Sb (W.alloc (.cells (sBox t) 29)) W.heap.size t := ⟨heap_alloc_new W _, h.next ((Below.refl _ _).alloc (Nat.le_refl _) _)⟩
theorem fail_same (p : Plt) (s o : Stt) (K i : Int) (x : Bool) (hs : Sized s) (ho : Sized o) (h : o.cont = s.cont) : failErr p o K i = failErr p s K i ∧ failCont p o K i x = failCont p s K i x := by
  obtain ⟨e0, e1, e2, e3, e4, e5, e6⟩ := cont_eq h
  obtain ⟨n0, n1, n2, n3, n4, n5, n6⟩ := sized_same hs ho (by rw [h])
  have hc : checkState p o = checkState p s := by
    have h1 : cableAt p o = cableAt p s := by funext i; unfold cableAt; rw [e0, e1]
    have h2 : linkLists p o = linkLists p s := by simp [linkLists, n0, n1, n2]
    have h3 : sourceLists p o = sourceLists p s := by simp [sourceLists, n3, n4]
    have h4 : busLists p o = busLists p s := by simp [busLists, n5, n6]
    have h5 : stateOk p o = stateOk p s := by unfold stateOk cablesOk; rw [h1, h2, h3, h4]
    unfold checkState
    rw [h5]
  have hf : failErr p o K i = failErr p s K i := by unfold failErr; rw [hc]
  refine ⟨hf, ?_⟩
  unfold failCont
  rw [hf]
  have hb : (brk o K i.toNat x).cont = (brk s K i.toNat x).cont := by
    unfold brk
    split
    · simp [Stt.cont, Stt.lists, e0, e1, e2, e3, e4, e5, e6]
    · split <;> simp [Stt.cont, Stt.lists, e0, e1, e2, e3, e4, e5, e6]
  rw [hb]
theorem blk_drew {w : World} {g : Nat} {t : TypeId} {cs : Array Value} (h : Blk w g t cs) : Blk w.drew g t cs := h
theorem bs_store {w w' : World} {g : Nat} {b : Bs} {d : Stt} (h : BsIn w w.heap.size b) (hb : Blk w g 29 (sBox d)) (hk : w.grownBy w' (some g)) : BsIn w' w'.heap.size b := by
  obtain ⟨⟨h1, h2⟩, h3⟩ := h
  refine ⟨⟨h1, fun hn => ?_⟩, h3⟩
  obtain ⟨k, off, e, hlt, hc⟩ := h2 hn
  have h0 : 0 < b.l.length := by omega
  have c0 := hc 0 _ (List.getElem?_eq_getElem h0) 0 _ rfl
  have hne : k ≠ g := by
    rintro rfl
    have h4 := hb.cell off
    rw [show off + 0 * 1 + 0 = off by omega] at c0
    rw [c0] at h4
    have h5 : (sBox d)[off]? = some (.bool b.l[0]) := h4.symm
    have h6 : off < 7 := by
      have := (Array.getElem?_eq_some_iff.1 h5).1
      simpa [sBox] using this
    match off, h6, h5 with
    | 0, _, h5 => simp [sBox] at h5
    | 1, _, h5 => simp [sBox] at h5
    | 2, _, h5 => simp [sBox] at h5
    | 3, _, h5 => simp [sBox] at h5
    | 4, _, h5 => simp [sBox] at h5
    | 5, _, h5 => simp [sBox] at h5
    | 6, _, h5 => simp [sBox] at h5
  exact ⟨k, off, e, Nat.lt_of_lt_of_le hlt hk.size, fun i x hx j u hu => hk.cell (hc i x hx j u hu) (by intro e'; cases e'; exact hne rfl)⟩
theorem stt_store {w w' : World} {g : Nat} {t d : Stt} (h : SttIn w w.heap.size t) (hb : Blk w g 29 (sBox d)) (hk : w.grownBy w' (some g)) : SttIn w' w'.heap.size t :=
  ⟨bs_store h.1 hb hk, bs_store h.2 hb hk, bs_store h.3 hb hk, bs_store h.4 hb hk, bs_store h.5 hb hk, bs_store h.6 hb hk, bs_store h.7 hb hk⟩
theorem sttOwn_below {w w' : World} {base : Nat} {s : Stt} (h : SttOwn w base s) (hb : Below w.heap.size w w') : SttOwn w' base s :=
  ⟨fun b hm => ⟨(h.own b hm).own.kept (grown_of_below hb) (by cases (Value.slice b.A b.n b.c).ownBlock with | none => exact .inl rfl | some g => exact .inr (by simp)), (h.own b hm).len⟩, h.apart⟩
set_option maxRecDepth 100000 in
set_option maxHeartbeats 8000000 in
theorem fails_any (p : Plt) (s : Stt) (K i : Int) (w : World) (hP : Pow w) (hp : PltIn w w.heap.size p) (hs : SttIn w w.heap.size s) (hf : SttFit s) :
    Calls Tryz.prog 4 #[p.val, s.val, .agg #[.int .i64 K, .int .i64 i]] w fun e w' => e = .returned (.bool true) ∧ Below w.heap.size w w' := by
  have AW := Lib.hid (fun W h => awake_any W h)
  have BIG := Lib.hid (fun W hp => big_any p W hp)
  have IN1 := Lib.hid (fun W hp => initial_all p W hp)
  have IN2 := Lib.hid (fun W hp => refInitial_all p W hp)
  have PA1 := Lib.hid (fun W hp => partsOf_in p W hp)
  have PA2 := Lib.hid (fun W hp => refPartsOf_in p W hp)
  have SM := Lib.hid (fun s t W hs ht => SameState_any s t W hs ht)
  have SP := Lib.hid (fun A A' n n' c c' l m W hl hm hn hn' => SameParts_any A A' n n' c c' l m W hl hm hn hn')
  have CP := Lib.hid (fun W hs => CopyState_any s W hs hf)
  have BR := Lib.hid (fun s W hp hs => break_all p s K i W hp hs)
  have ME := Lib.hid (fun s W hp hs => mend_all p s K i W hp hs)
  have FA := Lib.hid (fun x W hp hs => Failed_any p s K i x W hp hs)
  have HFL0 : Hid (Fl w p s K i (((w.alloc (.cells (pBox p) 26)).alloc (.cells (sBox s) 29)).alloc (.cells #[.int .i64 K, .int .i64 i] 60))) := by
    have hb : Below w.heap.size w (((w.alloc (.cells (pBox p) 26)).alloc (.cells (sBox s) 29)).alloc (.cells #[.int .i64 K, .int .i64 i] 60)) := by (repeat' (first | (with_reducible exact Below.refl _ _) | (with_reducible assumption) | (with_reducible refine below_drewN ?_ _) | (with_reducible refine below_after (by assumption) ?_ ?_) | (with_reducible refine Below.drew ?_) | (with_reducible refine Below.alloc ?_ ?_ _) | (with_reducible refine Below.setCell ?_ ?_ _) | omega | (simp; omega) | (simp; done)))
    have h1 := heap_alloc_new (w.alloc (.cells (pBox p) 26)) (.cells (sBox s) 29)
    have h2 := heap_alloc_new ((w.alloc (.cells (pBox p) 26)).alloc (.cells (sBox s) 29)) (.cells #[.int .i64 K, .int .i64 i] 60)
    simp only [World.size_alloc] at h1 h2
    exact ⟨⟨hb, hp.next hb, hs.next hb, (Blk.alloc (heap_alloc_new w _) _).alloc _, (show Blk _ _ _ _ from h1).alloc _⟩, h2⟩
  have HPow := Lib.hid hP
  clear hP hp hs
  obtain ⟨cv, hcv⟩ : ∃ q, check p = q := ⟨_, rfl⟩
  rw [hcv] at IN1 IN2 PA1 PA2
  obtain ⟨iC, hiC⟩ : ∃ q, initC p = q := ⟨_, rfl⟩
  rw [hiC] at IN1 IN2
  obtain ⟨pL, hpL⟩ : ∃ q, partsOf p = q := ⟨_, rfl⟩
  rw [hpL] at PA1 PA2
  clear hcv hiC hpL
  unfold Plt.val at BIG IN1 IN2 PA1 PA2 BR ME FA ⊢
  unfold Stt.val at FA ⊢
  go_enter Tryz.func4, Tryz.ntmps4
  go_wp2_with fail
  refine (BIG.out _ HFL0.out.lo.plt).mono ?_
  rintro e w1 ⟨rfl, hB1⟩
  have HFL1 := Lib.hid (HFL0.out.next hB1)
  clear hB1 HFL0
  by_cases hq : bigP p = true
  · rw [hq]
    go_wp2_with fail
    refine (AW.out _ (HPow.out.below HFL1.out.lo.low)).mono ?_
    rintro e w2 ⟨rfl, hB2⟩
    go_wp2_with fail
    go_ret
    exact ⟨rfl, below_after hB2 (Nat.le_refl _) HFL1.out.lo.low⟩
  rw [show bigP p = false by simpa using hq]
  obtain ⟨p0, p1, p2, p3⟩ := HFL1.out.lo.pc
  go_wp2_with fail
  refine (IN1.out _ HFL1.out.lo.plt).mono ?_
  rintro e w2 ⟨a, rfl, hB2, hO2, hC2⟩
  have HA2 := Lib.hid (Sb.new (sttIn_of hO2))
  have HFL2 := Lib.hid ((HFL1.out.next hB2).alloc (.cells (sBox a) 29))
  clear p0 p1 p2 p3 HFL1 hB2 hO2
  obtain ⟨p0, p1, p2, p3⟩ := HFL2.out.lo.pc
  unfold Stt.val
  unfold sBox at p0 p1 p2 p3
  go_wp2_with fail
  refine (IN2.out _ HFL2.out.lo.plt).mono ?_
  rintro e w3 ⟨b, rfl, hB3, hO3, hC3⟩
  have HB3 := Lib.hid (Sb.new (sttIn_of hO3))
  have HA3 := Lib.hid ((HA2.out.next hB3).alloc (.cells (sBox b) 29))
  have HFL3 := Lib.hid ((HFL2.out.next hB3).alloc (.cells (sBox b) 29))
  clear p0 p1 p2 p3 HFL2 HA2 hB3 hO3
  have hab : sameS a b = true := sameS_cont (hC2.trans hC3.symm)
  clear hC2 hC3
  obtain ⟨p0, p1, p2, p3⟩ := HFL3.out.lo.pc
  unfold Stt.val
  unfold sBox at p0 p1 p2 p3
  go_wp2_with fail
  refine (PA1.out _ HFL3.out.lo.plt).mono ?_
  rintro e w4 ⟨A4, n4, c4, rfl, hB4, hR4, hn4⟩
  have HR4 := Lib.hid hR4
  have HB4 := Lib.hid (HB3.out.next hB4)
  have HA4 := Lib.hid (HA3.out.next hB4)
  have HFL4 := Lib.hid (HFL3.out.next hB4)
  clear p0 p1 p2 p3 HFL3 HA3 HB3 hB4 hR4
  obtain ⟨p0, p1, p2, p3⟩ := HFL4.out.lo.pc
  go_wp2_with fail
  refine (PA2.out _ HFL4.out.lo.plt).mono ?_
  rintro e w5 ⟨A5, n5, c5, rfl, hB5, hR5, hn5⟩
  have HR45 := Lib.hid (HR4.out.next hB5)
  have HR5 := Lib.hid hR5
  have HB5 := Lib.hid (HB4.out.next hB5)
  have HA5 := Lib.hid (HA4.out.next hB5)
  have HFL5 := Lib.hid (HFL4.out.next hB5)
  clear p0 p1 p2 p3 HFL4 HA4 HB4 HR4 hB5 hR5
  obtain ⟨a0, a1, a2, a3, a4, a5, a6⟩ := sBox_cells HA5.out.box
  obtain ⟨b0, b1, b2, b3, b4, b5, b6⟩ := sBox_cells HB5.out.box
  go_wp2_with fail
  refine (SM.out a b _ HA5.out.stt HB5.out.stt).mono ?_
  rintro e w6 ⟨rfl, hB6⟩
  rw [hab]
  have HR46 := Lib.hid (HR45.out.next hB6)
  have HR6 := Lib.hid (HR5.out.next hB6)
  have HFL6 := Lib.hid (HFL5.out.next hB6)
  clear a0 a1 a2 a3 a4 a5 a6 b0 b1 b2 b3 b4 b5 b6 HA5 HB5 HFL5 HR45 HR5 hB6 hab
  go_wp2_with fail
  refine (SP.out _ _ _ _ _ _ _ _ _ HR46.out HR6.out hn4 hn5).mono ?_
  rintro e w7 ⟨rfl, hB7⟩
  rw [show sameL pL pL = true by simp [sameL]]
  have HFL7 := Lib.hid (HFL6.out.next hB7)
  clear HR46 HR6 HFL6 hB7
  obtain ⟨s0, s1, s2, s3, s4, s5, s6⟩ := sBox_cells HFL7.out.lo.bs
  go_wp2_with fail
  refine (CP.out _ HFL7.out.lo.stt).mono ?_
  rintro e w8 ⟨o, rfl, hB8, hO8, hl8⟩
  have HO8 := Lib.hid (Sb.new (sttIn_of hO8))
  have HOS := Lib.hid (sameS_cont (eq_cont hl8))
  have HOC := Lib.hid (eq_cont hl8)
  have HFL8 := Lib.hid ((HFL7.out.next hB8).alloc (.cells (sBox o) 29))
  clear s0 s1 s2 s3 s4 s5 s6 HFL7 hB8 hO8 hl8
  obtain ⟨p0, p1, p2, p3⟩ := HFL8.out.lo.pc
  obtain ⟨o0, o1, o2, o3, o4, o5, o6⟩ := sBox_cells HO8.out.box
  have x0 : (w8.alloc (.cells (sBox o) 29)).cell? ⟨w.heap.size + 1 + 1, 0, none⟩ = some (.int .i64 K) := HFL8.out.bx.cell 0
  have x1 : (w8.alloc (.cells (sBox o) 29)).cell? ⟨w.heap.size + 1 + 1, 1, none⟩ = some (.int .i64 i) := HFL8.out.bx.cell 1
  unfold Stt.val
  unfold sBox at p0 p1 p2 p3 o0 o1 o2 o3 o4 o5 o6 x0 x1
  obtain ⟨fe1, fc1⟩ := fail_same p s o K i true HFL8.out.lo.stt.sized HO8.out.stt.sized HOC.out
  have BRo := Lib.hid (BR.out o _ HFL8.out.lo.plt HO8.out.stt)
  rw [fe1, fc1] at BRo
  clear fe1 fc1
  obtain ⟨fe, hfe⟩ : ∃ q, failErr p s K i = q := ⟨_, rfl⟩
  obtain ⟨cC, hcC⟩ : ∃ q, failCont p s K i true = q := ⟨_, rfl⟩
  rw [hfe, hcC] at BRo
  have FA1 := Lib.hid (fun W hp hs => FA.out true W hp hs)
  have FA2 := Lib.hid (fun W hp hs => FA.out false W hp hs)
  obtain ⟨cD, hcD⟩ : ∃ q, failCont p s K i false = q := ⟨_, rfl⟩
  rw [hfe, hcC] at FA1
  rw [hfe, hcD] at FA2
  have HFE : Hid (failErr p s K i = fe ∧ failCont p s K i false = cD) := ⟨hfe, hcD⟩
  clear hfe hcC hcD FA
  unfold Stt.val at BRo
  unfold sBox at BRo
  go_wp2_with fail
  refine BRo.out.mono ?_
  rintro e w9 ⟨c, rfl, hB9, hO9, hC9⟩
  have hB9' := hB9
  have HFL9 := Lib.hid ((HFL8.out.next hB9).alloc (.cells (sBox c) 29))
  have HO9 := Lib.hid ((HO8.out.next hB9).alloc (.cells (sBox c) 29))
  have HC9 := Lib.hid (Sb.new (sttIn_of hO9))
  have HCO9 := Lib.hid (hO9.alloc (.cells (sBox c) 29))
  have HBel9 : Hid (Below (w8.alloc (.cells (sBox o) 29)).heap.size (w8.alloc (.cells (sBox o) 29)) (w9.alloc (.cells (sBox c) 29))) := hB9.alloc hB9.size _
  have HCC9 := Lib.hid hC9
  have HGC9 : Hid (∀ b ∈ c.lists, ∀ g, b.blk = some g → (w8.alloc (.cells (sBox o) 29)).heap.size ≤ g ∧ g < w9.heap.size) := fun b hb g hg => (hO9.own b hb).own.lt g hg
  have HFitC : Hid (∀ b ∈ c.lists, b.n ≤ 9223372036854775807) := fun b hb => (bsIn_of (hO9.own b hb)).2
  have HZ9 := Lib.hid hB9.size
  clear p0 p1 p2 p3 o0 o1 o2 o3 o4 o5 o6 x0 x1 hB9 hB9' hO9 hC9 BRo
  obtain ⟨p0, p1, p2, p3⟩ := HFL9.out.lo.pc
  obtain ⟨s0, s1, s2, s3, s4, s5, s6⟩ := sBox_cells HFL9.out.lo.bs
  have x0 : (w9.alloc (.cells (sBox c) 29)).cell? ⟨w.heap.size + 1 + 1, 0, none⟩ = some (.int .i64 K) := HFL9.out.bx.cell 0
  have x1 : (w9.alloc (.cells (sBox c) 29)).cell? ⟨w.heap.size + 1 + 1, 1, none⟩ = some (.int .i64 i) := HFL9.out.bx.cell 1
  unfold sBox at p0 p1 p2 p3 s0 s1 s2 s3 s4 s5 s6 x0 x1
  go_wp2_with fail
  refine (FA1.out _ HFL9.out.lo.plt HFL9.out.lo.stt).mono ?_
  rintro e w10 ⟨d, rfl, hB10, hO10, hC10⟩
  have HFL10 := Lib.hid ((HFL9.out.next hB10).alloc (.cells (sBox d) 29))
  have HO10 := Lib.hid ((HO9.out.next hB10).alloc (.cells (sBox d) 29))
  have HC10 := Lib.hid ((HC9.out.next hB10).alloc (.cells (sBox d) 29))
  have HD10 := Lib.hid (Sb.new hO10)
  have HZ10 : Hid (w9.heap.size < w10.heap.size) := by have := hB10.size; simp only [World.size_alloc] at this; exact this
  have HSD := Lib.hid (sameS_cont (HCC9.out.trans hC10.symm))
  have HBel10 : Hid (Below (w8.alloc (.cells (sBox o) 29)).heap.size (w8.alloc (.cells (sBox o) 29)) (w10.alloc (.cells (sBox d) 29))) := by
    have h := HBel9.out.size
    have h2 := hB10.size
    exact (HBel9.out.trans (hB10.mono h)).alloc (Nat.le_trans h h2) _
  have HCO10 : Hid (SttOwn (w10.alloc (.cells (sBox d) 29)) (w8.alloc (.cells (sBox o) 29)).heap.size c) := by
    show SttOwn _ _ _
    exact (sttOwn_below HCO9.out hB10).alloc _
  clear p0 p1 p2 p3 s0 s1 s2 s3 s4 s5 s6 x0 x1 hO10 hC10 HFL9 HO9 HC9 HCC9 HCO9 HBel9
  obtain ⟨c0, c1, c2, c3, c4, c5, c6⟩ := sBox_cells HC10.out.box
  obtain ⟨d0, d1, d2, d3, d4, d5, d6⟩ := sBox_cells HD10.out.box
  unfold sBox at c0 c1 c2 c3 c4 c5 c6 d0 d1 d2 d3 d4 d5 d6
  go_wp2_with fail
  refine (SM.out c d _ HC10.out.stt HD10.out.stt).mono ?_
  rintro e w11 ⟨rfl, hB11⟩
  rw [HSD.out]
  obtain ⟨Wb, hWb⟩ : ∃ W, w8.alloc (.cells (sBox o) 29) = W := ⟨_, rfl⟩
  have HFLb : Hid (Fl w p s K i Wb) := by rw [← hWb]; exact HFL8
  have HOb : Hid (Sb Wb w8.heap.size o) := by rw [← hWb]; exact HO8
  have hzb : Wb.heap.size ≤ w9.heap.size := by rw [← hWb]; exact HZ9.out
  have HBel11 : Hid (Below Wb.heap.size Wb w11) := by
    show Below _ _ _
    rw [← hWb]
    exact HBel10.out.trans (hB11.mono HBel10.out.size)
  have HCO11 : Hid (SttOwn w11 Wb.heap.size c) := by
    show SttOwn _ _ _
    rw [← hWb]
    exact sttOwn_below HCO10.out hB11
  obtain ⟨gb, hgb⟩ : ∃ g, w9.heap.size = g := ⟨_, rfl⟩
  obtain ⟨gd, hgd⟩ : ∃ g, w10.heap.size = g := ⟨_, rfl⟩
  have hzz : w9.heap.size < w10.heap.size := HZ10.out
  have HCB11 : Hid (Blk w11 gb 29 (sBox c)) := by rw [← hgb]; exact (HC10.out.next hB11).box
  have HDB11 : Hid (Blk w11 gd 29 (sBox d)) := by rw [← hgd]; exact (HD10.out.next hB11).box
  have HGC : Hid (∀ b ∈ c.lists, ∀ g, b.blk = some g → Wb.heap.size ≤ g ∧ g < gb) := by rw [← hgb, ← hWb]; exact HGC9
  have hFit := HFitC.out
  have hgbd : gb < gd := by omega
  have hgd11 : gd < w11.heap.size := Blk.lt HDB11.out
  rw [hgb, hgd]
  rw [hgb] at hzb
  clear hWb hgb hgd hzz HC10 HD10 HCO10 HBel10 HFL10 HO10 HFL8 HO8 HSD c0 c1 c2 c3 c4 c5 c6 d0 d1 d2 d3 d4 d5 d6 hB11 HZ9 HZ10 HGC9 HFitC
  go_wp2_with fail
  go_loopw [18] (fun i wr => ∃ k : Nat, k ≤ c.closed.n ∧ i = .int .i64 k ∧ Below Wb.heap.size Wb wr ∧ w11.heap.size ≤ wr.heap.size ∧ Blk wr gb 29 (sBox c) ∧ Blk wr gd 29 (sBox d) ∧ Hid (∃ la lb, SttOwn wr Wb.heap.size { c with closed := { c.closed with l := la }, badBus := { c.badBus with l := lb } })) (fun i _ => c.closed.n - (intOf i).toNat)
  case atStart => exact ⟨0, by omega, rfl, HBel11.out, Nat.le_refl _, HCB11.out, HDB11.out, _, _, HCO11.out⟩
  obtain ⟨k, hk, rfl, hB, hz, bC, bD, hE⟩ := hrel
  obtain ⟨q0, q1, q2, q3, q4, q5, q6⟩ := sBox_cells bC
  have BC := Lib.hid bC
  have BD := Lib.hid bD
  clear bC bD
  by_cases hlt : k < c.closed.n
  · obtain ⟨la, lb, hown⟩ := hE.out
    have hC := hown.own { c.closed with l := la } (by simp [Stt.lists])
    have hlen : la.length = c.closed.n := hC.len
    obtain ⟨gc, hA⟩ : ∃ g, c.closed.A = some ⟨g, 0, none⟩ := by
      rcases hC.own.2 with ⟨_, h0⟩ | ⟨g, cap, cur, e, _⟩
      · simp only at h0; omega
      · simp only [Value.slice.injEq] at e
        exact ⟨g, e.1⟩
    obtain ⟨hg1, hg2⟩ := HGC.out c.closed (by simp [Stt.lists]) gc (by unfold Bs.blk; rw [hA]; rfl)
    have hC' := hC.own
    simp only at hC'
    rw [hA] at hC'
    obtain ⟨x, hx⟩ : ∃ x, la[k]? = some x := ⟨_, List.getElem?_eq_getElem (by omega)⟩
    have cg : wr.cell? ⟨gc, k, none⟩ = some (.bool x) := by
      rw [hC'.cellAt k (by omega), List.getElem?_map, hx]
      rfl
    have cg' : ∀ n, (wr.drewN n).cell? ⟨gc, k, none⟩ = some (.bool x) := fun n => cg
    have fg := hC'.frozenAt k
    have zg : gc < wr.heap.size := (hC'.lt gc rfl).2
    have hi0 : (0 : Int) ≤ (k : Int) := by omega
    have hin : (k : Int) < (c.closed.n : Int) := by omega
    have hb63 : c.closed.n ≤ 9223372036854775807 := hFit c.closed (by simp [Stt.lists])
    have hkw : IntKind.i64.wrap (k : Int) = (k : Int) := IntWalk.i64_in _ (by omega)
    have S := lists_stored hown.own hown.apart (j := 0) (b := { c.closed with l := la }) rfl hA k (!x)
    have S' : Hid (∃ la lb, SttOwn ((wr.setCell ⟨gc, k, none⟩ (.bool (!x))).drew) Wb.heap.size { c with closed := { c.closed with l := la }, badBus := { c.badBus with l := lb } }) := ⟨la.set k (!x), lb, ⟨fun b hb => ⟨(S.1 b hb).own, (S.1 b hb).len⟩, S.2⟩⟩
    rw [hA] at q0
    have HA := Lib.hid hA
    have HG := Lib.hid (And.intro hg1 hg2)
    clear hC hC' S hown hlen hx hE hA hg1 hg2
    go_wp2
    go_still_tail 10, (by kernel_rfl)
    change wpList _ _ _ _ _ wr.drew
    go_wp2
    have hG1 := HG.out.1
    have hG2 := HG.out.2
    go_roundw
    case rel => exact ⟨k + 1, by omega, by go_num, by (repeat' (first | (with_reducible exact Below.refl _ _) | (with_reducible assumption) | (with_reducible refine below_drewN ?_ _) | (with_reducible refine below_after (by assumption) ?_ ?_) | (with_reducible refine Below.drew ?_) | (with_reducible refine Below.alloc ?_ ?_ _) | (with_reducible refine Below.setCell ?_ ?_ _) | omega | (simp; omega) | (simp; done))), by simp; omega, blk_drew (BC.out.far (by simp; omega) _), blk_drew (BD.out.far (by simp; omega) _), S'⟩
    case measure => simp [intOf]; omega
  obtain rfl : c.closed.n = k := by omega
  go_wp2
  clear hk hlt q0 q1 q2 q3 q4 q5 q6
  go_loopw [19] (fun i wr => ∃ k : Nat, k ≤ c.badBus.n ∧ i = .int .i64 k ∧ Below Wb.heap.size Wb wr ∧ w11.heap.size ≤ wr.heap.size ∧ Blk wr gb 29 (sBox c) ∧ Blk wr gd 29 (sBox d) ∧ Hid (∃ la lb, SttOwn wr Wb.heap.size { c with closed := { c.closed with l := la }, badBus := { c.badBus with l := lb } })) (fun i _ => c.badBus.n - (intOf i).toNat)
  case atStart => exact ⟨0, by omega, rfl, hB, hz, BC.out, BD.out, hE⟩
  obtain ⟨k, hk, rfl, hB, hz, bC, bD, hE⟩ := hrel
  obtain ⟨q0, q1, q2, q3, q4, q5, q6⟩ := sBox_cells bC
  have BC := Lib.hid bC
  have BD := Lib.hid bD
  clear bC bD
  by_cases hlt : k < c.badBus.n
  · obtain ⟨la, lb, hown⟩ := hE.out
    have hC := hown.own { c.badBus with l := lb } (by simp [Stt.lists])
    have hlen : lb.length = c.badBus.n := hC.len
    obtain ⟨gc, hA⟩ : ∃ g, c.badBus.A = some ⟨g, 0, none⟩ := by
      rcases hC.own.2 with ⟨_, h0⟩ | ⟨g, cap, cur, e, _⟩
      · simp only at h0; omega
      · simp only [Value.slice.injEq] at e
        exact ⟨g, e.1⟩
    obtain ⟨hg1, hg2⟩ := HGC.out c.badBus (by simp [Stt.lists]) gc (by unfold Bs.blk; rw [hA]; rfl)
    have hC' := hC.own
    simp only at hC'
    rw [hA] at hC'
    obtain ⟨x, hx⟩ : ∃ x, lb[k]? = some x := ⟨_, List.getElem?_eq_getElem (by omega)⟩
    have cg : wr.cell? ⟨gc, k, none⟩ = some (.bool x) := by
      rw [hC'.cellAt k (by omega), List.getElem?_map, hx]
      rfl
    have cg' : ∀ n, (wr.drewN n).cell? ⟨gc, k, none⟩ = some (.bool x) := fun n => cg
    have fg := hC'.frozenAt k
    have zg : gc < wr.heap.size := (hC'.lt gc rfl).2
    have hi0 : (0 : Int) ≤ (k : Int) := by omega
    have hin : (k : Int) < (c.badBus.n : Int) := by omega
    have hb63 : c.badBus.n ≤ 9223372036854775807 := hFit c.badBus (by simp [Stt.lists])
    have hkw : IntKind.i64.wrap (k : Int) = (k : Int) := IntWalk.i64_in _ (by omega)
    have S := lists_stored hown.own hown.apart (j := 6) (b := { c.badBus with l := lb }) rfl hA k (!x)
    have S' : Hid (∃ la lb, SttOwn ((wr.setCell ⟨gc, k, none⟩ (.bool (!x))).drew) Wb.heap.size { c with closed := { c.closed with l := la }, badBus := { c.badBus with l := lb } }) := ⟨la, lb.set k (!x), ⟨fun b hb => ⟨(S.1 b hb).own, (S.1 b hb).len⟩, S.2⟩⟩
    rw [hA] at q6
    have HA := Lib.hid hA
    have HG := Lib.hid (And.intro hg1 hg2)
    clear hC hC' S hown hlen hx hE hA hg1 hg2
    go_wp2
    go_still_tail 10, (by kernel_rfl)
    change wpList _ _ _ _ _ wr.drew
    go_wp2
    have hG1 := HG.out.1
    have hG2 := HG.out.2
    go_roundw
    case rel => exact ⟨k + 1, by omega, by go_num, by (repeat' (first | (with_reducible exact Below.refl _ _) | (with_reducible assumption) | (with_reducible refine below_drewN ?_ _) | (with_reducible refine below_after (by assumption) ?_ ?_) | (with_reducible refine Below.drew ?_) | (with_reducible refine Below.alloc ?_ ?_ _) | (with_reducible refine Below.setCell ?_ ?_ _) | omega | (simp; omega) | (simp; done))), by simp; omega, blk_drew (BC.out.far (by simp; omega) _), blk_drew (BD.out.far (by simp; omega) _), S'⟩
    case measure => simp [intOf]; omega
  obtain rfl : c.badBus.n = k := by omega
  have HB := Lib.hid hB
  have HFL12 := Lib.hid (HFLb.out.next hB)
  have HO12 := Lib.hid (HOb.out.next hB)
  have hgw : gb < wr.heap.size := Blk.lt BC.out
  clear hk hlt hE hB
  obtain ⟨fe1, fc1⟩ := fail_same p s o K i false HFL12.out.lo.stt.sized HO12.out.stt.sized HOC.out
  have MEo := Lib.hid (ME.out o _ HFL12.out.lo.plt HO12.out.stt)
  rw [fe1, fc1, HFE.out.1, HFE.out.2] at MEo
  clear fe1 fc1
  obtain ⟨p0, p1, p2, p3⟩ := HFL12.out.lo.pc
  obtain ⟨o0, o1, o2, o3, o4, o5, o6⟩ := sBox_cells HO12.out.box
  have x0 : wr.cell? ⟨w.heap.size + 1 + 1, 0, none⟩ = some (.int .i64 K) := HFL12.out.bx.cell 0
  have x1 : wr.cell? ⟨w.heap.size + 1 + 1, 1, none⟩ = some (.int .i64 i) := HFL12.out.bx.cell 1
  unfold Stt.val at MEo
  go_wp2_with fail
  refine MEo.out.mono ?_
  rintro e w13 ⟨c', rfl, hB13, hO13, hC13⟩
  have bC13 := BC.out.below hB13 (Blk.lt BC.out)
  obtain ⟨q0, q1, q2, q3, q4, q5, q6⟩ := sBox_cells bC13
  have fz := bC13.frozen
  have HC13 := Lib.hid hC13
  have HB13 := Lib.hid hB13
  have HO13 := Lib.hid hO13
  have hz13 := hB13.size
  clear p0 p1 p2 p3 o0 o1 o2 o3 o4 o5 o6 x0 x1 MEo hC13 hB13 hO13 bC13
  go_upto_region 23 with fail
  have S7 := store7 (show Blk w13 gb 29 #[.slice c.closed.A c.closed.n c.closed.c, .slice c.locked.A c.locked.n c.locked.c, .slice c.badLink.A c.badLink.n c.badLink.c, .slice c.on.A c.on.n c.on.c, .slice c.badSource.A c.badSource.n c.badSource.c, .slice c.earthed.A c.earthed.n c.earthed.c, .slice c.badBus.A c.badBus.n c.badBus.c] from BC.out.below HB13.out (Blk.lt BC.out)) (.slice c'.closed.A c'.closed.n c'.closed.c) (.slice c'.locked.A c'.locked.n c'.locked.c) (.slice c'.badLink.A c'.badLink.n c'.badLink.c) (.slice c'.on.A c'.on.n c'.on.c) (.slice c'.badSource.A c'.badSource.n c'.badSource.c) (.slice c'.earthed.A c'.earthed.n c'.earthed.c) (.slice c'.badBus.A c'.badBus.n c'.badBus.c)
  have hI14 := sttIn_of (((((((HO13.out.below hgw (i := 0) (.slice c'.closed.A c'.closed.n c'.closed.c)).below hgw (i := 1) (.slice c'.locked.A c'.locked.n c'.locked.c)).below hgw (i := 2) (.slice c'.badLink.A c'.badLink.n c'.badLink.c)).below hgw (i := 3) (.slice c'.on.A c'.on.n c'.on.c)).below hgw (i := 4) (.slice c'.badSource.A c'.badSource.n c'.badSource.c)).below hgw (i := 5) (.slice c'.earthed.A c'.earthed.n c'.earthed.c)).below hgw (i := 6) (.slice c'.badBus.A c'.badBus.n c'.badBus.c))
  obtain ⟨W14, hW14⟩ : ∃ W, (((((((w13.setCell ⟨gb, 0, none⟩ (.slice c'.closed.A c'.closed.n c'.closed.c)).setCell ⟨gb, 1, none⟩ (.slice c'.locked.A c'.locked.n c'.locked.c)).setCell ⟨gb, 2, none⟩ (.slice c'.badLink.A c'.badLink.n c'.badLink.c)).setCell ⟨gb, 3, none⟩ (.slice c'.on.A c'.on.n c'.on.c)).setCell ⟨gb, 4, none⟩ (.slice c'.badSource.A c'.badSource.n c'.badSource.c)).setCell ⟨gb, 5, none⟩ (.slice c'.earthed.A c'.earthed.n c'.earthed.c)).setCell ⟨gb, 6, none⟩ (.slice c'.badBus.A c'.badBus.n c'.badBus.c)) = W := ⟨_, rfl⟩
  rw [hW14] at S7 hI14 ⊢
  have HS14 : Hid (Sb W14 gb c') := ⟨S7.1, hI14⟩
  have hBel13 : Below Wb.heap.size Wb w13 := HB.out.trans (HB13.out.mono HB.out.size)
  have hBel14 : Below Wb.heap.size Wb W14 := hBel13.grown S7.2 hBel13.size (fun k e => by cases e; exact hzb)
  have HBel14 := Lib.hid hBel14
  have HFL14 := Lib.hid (HFLb.out.next hBel14)
  have HO14 := Lib.hid (HOb.out.next hBel14)
  have HD14 : Hid (Blk W14 gd 29 (sBox d)) := by
    have h := BD.out.below HB13.out (Blk.lt BD.out)
    exact (S7.2.block gd (Blk.lt h) (by intro e; cases e; omega)).trans h
  clear S7 hI14 hBel13 hBel14 hW14 q0 q1 q2 q3 q4 q5 q6 fz HFL12 HO12 HO13 HB13 HB BC BD
  obtain ⟨p0, p1, p2, p3⟩ := HFL14.out.lo.pc
  obtain ⟨s0, s1, s2, s3, s4, s5, s6⟩ := sBox_cells HFL14.out.lo.bs
  have x0 : W14.cell? ⟨w.heap.size + 1 + 1, 0, none⟩ = some (.int .i64 K) := HFL14.out.bx.cell 0
  have x1 : W14.cell? ⟨w.heap.size + 1 + 1, 1, none⟩ = some (.int .i64 i) := HFL14.out.bx.cell 1
  go_wp2_with fail
  refine (FA2.out _ HFL14.out.lo.plt HFL14.out.lo.stt).mono ?_
  rintro e w15 ⟨d', rfl, hB15, hI15, hC15⟩
  have HSD : Hid (sameS c' d' = true) := sameS_cont (HC13.out.trans hC15.symm)
  have HFL15 := Lib.hid (HFL14.out.next hB15)
  have HO15 := Lib.hid (HO14.out.next hB15)
  have HS15 := Lib.hid (HS14.out.next hB15)
  have HBel15 : Hid (Below Wb.heap.size Wb w15) := HBel14.out.trans (hB15.mono HBel14.out.size)
  have hD15 := HD14.out.below hB15 (Blk.lt HD14.out)
  obtain ⟨q0, q1, q2, q3, q4, q5, q6⟩ := sBox_cells hD15
  have fz := hD15.frozen
  have HD15 := Lib.hid hD15
  have HI15 := Lib.hid hI15
  clear p0 p1 p2 p3 s0 s1 s2 s3 s4 s5 s6 x0 x1 HFL14 HO14 HS14 HBel14 HD14 hB15 hD15 hI15 hC15 HC13
  go_upto_region 24 with fail
  have S7 := store7 (show Blk w15 gd 29 #[.slice d.closed.A d.closed.n d.closed.c, .slice d.locked.A d.locked.n d.locked.c, .slice d.badLink.A d.badLink.n d.badLink.c, .slice d.on.A d.on.n d.on.c, .slice d.badSource.A d.badSource.n d.badSource.c, .slice d.earthed.A d.earthed.n d.earthed.c, .slice d.badBus.A d.badBus.n d.badBus.c] from HD15.out) (.slice d'.closed.A d'.closed.n d'.closed.c) (.slice d'.locked.A d'.locked.n d'.locked.c) (.slice d'.badLink.A d'.badLink.n d'.badLink.c) (.slice d'.on.A d'.on.n d'.on.c) (.slice d'.badSource.A d'.badSource.n d'.badSource.c) (.slice d'.earthed.A d'.earthed.n d'.earthed.c) (.slice d'.badBus.A d'.badBus.n d'.badBus.c)
  obtain ⟨W16, hW16⟩ : ∃ W, (((((((w15.setCell ⟨gd, 0, none⟩ (.slice d'.closed.A d'.closed.n d'.closed.c)).setCell ⟨gd, 1, none⟩ (.slice d'.locked.A d'.locked.n d'.locked.c)).setCell ⟨gd, 2, none⟩ (.slice d'.badLink.A d'.badLink.n d'.badLink.c)).setCell ⟨gd, 3, none⟩ (.slice d'.on.A d'.on.n d'.on.c)).setCell ⟨gd, 4, none⟩ (.slice d'.badSource.A d'.badSource.n d'.badSource.c)).setCell ⟨gd, 5, none⟩ (.slice d'.earthed.A d'.earthed.n d'.earthed.c)).setCell ⟨gd, 6, none⟩ (.slice d'.badBus.A d'.badBus.n d'.badBus.c)) = W := ⟨_, rfl⟩
  rw [hW16] at S7 ⊢
  have HSd16 : Hid (Sb W16 gd d') := ⟨S7.1, stt_store HI15.out HD15.out S7.2⟩
  have HSc16 : Hid (Sb W16 gb c') := ⟨(S7.2.block gb (Blk.lt HS15.out.box) (by intro e; cases e; omega)).trans HS15.out.box, stt_store HS15.out.stt HD15.out S7.2⟩
  have hBel16 : Below Wb.heap.size Wb W16 := HBel15.out.grown S7.2 HBel15.out.size (fun k e => by cases e; omega)
  have HFL16 := Lib.hid (HFLb.out.next hBel16)
  have HO16 := Lib.hid (HOb.out.next hBel16)
  clear S7 hW16 q0 q1 q2 q3 q4 q5 q6 fz HFL15 HO15 HS15 HBel15 HD15 HI15 hBel16
  obtain ⟨c0, c1, c2, c3, c4, c5, c6⟩ := sBox_cells HSc16.out.box
  obtain ⟨d0, d1, d2, d3, d4, d5, d6⟩ := sBox_cells HSd16.out.box
  go_wp2_with fail
  refine (SM.out c' d' _ HSc16.out.stt HSd16.out.stt).mono ?_
  rintro e w17 ⟨rfl, hB17⟩
  rw [HSD.out]
  have HFL17 := Lib.hid (HFL16.out.next hB17)
  have HO17 := Lib.hid (HO16.out.next hB17)
  clear c0 c1 c2 c3 c4 c5 c6 d0 d1 d2 d3 d4 d5 d6 HSc16 HSd16 HFL16 HO16 hB17
  obtain ⟨s0, s1, s2, s3, s4, s5, s6⟩ := sBox_cells HFL17.out.lo.bs
  obtain ⟨o0, o1, o2, o3, o4, o5, o6⟩ := sBox_cells HO17.out.box
  go_wp2_with fail
  refine (SM.out o s _ HO17.out.stt HFL17.out.lo.stt).mono ?_
  rintro e w18 ⟨rfl, hB18⟩
  rw [HOS.out]
  have HFL18 := Lib.hid (HFL17.out.next hB18)
  clear s0 s1 s2 s3 s4 s5 s6 o0 o1 o2 o3 o4 o5 o6 HFL17 HO17 hB18
  go_wp2_with fail
  refine (AW.out _ (HPow.out.below HFL18.out.lo.low)).mono ?_
  rintro e w19 ⟨rfl, hB19⟩
  go_wp2_with fail
  go_ret
  exact ⟨rfl, below_after hB19 (Nat.le_refl _) HFL18.out.lo.low⟩
end Go.Proofs.YtigefkjabjnmjaaGreatDoor
