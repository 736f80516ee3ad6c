/- meter: Make, where all is valid. -/
import Derived.Test.YtcecbohaajocfaaMtN

set_option linter.unusedSimpArgs false
set_option linter.unusedVariables false
namespace Go.Proofs.Ytcecbohaajocfaa
open Go.RowKit

theorem all1N (m : FuncId) (x : Int) (bx : Nat) (w : World) (eg : ∀ args W, Sem.run Try.prog (callFunc m args) W = .ok (.enter m args) W) (hx : ∀ W, Below w.heap.size w W → Calls Try.prog m #[.int .i64 x] W fun e w' => e = .returned (.bool true) ∧ Below W.heap.size W w') (hb : bx < w.heap.size) (hc : w.cell? ⟨bx, 0, none⟩ = some (.func (.func m) #[] #[])) :
    Calls Try.prog 111 #[.int .i64 x, .pointer (some ⟨bx, 0, none⟩)] w fun e w' => e = .returned (.bool false) ∧ Below w.heap.size w w' := by
  have K := Lib.hid hx
  clear hx
  go_enter Try.func111, Try.ntmps111
  go_wp2_with fail
  refine (K.out _ (by (repeat' (first | (with_reducible exact Below.refl _ _) | (with_reducible assumption) | (with_reducible refine below_drewN ?_ _) | (with_reducible refine below_after (by assumption) ?_ ?_) | (with_reducible refine Below.drew ?_) | (with_reducible refine Below.alloc ?_ ?_ _) | (with_reducible refine Below.setCell ?_ ?_ _) | omega | (simp; omega) | (simp; done))))).mono ?_
  rintro e w2 ⟨rfl, hB⟩
  have HB : Hid (Below w.heap.size w w2) := Lib.hid hB
  clear hB
  go_wp2
  go_ret
  exact ⟨rfl, HB.out⟩
theorem indexN (A : Option Addr) (n c : Nat) (l : List Int) (m : FuncId) (bx : Nat) (w : World) (eg : ∀ args W, Sem.run Try.prog (callFunc m args) W = .ok (.enter m args) W) (hl : Rd w w.heap.size 1 encI A n l) (hn : n ≤ 1000000000) (hok : ∀ x ∈ l, ∀ W, Below w.heap.size w W → Calls Try.prog m #[.int .i64 x] W fun e w' => e = .returned (.bool true) ∧ Below W.heap.size W w') (hb : bx < w.heap.size) (hc : w.cell? ⟨bx, 0, none⟩ = some (.func (.func m) #[] #[])) :
    Calls Try.prog 114 #[.slice A n c, .func (.func 111) #[] #[.pointer (some ⟨bx, 0, none⟩)]] w fun e w' => e = .returned (.int .i64 (-1)) ∧ Below w.heap.size w w' := by
  have HL := Lib.hid hl
  have HO := Lib.hid hok
  have HC := Lib.hid hc
  have EG := Lib.hid eg
  have e2 : ∀ args W, Sem.run Try.prog (callFunc 111 args) W = .ok (.enter 111 args) W := enters_of Try.func111 (by kernel_rfl) rfl
  clear hl hok hc eg
  go_enter Try.func114, Try.ntmps114
  go_wp2
  go_loopw [8] (fun i wr => ∃ k : Nat, k ≤ n ∧ i = .int .i64 k ∧ Hid (Below w.heap.size w wr)) (fun i _ => n - (intOf i).toNat)
  case atStart => exact ⟨0, by omega, rfl, Lib.hid (Below.refl _ _)⟩
  case round =>
    obtain ⟨k, hk, rfl, hB⟩ := hrel
    have hz := hB.out.size
    by_cases hlt : k < n
    · obtain ⟨b, off, x, e1, hb2, hx, hcx⟩ := (HL.out.below hB.out).at_ hlt
      have K := Lib.hid (all1N m x bx wr EG.out (fun W hW => HO.out x (List.mem_of_getElem? hx) W (below3 hB.out hW (Nat.le_refl _))) (by omega) ((hB.out.cell (p := ⟨bx, 0, none⟩) hb).trans HC.out))
      have c0 := cellI hcx
      have zb : b < wr.heap.size := by omega
      have hk0 : (0 : Int) ≤ (k : Int) := by omega
      have hkn : (k : Int) < (n : Int) := by omega
      subst e1
      clear hx hcx hb2
      go_wp2_with fail
      refine K.out.mono ?_
      rintro e w2 ⟨rfl, hB2⟩
      have HB2 := Lib.hid (below3 hB.out hB2 (Nat.le_refl _))
      clear hB2
      go_wp2
      go_roundw
      case rel => exact ⟨k + 1, by omega, by go_num, HB2⟩
      case measure => simp [intOf]; omega
    · obtain rfl : n = k := by omega
      go_wp2
      go_ret
      exact ⟨rfl, hB.out⟩
theorem allN (A : Option Addr) (n c : Nat) (l : List Int) (m : FuncId) (w : World) (eg : ∀ args W, Sem.run Try.prog (callFunc m args) W = .ok (.enter m args) W) (hl : Rd w w.heap.size 1 encI A n l) (hn : n ≤ 1000000000) (hok : ∀ x ∈ l, ∀ W, Below w.heap.size w W → Calls Try.prog m #[.int .i64 x] W fun e w' => e = .returned (.bool true) ∧ Below W.heap.size W w') :
    Calls Try.prog 91 #[.slice A n c, .func (.func m) #[] #[]] w fun e w' => e = .returned (.bool true) ∧ Below w.heap.size w w' := by
  have KC : Hid (∀ (W : World) (bx : Nat) (hW : Below w.heap.size w W) (hb : bx < W.heap.size) (hc : W.cell? ⟨bx, 0, none⟩ = some (.func (.func m) #[] #[])), Calls Try.prog 110 #[.slice A n c, .func (.func 111) #[] #[.pointer (some ⟨bx, 0, none⟩)]] W fun e w' => e = .returned (.bool false) ∧ Below W.heap.size W w') := Lib.hid (by
    intro W bx hW hb hc
    have K := Lib.hid (indexN A n c l m bx W eg (hl.next hW) hn (fun x hx W' hW' => hok x hx W' (below3 hW hW' (Nat.le_refl _))) hb hc)
    clear hc hok hl eg
    go_enter Try.func110, Try.ntmps110
    go_wp2_with fail
    refine K.out.mono ?_
    rintro e w2 ⟨rfl, hB⟩
    have HB := Lib.hid hB
    clear hB
    go_wp2
    go_ret
    exact ⟨rfl, HB.out⟩)
  clear hl hok
  go_enter Try.func91, Try.ntmps91
  go_wp2_with fail
  refine (KC.out _ w.heap.size (by (repeat' (first | (with_reducible exact Below.refl _ _) | (with_reducible assumption) | (with_reducible refine below_drewN ?_ _) | (with_reducible refine below_after (by assumption) ?_ ?_) | (with_reducible refine Below.drew ?_) | (with_reducible refine Below.alloc ?_ ?_ _) | (with_reducible refine Below.setCell ?_ ?_ _) | omega | (simp; omega) | (simp; done)))) (by simp) (by simp [go_sem])).mono ?_
  rintro e w2 ⟨rfl, hB⟩
  have HB : Hid (Below w.heap.size w w2) := Lib.hid (((Below.refl w.heap.size w).alloc (Nat.le_refl _) _).trans (hB.mono (by simp)))
  clear hB
  go_wp2
  go_ret
  exact ⟨rfl, HB.out⟩
/-- A tariff. -/
structure Trf where
  price : List Int
  base : Int
  tiers : List Sp
  credit : Int
def lstM (l : List Sp) (k : Nat) : Int := if k = 0 then 0 else (l.getD (k - 1) (0, 0)).1 + 1
def lstP (l : List Sp) (k : Nat) : Int := if k = 0 then 0 else (l.getD (k - 1) (0, 0)).2
structure TrfOk (t : Trf) : Prop where
  pl : t.price.length = 24
  pb : ∀ x ∈ t.price, 0 ≤ x ∧ x ≤ 1000
  b : 0 ≤ t.base ∧ t.base ≤ 1000000000
  tl : t.tiers.length ≤ 8
  ti : ∀ i x, t.tiers[i]? = some x → (lstM t.tiers i ≤ x.1 ∧ x.1 ≤ 50000) ∧ lstP t.tiers i ≤ x.2 ∧ x.2 ≤ 100
  cr : 0 ≤ t.credit ∧ t.credit ≤ 100
structure TrfIn (w : World) (B tn : Nat) (pA tA : Option Addr) (t : Trf) : Prop where
  p : Rd w B 1 encI pA 24 t.price
  t : Rd w B 2 encS tA tn t.tiers
theorem TrfIn.next {w w' : World} {tn : Nat} {pA tA : Option Addr} {t : Trf} (h : TrfIn w w.heap.size tn pA tA t) (hb : Below w.heap.size w w') : TrfIn w' w'.heap.size tn pA tA t := ⟨h.p.next hb, h.t.next hb⟩
theorem tier_nn {l : List Sp} (h : ∀ i x, l[i]? = some x → (lstM l i ≤ x.1 ∧ x.1 ≤ 50000) ∧ lstP l i ≤ x.2 ∧ x.2 ≤ 100) : ∀ (i : Nat) (x : Sp), l[i]? = some x → 0 ≤ x.1 ∧ 0 ≤ x.2 := by
  intro i
  induction i with
  | zero => intro x hx; have := h 0 x hx; simp [lstM, lstP] at this; omega
  | succ i ih =>
    intro x hx
    have h1 := h (i + 1) x hx
    have hi := (List.getElem?_eq_some_iff.1 hx).1
    have h2 := ih _ (List.getElem?_eq_getElem (show i < l.length by omega))
    have h3 : l.getD i (0, 0) = l[i]'(by omega) := by rw [List.getD_eq_getElem?_getD, List.getElem?_eq_getElem (show i < l.length by omega)]; rfl
    simp only [lstM, lstP, Nat.add_sub_cancel, if_neg (Nat.succ_ne_zero i), h3] at h1
    omega
theorem rightPrice_yes {x : Int} (h : 0 ≤ x ∧ x ≤ 1000) (w : World) : Calls Try.prog 90 #[.int .i64 x] w fun e w' => e = .returned (.bool true) ∧ Below w.heap.size w w' := by
  have K := Lib.hid (within_yes h w)
  clear h
  go_enter Try.func90, Try.ntmps90
  go_wp2_with fail
  refine K.out.mono ?_
  rintro e w2 ⟨rfl, rfl⟩
  go_wp2
  go_ret
  exact ⟨rfl, Below.refl _ _⟩
theorem rightValue_yes {x : Int} (h : 0 ≤ x ∧ x ≤ 100000) (w : World) : Calls Try.prog 93 #[.int .i64 x] w fun e w' => e = .returned (.bool true) ∧ Below w.heap.size w w' := by
  have K := Lib.hid (within_yes h w)
  clear h
  go_enter Try.func93, Try.ntmps93
  go_wp2_with fail
  refine K.out.mono ?_
  rintro e w2 ⟨rfl, rfl⟩
  go_wp2
  go_ret
  exact ⟨rfl, Below.refl _ _⟩
set_option maxRecDepth 100000 in
set_option maxHeartbeats 4000000 in
theorem areRight_yes (tA : Option Addr) (tn tc : Nat) (l : List Sp) (w : World) (h8 : l.length ≤ 8) (hl : Rd w w.heap.size 2 encS tA tn l) (ht : ∀ i x, l[i]? = some x → (lstM l i ≤ x.1 ∧ x.1 ≤ 50000) ∧ lstP l i ≤ x.2 ∧ x.2 ≤ 100) :
    Calls Try.prog 92 #[.slice tA tn tc] w fun e w' => e = .returned (.bool true) ∧ Below w.heap.size w w' := by
  have HL := Lib.hid hl
  have HT := Lib.hid ht
  have HN : Hid (tn ≤ 8 ∧ l.length = tn) := Lib.hid ⟨by have := hl.1; omega, hl.1⟩
  have g1 : w.heap.size < w.heap.size + 1 := by omega
  clear hl ht h8
  go_enter Try.func92, Try.ntmps92
  go_wp2
  obtain ⟨lb, hlb⟩ : ∃ z, z = w.heap.size := ⟨_, rfl⟩
  obtain ⟨w1, hw1⟩ : ∃ z, z = w.alloc (.cells #[.int .i64 0, .int .i64 0] 75) := ⟨_, rfl⟩
  have LB : Hid (Blk w1 lb 75 #[.int .i64 (lstM l 0), .int .i64 (lstP l 0)] ∧ w.heap.size ≤ lb ∧ w1.heap.size = lb + 1) := Lib.hid ⟨by rw [hw1, hlb]; exact heap_alloc_new w _, by omega, by rw [hw1, hlb, World.size_alloc]⟩
  have B0 : Hid (Below w.heap.size w w1) := Lib.hid (by rw [hw1]; exact (Below.refl _ _).alloc (Nat.le_refl _) _)
  rw [← hw1, ← hlb]
  clear hw1 hlb g1
  go_loopw [9] (fun iv wr => ∃ k : Nat, k ≤ tn ∧ iv = .int .i64 ((k : Nat) : Int) ∧ Hid (Keep (fun b => b = lb) w1 wr ∧ Blk wr lb 75 #[.int .i64 (lstM l k), .int .i64 (lstP l k)])) (fun iv _ => tn - (intOf iv).toNat)
  case atStart => exact ⟨0, Nat.zero_le _, rfl, Lib.hid ⟨Keep.refl _ _, LB.out.1⟩⟩
  case round =>
    obtain ⟨k, hk, rfl, HW⟩ := hrel
    have HBW : Hid (Below w.heap.size w wr) := Lib.hid (B0.out.trans (HW.out.1.below B0.out.size (fun b e => by rw [e]; exact LB.out.2.1)))
    by_cases hlt : k < tn
    · have hk0 : (0 : Int) ≤ (k : Int) := by omega
      have hkn : (k : Int) < (tn : Int) := by omega
      have hk9 : (k : Int) ≤ 8 := by have := HN.out; omega
      obtain ⟨b, o, x, eA, hb, hx, hcx⟩ := (HL.out.next HBW.out).at_ hlt
      have c0 := hcx 0 _ rfl
      have c1 := hcx 1 _ rfl
      rw [Nat.add_zero] at c0
      obtain ⟨x1, x2⟩ := x
      dsimp only at c0 c1
      have hx1 := HT.out k (x1, x2) hx
      have hnn := tier_nn HT.out k (x1, x2) hx
      dsimp only at hx1 hnn
      have hg : l.getD k (0, 0) = (x1, x2) := by rw [List.getD_eq_getElem?_getD, hx]; rfl
      obtain ⟨m0, hm0⟩ : ∃ z, z = lstM l k := ⟨_, rfl⟩
      obtain ⟨p0, hp0⟩ : ∃ z, z = lstP l k := ⟨_, rfl⟩
      rw [← hm0, ← hp0] at hx1
      have HLS : Hid (lstM l (k + 1) = x1 + 1 ∧ lstP l (k + 1) = x2) := Lib.hid (by unfold lstM lstP; rw [if_neg (by omega), if_neg (by omega), Nat.add_sub_cancel, hg]; exact ⟨rfl, rfl⟩)
      have K1 := Lib.hid (fun W => within_yes (n := x1) (a := m0) (b := 50000) hx1.1 W)
      have K2 := Lib.hid (fun W => within_yes (n := x2) (a := p0) (b := 100) hx1.2 W)
      have wv : IntKind.i64.wrap (x1 + 1) = x1 + 1 := IntWalk.i64_in _ (by omega)
      have HLBW : Hid (Blk wr lb 75 #[.int .i64 m0, .int .i64 p0]) := Lib.hid (by rw [hm0, hp0]; exact HW.out.2)
      have zb : b < wr.heap.size := hb
      have g1 : wr.heap.size < wr.heap.size + 1 := by omega
      have HLT : Hid (k < tn) := Lib.hid hlt
      have q0 := HLBW.out.cell 0
      have q1 := HLBW.out.cell 1
      simp only [List.getElem?_toArray, List.getElem?_cons_zero, List.getElem?_cons_succ] at q0 q1
      have zl := HLBW.out.lt
      clear hx hcx hx1 hnn hg hm0 hp0 hlt hk hb
      subst eA
      go_wp2_with fail
      obtain ⟨xb, hxb⟩ : ∃ z, z = wr.heap.size := ⟨_, rfl⟩
      obtain ⟨wx, hwx⟩ : ∃ z, z = wr.alloc (.cells #[.int .i64 x1, .int .i64 x2] 75) := ⟨_, rfl⟩
      have XB : Hid (Blk wx xb 75 #[.int .i64 x1, .int .i64 x2] ∧ Blk wx lb 75 #[.int .i64 m0, .int .i64 p0] ∧ lb ≠ xb) := Lib.hid ⟨by rw [hwx, hxb]; exact heap_alloc_new wr _, by rw [hwx]; exact HLBW.out.alloc _, by have := HLBW.out.lt; omega⟩
      have BW : Hid (Below wr.heap.size wr wx) := Lib.hid (by rw [hwx]; exact (Below.refl _ _).alloc (Nat.le_refl _) _)
      rw [← hwx, ← hxb]
      clear hwx hxb g1 c0 c1 zb q0 q1 zl
      have d0 := XB.out.1.cell 0
      have d1 := XB.out.1.cell 1
      have e0 := XB.out.2.1.cell 0
      have e1 := XB.out.2.1.cell 1
      simp only [List.getElem?_toArray, List.getElem?_cons_zero, List.getElem?_cons_succ] at d0 d1 e0 e1
      have zd := XB.out.1.lt
      have ze := XB.out.2.1.lt
      have fe := XB.out.2.1.frozen
      have n1 := XB.out.2.2
      have n2 : xb ≠ lb := fun e => n1 e.symm
      refine (K1.out _).mono ?_
      rintro e w5 ⟨rfl, hw9⟩
      obtain rfl := hw9.symm
      go_wp2_with fail
      refine (K2.out _).mono ?_
      rintro e w5 ⟨rfl, hw9⟩
      obtain rfl := hw9.symm
      obtain ⟨W', hW'⟩ : ∃ z, z = (wx.setCell ⟨lb, 0, none⟩ (.int .i64 (x1 + 1))).setCell ⟨lb, 1, none⟩ (.int .i64 x2) := ⟨_, rfl⟩
      have HN9 : Hid (Keep (fun b => b = lb) w1 W' ∧ Blk W' lb 75 #[.int .i64 (lstM l (k + 1)), .int .i64 (lstP l (k + 1))]) := Lib.hid ⟨(HW.out.1.trans (Keep.of_below BW.out)).trans (by rw [hW']; exact ((Keep.refl (fun b => b = lb) wx).setCell (p := ⟨lb, 0, none⟩) rfl _).setCell (p := ⟨lb, 1, none⟩) rfl _), by
        rw [HLS.out.1, HLS.out.2, hW']
        have h := ((XB.out.2.1.set_ 0 (.int .i64 (x1 + 1))).set_ 1 (.int .i64 x2))
        simpa using h⟩
      go_wp2
      rw [← hW']
      go_roundw
      case rel => exact ⟨k + 1, by have := HLT.out; omega, by go_num, HN9⟩
      case measure => have := HLT.out; simp [intOf]; omega
    · obtain rfl : tn = k := by omega
      go_wp2
      go_ret
      exact ⟨rfl, HBW.out⟩
/-- The percentage of the last tier that counts. -/
def pctK (l : List Sp) (out : Int) (k : Nat) : Int := (l.take k).foldl (fun n x => if x.1 ≤ out then x.2 else n) 0
theorem pctK_succ {l : List Sp} {out : Int} {k : Nat} {x : Sp} (hx : l[k]? = some x) : pctK l out (k + 1) = if x.1 ≤ out then x.2 else pctK l out k := by
  unfold pctK
  rw [List.take_add_one, hx]
  simp
set_option maxRecDepth 100000 in
set_option maxHeartbeats 2000000 in
theorem percentage_any (t : Trf) (pA tA : Option Addr) (pc tn tc : Nat) (out : Int) (w : World) (h8 : t.tiers.length ≤ 8) (hl : Rd w w.heap.size 2 encS tA tn t.tiers) :
    Calls Try.prog 94 #[.agg #[.slice pA 24 pc, .int .i64 t.base, .slice tA tn tc, .int .i64 t.credit], .int .i64 out] w fun e w' => e = .returned (.int .i64 (min (pctK t.tiers out t.tiers.length) t.credit)) ∧ Below w.heap.size w w' := by
  obtain ⟨price, base, l, credit⟩ := t
  dsimp only at h8 hl ⊢
  have HL := Lib.hid hl
  have HN : Hid (tn ≤ 8 ∧ l.length = tn) := Lib.hid ⟨by have := hl.1; omega, hl.1⟩
  have g1 : w.heap.size < w.heap.size + 1 := by omega
  clear hl h8
  go_enter Try.func94, Try.ntmps94
  go_wp2
  obtain ⟨bx, hbx⟩ : ∃ z, z = w.heap.size := ⟨_, rfl⟩
  obtain ⟨w1, hw1⟩ : ∃ z, z = w.alloc (.cells #[.slice pA 24 pc, .int .i64 base, .slice tA tn tc, .int .i64 credit] 25) := ⟨_, rfl⟩
  have BX : Hid (Blk w1 bx 25 #[.slice pA 24 pc, .int .i64 base, .slice tA tn tc, .int .i64 credit]) := Lib.hid (by rw [hw1, hbx]; exact heap_alloc_new w _)
  have B0 : Hid (Below w.heap.size w w1) := Lib.hid (by rw [hw1]; exact (Below.refl _ _).alloc (Nat.le_refl _) _)
  rw [← hw1, ← hbx]
  clear hw1 hbx g1
  go_loopw [5, 11] (fun nv iv wr => ∃ k : Nat, k ≤ tn ∧ nv = .int .i64 (pctK l out k) ∧ iv = .int .i64 ((k : Nat) : Int) ∧ Hid (Below w1.heap.size w1 wr)) (fun _ iv _ => tn - (intOf iv).toNat)
  case atStart => exact ⟨0, Nat.zero_le _, rfl, rfl, Lib.hid (Below.refl _ _)⟩
  case round =>
    obtain ⟨k, hk, rfl, rfl, HW⟩ := hrel
    by_cases hlt : k < tn
    · have hk0 : (0 : Int) ≤ (k : Int) := by omega
      have hkn : (k : Int) < (tn : Int) := by omega
      have hk9 : (k : Int) ≤ 8 := by have := HN.out; omega
      obtain ⟨b, o, x, eA, hb, hx, hcx⟩ := (HL.out.next (below3 B0.out HW.out (Nat.le_refl _))).at_ hlt
      have c0 := hcx 0 _ rfl
      have c1 := hcx 1 _ rfl
      rw [Nat.add_zero] at c0
      have hst := pctK_succ (out := out) hx
      obtain ⟨x1, x2⟩ := x
      dsimp only at c0 c1 hst
      obtain ⟨p0, hp0⟩ : ∃ z, z = pctK l out k := ⟨_, rfl⟩
      rw [← hp0] at hst ⊢
      have zb : b < wr.heap.size := hb
      have g1 : wr.heap.size < wr.heap.size + 1 := by omega
      have HLT : Hid (k < tn) := Lib.hid hlt
      have HB5 : Hid (Below w1.heap.size w1 (wr.alloc (.cells #[.int .i64 x1, .int .i64 x2] 75))) := Lib.hid (below3 HW.out ((Below.refl _ _).alloc (Nat.le_refl _) _) (Nat.le_refl _))
      clear hx hcx hp0 hlt hk hb
      subst eA
      by_cases hxo : x1 ≤ out
      · have HP : Hid (x2 = pctK l out (k + 1)) := Lib.hid (by rw [hst, if_pos hxo])
        clear hst
        go_wp2
        rw [HP.out]
        go_roundw
        case rel => exact ⟨k + 1, by have := HLT.out; omega, rfl, by go_num, by rw [← HP.out]; exact HB5⟩
        case measure => have := HLT.out; simp [intOf]; omega
      · have HP : Hid (p0 = pctK l out (k + 1)) := Lib.hid (by rw [hst, if_neg hxo])
        clear hst
        go_wp2
        rw [HP.out]
        go_roundw
        case rel => exact ⟨k + 1, by have := HLT.out; omega, rfl, by go_num, HB5⟩
        case measure => have := HLT.out; simp [intOf]; omega
    · obtain rfl : tn = k := by omega
      have HF := Lib.hid (below3 B0.out HW.out (Nat.le_refl _))
      have hbk := BX.out.below HW.out BX.out.lt
      have d3 := hbk.cell 3
      simp only [List.getElem?_toArray, List.getElem?_cons_zero, List.getElem?_cons_succ] at d3
      have zd := hbk.lt
      clear hbk
      go_wp2
      go_ret
      exact ⟨by rw [HN.out.2]; rfl, HF.out⟩
end Go.Proofs.Ytcecbohaajocfaa
