/- law11: lists of least sets: their order, and one that is among them. -/
import Derived.Test.YtcecbohaajocfaaMtEa
import Derived.Test.YtcecbohaajocfaaMtL

set_option linter.unusedSimpArgs false
set_option linter.unusedVariables false
namespace Go.Proofs.Ytcecbohaajocfaa
open Go.RowKit

theorem rdN_at {w : World} {B n k : Nat} {A : Option Addr} {s : List Nat} (h : Rd w B 1 encN A n s) (hk : k < n) : ∃ b o, A = some ⟨b, o, none⟩ ∧ b < B ∧ w.cell? ⟨b, o + k, none⟩ = some (.int .i64 ((s.getD k 0 : Nat) : Int)) := by
  obtain ⟨b, o, x, e, hb, hx, hc⟩ := h.at_ hk
  have hs : s.getD k 0 = x := by rw [List.getD_eq_getElem?_getD, hx]; rfl
  have h0 := hc 0 _ rfl
  rw [Nat.mul_one, Nat.add_zero] at h0
  exact ⟨b, o, e, hb, by rw [hs]; exact h0⟩
set_option maxRecDepth 100000 in
set_option maxHeartbeats 2000000 in
theorem Compare_lt (A A' : Option Addr) (k c c' : Nat) (a b : List Nat) (w : World) (ha : Rd w w.heap.size 1 encN A k a) (hb : Rd w w.heap.size 1 encN A' k b) (hl : LexLt a b) (hk : k ≤ 1000) :
    Calls Try.prog 16 #[.slice A k c, .slice A' k c'] w fun e w' => e = .returned (.int .i64 (-1)) ∧ Below w.heap.size w w' := by
  obtain ⟨j, hj, hpre, hlt⟩ := hl
  have hjk : j < k := by have := ha.1; omega
  have HA := Lib.hid (And.intro ha hb)
  have HJ := Lib.hid (And.intro hjk (And.intro hpre (And.intro hlt hk)))
  have hkk : (0 : Int) ≤ (k : Int) := by omega
  clear ha hb hj hjk hpre hlt hk
  go_enter Try.func16, Try.ntmps16
  go_wp2
  go_loopw [11] (fun iv wr => ∃ i : Nat, i ≤ j ∧ iv = .int .i64 ((i : Nat) : Int) ∧ Hid (Below w.heap.size w wr)) (fun iv _ => k - (intOf iv).toNat)
  case atStart => exact ⟨0, Nat.zero_le _, rfl, Lib.hid (Below.refl _ _)⟩
  case round =>
    obtain ⟨i, hi, rfl, HW⟩ := hrel
    have hik : i < k := by have := HJ.out.1; omega
    have HIK := Lib.hid (And.intro hi hik)
    have hi0 : (0 : Int) ≤ (i : Int) := by omega
    have hi1 : (i : Int) < (k : Int) := by omega
    have hi2 : ¬ ((k : Int) ≤ (i : Int)) := by omega
    have wi : IntKind.i64.wrap ((i : Int) + 1) = (i : Int) + 1 := IntWalk.i64_in _ (by have := HJ.out.2.2.2; omega)
    obtain ⟨pa, oa, eA, ba, ca⟩ := rdN_at HA.out.1 hik
    obtain ⟨pb, ob, eB, bb, cb⟩ := rdN_at HA.out.2 hik
    have ca1 := (HW.out.cell (p := ⟨pa, oa + i, none⟩) ba).trans ca
    have cb1 := (HW.out.cell (p := ⟨pb, ob + i, none⟩) bb).trans cb
    have za : pa < wr.heap.size := Nat.lt_of_lt_of_le ba HW.out.size
    have zb : pb < wr.heap.size := Nat.lt_of_lt_of_le bb HW.out.size
    obtain ⟨x, hx⟩ : ∃ z : Int, z = ((a.getD i 0 : Nat) : Int) := ⟨_, rfl⟩
    obtain ⟨y, hy⟩ : ∃ z : Int, z = ((b.getD i 0 : Nat) : Int) := ⟨_, rfl⟩
    rw [← hx] at ca1
    rw [← hy] at cb1
    have HXY := Lib.hid (And.intro hx hy)
    clear ba bb ca cb hx hy hi hik
    subst eA eB
    by_cases hij : i < j
    · obtain rfl : x = y := by rw [HXY.out.1, HXY.out.2, HJ.out.2.1 i hij]
      have HIJ := Lib.hid hij
      clear hij
      go_wp2_with fail
      refine (compare_eq x wr).mono ?_
      rintro e w2 ⟨rfl, rfl⟩
      go_wp2
      go_roundw
      case rel => exact ⟨i + 1, HIJ.out, by go_num, HW⟩
      case measure => have := HIK.out; simp [intOf]; omega
    · have hxy : x < y := by
        have e : i = j := by have := HIK.out.1; omega
        rw [HXY.out.1, HXY.out.2, e]
        have := HJ.out.2.2.1
        omega
      have KC := compare_lt hxy wr
      clear hij hxy
      go_wp2_with fail
      refine KC.mono ?_
      rintro e w2 ⟨rfl, rfl⟩
      clear KC
      go_wp2
      go_ret
      exact ⟨rfl, HW.out⟩
/-- Sets in memory. -/
structure LsIn (W : World) (g m k : Nat) (L : List SetE) : Prop where
  lt : g < W.heap.size
  len : L.length = m
  at_ : ∀ i x, L[i]? = some x → W.cell? ⟨g, i, none⟩ = some (.slice x.1.1 k x.1.2) ∧ Rd W W.heap.size 1 encN x.1.1 k x.2
theorem LsIn.next {W W' : World} {g m k : Nat} {L : List SetE} (h : LsIn W g m k L) (hb : Below W.heap.size W W') : LsIn W' g m k L :=
  ⟨Nat.lt_of_lt_of_le h.lt hb.size, h.len, fun i x hx => ⟨(hb.cell (p := ⟨g, i, none⟩) h.lt).trans (h.at_ i x hx).1, (h.at_ i x hx).2.next hb⟩⟩
theorem least_all {W : World} {z : Nat} {c : Ks} {v : Value} (h : LeastV W z c v) : ∃ (g m ca k : Nat) (L : List SetE), v = .slice (some ⟨g, 0, none⟩) m ca ∧ 1 ≤ m ∧ m ≤ 9223372036854775807 ∧ LsIn W g m k L ∧ LeastIs c (L.map Prod.snd) k := by
  obtain ⟨A, ca, k, L, rfl, hL, hr, hx⟩ := h
  have h1 : 1 ≤ L.length := by
    cases L with
    | nil => exact absurd rfl hL.some_
    | cons x l => simp
  rcases hr.2 with ⟨_, h0⟩ | ⟨g, cap, cur, e, _, hg, hc1, hc2, _, ht⟩
  · omega
  · cases e
    refine ⟨g, _, ca, k, L, rfl, h1, by unfold maxLen at hc2; omega, ⟨(Array.getElem?_eq_some_iff.1 hg).1, rfl, fun i x hi => ⟨?_, ?_⟩⟩, hL⟩
    · rw [Blk.cell hg i]
      have hf : ∀ (L : List SetE) (i : Nat) (x : SetE), L[i]? = some x → (L.flatMap (setV k))[i]? = some (.slice x.1.1 k x.1.2) := by
        intro L
        induction L with
        | nil => intro i x h; simp at h
        | cons y L ih =>
          intro i x h
          cases i with
          | zero => simp only [List.getElem?_cons_zero, Option.some.injEq] at h; subst h; rfl
          | succ i => rw [List.flatMap_cons]; show ([Value.slice y.1.1 k y.1.2] ++ L.flatMap (setV k))[i + 1]? = _; simpa using ih i x (by simpa using h)
      have h2 := hf L i x hi
      rw [← ht, List.getElem?_take] at h2
      split at h2
      · simpa using h2
      · cases h2
    · obtain ⟨b, hb⟩ := hx x (List.mem_of_getElem? hi)
      exact hb.rd (fun _ => rfl) (hL.ok x.2 (List.mem_map_of_mem (List.mem_of_getElem? hi))).2.1
set_option maxRecDepth 100000 in
theorem closure_any (xA SA : Option Addr) (xc sc sx : Nat) (x s : List Nat) (w : World) (hx : Rd w w.heap.size 1 encN xA 1 x) (hs : Rd w w.heap.size 1 encN SA 1 s) (hb : w.cell? ⟨sx, 0, none⟩ = some (.slice SA 1 sc)) (hz : sx < w.heap.size) :
    Calls Try.prog 18 #[.slice xA 1 xc, .pointer (some ⟨sx, 0, none⟩)] w fun e w' => e = .returned (.bool (decide (x.getD 0 0 = s.getD 0 0))) ∧ Below w.heap.size w w' := by
  obtain ⟨pa, oa, rfl, ba, ca⟩ := rdN_at hx (k := 0) (by omega)
  obtain ⟨pb, ob, rfl, bb, cb⟩ := rdN_at hs (k := 0) (by omega)
  rw [Nat.add_zero] at ca cb
  have e9 : decide (x.getD 0 0 = s.getD 0 0) = decide (((x.getD 0 0 : Nat) : Int) = ((s.getD 0 0 : Nat) : Int)) := decide_eq_decide.2 (by omega)
  have H9 := Lib.hid e9
  obtain ⟨u, hu⟩ : ∃ z : Int, z = ((x.getD 0 0 : Nat) : Int) := ⟨_, rfl⟩
  obtain ⟨v, hv⟩ : ∃ z : Int, z = ((s.getD 0 0 : Nat) : Int) := ⟨_, rfl⟩
  rw [← hu] at ca
  rw [← hv] at cb
  rw [e9, ← hu, ← hv]
  clear hx hs e9 H9 hu hv
  by_cases huv : u = v
  · subst huv
    go_enter Try.func18, Try.ntmps18
    go_wp2
    go_quiet (fail)
    go_wp2
    go_ret
    exact ⟨by simp, below_drewN (Below.refl _ _) _⟩
  · have e1 : decide (u = v) = false := decide_eq_false huv
    have e2 : (u == v) = false := by rw [beq_eq_false_iff_ne]; exact huv
    go_enter Try.func18, Try.ntmps18
    go_wp2
    go_quiet (fail)
    go_wp2
    go_ret
    exact ⟨by simp [e1], below_drewN (Below.refl _ _) _⟩
set_option maxRecDepth 100000 in
set_option maxHeartbeats 2000000 in
theorem indexQ (g m ca : Nat) (L : List SetE) (SA : Option Addr) (sc sx p : Nat) (s : List Nat) (w : World) (hL : LsIn w g m 1 L) (hm : m ≤ 9223372036854775807) (hs : Rd w w.heap.size 1 encN SA 1 s) (hb : w.cell? ⟨sx, 0, none⟩ = some (.slice SA 1 sc)) (hz : sx < w.heap.size) (hp : ∃ x, L[p]? = some x ∧ x.2 = s) :
    Calls Try.prog 50 #[.slice (some ⟨g, 0, none⟩) m ca, .func (.func 18) #[] #[.pointer (some ⟨sx, 0, none⟩)]] w fun e w' => (∃ r : Int, e = .returned (.int .i64 r) ∧ 0 ≤ r) ∧ Below w.heap.size w w' := by
  have e2 : ∀ args W, Sem.run Try.prog (callFunc 18 args) W = .ok (.enter 18 args) W := enters_of Try.func18 (by kernel_rfl) rfl
  have hpm : p < m := by obtain ⟨x, hx, _⟩ := hp; have := (List.getElem?_eq_some_iff.1 hx).1; have := hL.len; omega
  have HL := Lib.hid (And.intro hL (And.intro hm (And.intro hs (And.intro hb (And.intro hz (And.intro hp hpm))))))
  have hm0 : (0 : Int) ≤ (m : Int) := by omega
  clear hL hm hs hb hz hp hpm
  go_enter Try.func50, Try.ntmps50
  go_wp2
  go_loopw [8] (fun iv wr => ∃ k : Nat, k ≤ p ∧ iv = .int .i64 ((k : Nat) : Int) ∧ Hid (Below w.heap.size w wr)) (fun iv _ => m - (intOf iv).toNat)
  case atStart => exact ⟨0, Nat.zero_le _, rfl, Lib.hid (Below.refl _ _)⟩
  case round =>
    obtain ⟨k, hk, rfl, HW⟩ := hrel
    have hkm : k < m := by have := HL.out.2.2.2.2.2.2; omega
    have HK := Lib.hid (And.intro hk hkm)
    have hk0 : (0 : Int) ≤ (k : Int) := by omega
    have hk1 : (k : Int) < (m : Int) := by omega
    have wk : IntKind.i64.wrap ((k : Int) + 1) = (k : Int) + 1 := IntWalk.i64_in _ (by have := HL.out.2.1; have := hkm; omega)
    obtain ⟨x, hx⟩ : ∃ x, L[k]? = some x := ⟨_, List.getElem?_eq_getElem (by rw [HL.out.1.len]; exact hkm)⟩
    have hLW := HL.out.1.next HW.out
    obtain ⟨cx, rx⟩ := hLW.at_ k x hx
    have zg := hLW.lt
    have KC := closure_any x.1.1 SA x.1.2 sc sx x.2 s wr rx (HL.out.2.2.1.next HW.out) ((HW.out.cell (p := ⟨sx, 0, none⟩) HL.out.2.2.2.2.1).trans HL.out.2.2.2.1) (Nat.lt_of_lt_of_le HL.out.2.2.2.2.1 HW.out.size)
    have HX := Lib.hid hx
    obtain ⟨xa, hxa⟩ : ∃ z, z = x.1.1 := ⟨_, rfl⟩
    obtain ⟨xc, hxc⟩ : ∃ z, z = x.1.2 := ⟨_, rfl⟩
    obtain ⟨tst, htst⟩ : ∃ z, z = decide (x.2.getD 0 0 = s.getD 0 0) := ⟨_, rfl⟩
    rw [← hxa, ← hxc, ← htst] at KC
    rw [← hxa, ← hxc] at cx
    have HT := Lib.hid htst
    clear hk hkm hx hLW rx hxa hxc htst
    cases tst with
    | true =>
      go_wp2_with fail
      refine KC.mono ?_
      rintro e w2 ⟨rfl, hB⟩
      have HB := Lib.hid (below3 HW.out hB (Nat.le_refl _))
      clear hB KC
      go_wp2
      go_ret
      exact ⟨⟨(k : Int), rfl, by omega⟩, HB.out⟩
    | false =>
      have HKP : Hid (k < p) := Lib.hid (by
        apply Nat.lt_of_le_of_ne HK.out.1
        rintro rfl
        obtain ⟨y, hy, hys⟩ := HL.out.2.2.2.2.2.1
        rw [HX.out] at hy
        cases hy
        have := HT.out
        rw [hys] at this
        simp at this)
      go_wp2_with fail
      refine KC.mono ?_
      rintro e w2 ⟨rfl, hB⟩
      have HB := Lib.hid (below3 HW.out hB (Nat.le_refl _))
      clear hB KC
      go_wp2
      go_roundw
      case rel => exact ⟨k + 1, HKP.out, by go_num, HB⟩
      case measure => have := HK.out; simp [intOf]; omega
theorem containsQ (g m ca : Nat) (L : List SetE) (SA : Option Addr) (sc sx p : Nat) (s : List Nat) (w : World) (hL : LsIn w g m 1 L) (hm : m ≤ 9223372036854775807) (hs : Rd w w.heap.size 1 encN SA 1 s) (hb : w.cell? ⟨sx, 0, none⟩ = some (.slice SA 1 sc)) (hz : sx < w.heap.size) (hp : ∃ x, L[p]? = some x ∧ x.2 = s) :
    Calls Try.prog 17 #[.slice (some ⟨g, 0, none⟩) m ca, .func (.func 18) #[] #[.pointer (some ⟨sx, 0, none⟩)]] w fun e w' => e = .returned (.bool true) ∧ Below w.heap.size w w' := by
  have K := Lib.hid (indexQ g m ca L SA sc sx p s w hL hm hs hb hz hp)
  clear hL hm hs hb hz hp
  go_enter Try.func17, Try.ntmps17
  go_wp2_with fail
  refine K.out.mono ?_
  rintro e w2 ⟨⟨r, rfl, hr⟩, hB⟩
  have HB := Lib.hid hB
  clear hB
  have hr1 : decide (0 ≤ r) = true := decide_eq_true hr
  go_wp2
  go_ret
  exact ⟨ret_bool (by simp [hr]), HB.out⟩
end Go.Proofs.Ytcecbohaajocfaa
