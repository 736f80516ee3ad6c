/- keep: small functions of a game; all. -/
import Derived.Test.YtalngalikblgkaaKpG

set_option linter.unusedSimpArgs false
set_option linter.unusedVariables false
namespace Go.Proofs.Ytalngalikblgkaa
open Go.RowKit

/-- A game. -/
structure Gm where
  (S C H : Nat)
  next : List Int
  good : List Bool
structure GmOk (g : Gm) : Prop where
  s0 : 1 ≤ g.S
  s1 : g.S ≤ 400
  c0 : 1 ≤ g.C
  c1 : g.C ≤ 16
  h0 : 1 ≤ g.H
  h1 : g.H ≤ 16
  nl : g.next.length = g.S * g.C * g.H
  gl : g.good.length = g.S
  bd : ∀ x ∈ g.next, -1 ≤ x ∧ x < g.S
/-- How a game lies in memory. -/
structure GA where
  (nA gA : Option Addr)
  (nn nc gn gc : Nat)
structure GmIn (w : World) (B : Nat) (a : GA) (g : Gm) : Prop where
  next : Rd w B 1 encI a.nA a.nn g.next
  good : Rd w B 1 encB a.gA a.gn g.good
  cap : a.nn ≤ a.nc
theorem GmIn.next' {w w' : World} {a : GA} {g : Gm} (h : GmIn w w.heap.size a g) (hb : Below w.heap.size w w') : GmIn w' w'.heap.size a g := ⟨h.next.next hb, h.good.next hb, h.cap⟩
/-- A number from a to b. -/
def inB (a n b : Int) : Bool := decide (a ≤ n ∧ n ≤ b)
theorem inB_yes {a n b : Int} (h : a ≤ n ∧ n ≤ b) : inB a n b = true := decide_eq_true h
theorem inB_no {a n b : Int} (h : ¬ (a ≤ n ∧ n ≤ b)) : inB a n b = false := decide_eq_false h
theorem inB_iff {a n b : Int} : inB a n b = true ↔ a ≤ n ∧ n ≤ b := decide_eq_true_iff
theorem within_any (n a b : Int) (w : World) : Calls Try.prog 64 #[.int .i64 n, .int .i64 a, .int .i64 b] w fun e w' => e = .returned (.bool (inB a n b)) ∧ w' = w := by
  unfold inB
  by_cases h1 : a ≤ n
  · have d1 : decide (a ≤ n) = true := decide_eq_true h1
    go_enter Try.func64, Try.ntmps64
    go_wp2
    go_ret
    exact ⟨ret_bool (by simp [h1]), rfl⟩
  · have d1 : decide (a ≤ n) = false := decide_eq_false h1
    go_enter Try.func64, Try.ntmps64
    go_wp2
    go_ret
    exact ⟨ret_bool (by simp [h1]), rfl⟩
theorem hasState_any (S C H x : Int) (v1 v2 : Value) (w : World) (h0 : -100000 ≤ S) (h1 : S ≤ 100000) : Calls Try.prog 50 #[.agg #[.int .i64 S, .int .i64 C, .int .i64 H, v1, v2], .int .i64 x] w fun e w' => e = .returned (.bool (inB 0 x (S - 1))) ∧ Below w.heap.size w w' := by
  have K := Lib.hid (fun W => within_any x 0 (S - 1) W)
  have hw : IntKind.i64.wrap (S - 1) = S - 1 := IntWalk.i64_in _ (by omega)
  clear h0 h1
  go_enter Try.func50, Try.ntmps50
  go_wp2_with fail
  refine (K.out _).mono ?_
  rintro e w2 ⟨rfl, rfl⟩
  go_wp2
  go_ret
  exact ⟨rfl, by (repeat' (first | (with_reducible exact Below.refl _ _) | (with_reducible assumption) | (with_reducible refine below_drewN ?_ _) | (with_reducible refine below_after (by assumption) ?_ ?_) | (with_reducible refine Below.drew ?_) | (with_reducible refine Below.alloc ?_ ?_ _) | (with_reducible refine Below.setCell ?_ ?_ _) | omega | (simp; omega) | (simp; done)))⟩
theorem hasControl_any (S C H x : Int) (v1 v2 : Value) (w : World) (h0 : -100000 ≤ C) (h1 : C ≤ 100000) : Calls Try.prog 45 #[.agg #[.int .i64 S, .int .i64 C, .int .i64 H, v1, v2], .int .i64 x] w fun e w' => e = .returned (.bool (inB 0 x (C - 1))) ∧ Below w.heap.size w w' := by
  have K := Lib.hid (fun W => within_any x 0 (C - 1) W)
  have hw : IntKind.i64.wrap (C - 1) = C - 1 := IntWalk.i64_in _ (by omega)
  clear h0 h1
  go_enter Try.func45, Try.ntmps45
  go_wp2_with fail
  refine (K.out _).mono ?_
  rintro e w2 ⟨rfl, rfl⟩
  go_wp2
  go_ret
  exact ⟨rfl, by (repeat' (first | (with_reducible exact Below.refl _ _) | (with_reducible assumption) | (with_reducible refine below_drewN ?_ _) | (with_reducible refine below_after (by assumption) ?_ ?_) | (with_reducible refine Below.drew ?_) | (with_reducible refine Below.alloc ?_ ?_ _) | (with_reducible refine Below.setCell ?_ ?_ _) | omega | (simp; omega) | (simp; done)))⟩
theorem hasShock_any (S C H x : Int) (v1 v2 : Value) (w : World) (h0 : -100000 ≤ H) (h1 : H ≤ 100000) : Calls Try.prog 52 #[.agg #[.int .i64 S, .int .i64 C, .int .i64 H, v1, v2], .int .i64 x] w fun e w' => e = .returned (.bool (inB 0 x (H - 1))) ∧ Below w.heap.size w w' := by
  have K := Lib.hid (fun W => within_any x 0 (H - 1) W)
  have hw : IntKind.i64.wrap (H - 1) = H - 1 := IntWalk.i64_in _ (by omega)
  clear h0 h1
  go_enter Try.func52, Try.ntmps52
  go_wp2_with fail
  refine (K.out _).mono ?_
  rintro e w2 ⟨rfl, rfl⟩
  go_wp2
  go_ret
  exact ⟨rfl, by (repeat' (first | (with_reducible exact Below.refl _ _) | (with_reducible assumption) | (with_reducible refine below_drewN ?_ _) | (with_reducible refine below_after (by assumption) ?_ ?_) | (with_reducible refine Below.drew ?_) | (with_reducible refine Below.alloc ?_ ?_ _) | (with_reducible refine Below.setCell ?_ ?_ _) | omega | (simp; omega) | (simp; done)))⟩
/-- What a number of Next may be. -/
def followB (S x : Int) : Bool := inB (-1) x (S - 1)
theorem canFollow_any (S C H x : Int) (v1 v2 : Value) (w : World) (h0 : -100000 ≤ S) (h1 : S ≤ 100000) (hS : 0 ≤ S) : Calls Try.prog 56 #[.agg #[.int .i64 S, .int .i64 C, .int .i64 H, v1, v2], .int .i64 x] w fun e w' => e = .returned (.bool (followB S x)) ∧ Below w.heap.size w w' := by
  have K := Lib.hid (fun W => hasState_any S C H x v1 v2 W h0 h1)
  by_cases hx : x = -1
  · have hf : followB S x = true := inB_yes (by omega)
    rw [hf]
    subst hx
    clear h0 h1 hS hf
    go_enter Try.func56, Try.ntmps56
    go_wp2
    go_ret
    exact ⟨rfl, by (repeat' (first | (with_reducible exact Below.refl _ _) | (with_reducible assumption) | (with_reducible refine below_drewN ?_ _) | (with_reducible refine below_after (by assumption) ?_ ?_) | (with_reducible refine Below.drew ?_) | (with_reducible refine Below.alloc ?_ ?_ _) | (with_reducible refine Below.setCell ?_ ?_ _) | omega | (simp; omega) | (simp; done)))⟩
  · have hx1 : (x == -1) = false := beq_eq_false_iff_ne.2 hx
    have hf : Hid (followB S x = inB 0 x (S - 1)) := Lib.hid (by unfold followB inB; exact decide_eq_decide.2 (by omega))
    clear h0 h1 hS hx
    go_enter Try.func56, Try.ntmps56
    go_wp2_with fail
    refine (K.out _).mono ?_
    rintro e w2 ⟨rfl, hB⟩
    have HB : Hid (Below w.heap.size w w2) := Lib.hid (((Below.refl w.heap.size w).alloc (Nat.le_refl _) _).trans (hB.mono (by simp)))
    clear hB
    rw [← hf.out]
    go_wp2
    go_ret
    exact ⟨rfl, HB.out⟩
theorem fits_any (S C H : Int) (v1 v2 : Value) (w : World) : Calls Try.prog 42 #[.agg #[.int .i64 S, .int .i64 C, .int .i64 H, v1, v2]] w fun e w' => e = .returned (.bool (inB 1 S 400 && inB 1 C 16 && inB 1 H 16)) ∧ Below w.heap.size w w' := by
  have K1 := Lib.hid (fun W => within_any S 1 400 W)
  have K2 := Lib.hid (fun W => within_any C 1 16 W)
  have K3 := Lib.hid (fun W => within_any H 1 16 W)
  obtain ⟨b1, h1⟩ : ∃ z, z = inB 1 S 400 := ⟨_, rfl⟩
  obtain ⟨b2, h2⟩ : ∃ z, z = inB 1 C 16 := ⟨_, rfl⟩
  obtain ⟨b3, h3⟩ : ∃ z, z = inB 1 H 16 := ⟨_, rfl⟩
  rw [← h1] at K1 ⊢
  rw [← h2] at K2 ⊢
  rw [← h3] at K3 ⊢
  clear h1 h2 h3
  go_enter Try.func42, Try.ntmps42
  go_wp2_with fail
  refine (K1.out _).mono ?_
  rintro e w2 ⟨rfl, rfl⟩
  cases b1
  · go_wp2
    go_ret
    exact ⟨rfl, by (repeat' (first | (with_reducible exact Below.refl _ _) | (with_reducible assumption) | (with_reducible refine below_drewN ?_ _) | (with_reducible refine below_after (by assumption) ?_ ?_) | (with_reducible refine Below.drew ?_) | (with_reducible refine Below.alloc ?_ ?_ _) | (with_reducible refine Below.setCell ?_ ?_ _) | omega | (simp; omega) | (simp; done)))⟩
  · go_wp2_with fail
    refine (K2.out _).mono ?_
    rintro e w2 ⟨rfl, rfl⟩
    cases b2
    · go_wp2
      go_ret
      exact ⟨rfl, by (repeat' (first | (with_reducible exact Below.refl _ _) | (with_reducible assumption) | (with_reducible refine below_drewN ?_ _) | (with_reducible refine below_after (by assumption) ?_ ?_) | (with_reducible refine Below.drew ?_) | (with_reducible refine Below.alloc ?_ ?_ _) | (with_reducible refine Below.setCell ?_ ?_ _) | omega | (simp; omega) | (simp; done)))⟩
    · go_wp2_with fail
      refine (K3.out _).mono ?_
      rintro e w2 ⟨rfl, rfl⟩
      go_wp2
      go_ret
      exact ⟨by simp, by (repeat' (first | (with_reducible exact Below.refl _ _) | (with_reducible assumption) | (with_reducible refine below_drewN ?_ _) | (with_reducible refine below_after (by assumption) ?_ ?_) | (with_reducible refine Below.drew ?_) | (with_reducible refine Below.alloc ?_ ?_ _) | (with_reducible refine Below.setCell ?_ ?_ _) | omega | (simp; omega) | (simp; done)))⟩
/-- A function value with a receiver: called with each number of a list it answers what p says, and keeps memory. -/
def AnsB (w : World) (m : FuncId) (bv : Value) (p : Int → Bool) (l : List Int) : Prop :=
  ∀ x ∈ l, ∀ W, Below w.heap.size w W → Calls Try.prog m #[bv, .int .i64 x] W fun e w' => e = .returned (.bool (p x)) ∧ Below W.heap.size W w'
theorem AnsB.next {w w' : World} {m : FuncId} {bv : Value} {p : Int → Bool} {l : List Int} (h : AnsB w m bv p l) (hb : Below w.heap.size w w') : AnsB w' m bv p l := fun x hx W hW => h x hx W (below3 hb hW (Nat.le_refl _))
theorem all1_any (m : FuncId) (bv : Value) (p : Int → Bool) (x : Int) (bx : Nat) (w : World) (eg : ∀ args W, Sem.run Try.prog (callFunc m args) W = .ok (.enter m args) W) (hx : AnsB w m bv p [x]) (hb : bx < w.heap.size) (hc : w.cell? ⟨bx, 0, none⟩ = some (.func (.func m) #[bv] #[])) :
    Calls Try.prog 74 #[.int .i64 x, .pointer (some ⟨bx, 0, none⟩)] w fun e w' => e = .returned (.bool (!p x)) ∧ Below w.heap.size w w' := by
  have K := Lib.hid (fun W => hx x (List.mem_singleton.2 rfl) W)
  clear hx
  go_enter Try.func74, Try.ntmps74
  go_wp2_with fail
  refine (K.out _ (by (repeat' (first | (with_reducible exact Below.refl _ _) | (with_reducible assumption) | (with_reducible refine below_drewN ?_ _) | (with_reducible refine below_after (by assumption) ?_ ?_) | (with_reducible refine Below.drew ?_) | (with_reducible refine Below.alloc ?_ ?_ _) | (with_reducible refine Below.setCell ?_ ?_ _) | omega | (simp; omega) | (simp; done))))).mono ?_
  rintro e w2 ⟨rfl, hB⟩
  have HB : Hid (Below w.heap.size w w2) := Lib.hid hB
  clear hB
  go_wp2
  go_ret
  exact ⟨rfl, HB.out⟩
theorem take_all {l : List Int} {p : Int → Bool} {k : Nat} {x : Int} (h : (l.take k).all p = true) (hx : l[k]? = some x) (hp : p x = true) : (l.take (k + 1)).all p = true := by
  rw [List.take_add_one, hx, List.all_append, h]
  simp [hp]
theorem not_all {l : List Int} {p : Int → Bool} {k : Nat} {x : Int} (hx : l[k]? = some x) (hp : p x = false) : l.all p = false := by
  rw [List.all_eq_false]
  exact ⟨x, List.mem_of_getElem? hx, by rw [hp]; decide⟩
theorem index_any (A : Option Addr) (n c : Nat) (l : List Int) (m : FuncId) (bv : Value) (p : Int → Bool) (bx : Nat) (w : World) (eg : ∀ args W, Sem.run Try.prog (callFunc m args) W = .ok (.enter m args) W) (hl : Rd w w.heap.size 1 encI A n l) (hn : n ≤ 1000000000) (hok : AnsB w m bv p l) (hb : bx < w.heap.size) (hc : w.cell? ⟨bx, 0, none⟩ = some (.func (.func m) #[bv] #[])) :
    Calls Try.prog 81 #[.slice A n c, .func (.func 74) #[] #[.pointer (some ⟨bx, 0, none⟩)]] w fun e w' => ∃ r : Int, e = .returned (.int .i64 r) ∧ decide (0 ≤ r) = (!l.all p) ∧ Below w.heap.size w w' := by
  have HL := Lib.hid hl
  have HO := Lib.hid hok
  have HC := Lib.hid hc
  have HLN := Lib.hid hl.1
  have EG := Lib.hid eg
  have e2 : ∀ args W, Sem.run Try.prog (callFunc 74 args) W = .ok (.enter 74 args) W := enters_of Try.func74 (by kernel_rfl) rfl
  clear hl hok hc eg
  go_enter Try.func81, Try.ntmps81
  go_wp2
  go_loopw [8] (fun i wr => ∃ k : Nat, k ≤ n ∧ i = .int .i64 k ∧ Hid (Below w.heap.size w wr ∧ (l.take k).all p = true)) (fun i _ => n - (intOf i).toNat)
  case atStart => exact ⟨0, by omega, rfl, Lib.hid ⟨Below.refl _ _, by simp⟩⟩
  case round =>
    obtain ⟨k, hk, rfl, hB⟩ := hrel
    have hz := hB.out.1.size
    by_cases hlt : k < n
    · obtain ⟨b, off, x, e1, hb2, hx, hcx⟩ := (HL.out.below hB.out.1).at_ hlt
      have K := Lib.hid (all1_any m bv p x bx wr EG.out (fun y hy W hW => HO.out y (by rw [List.mem_singleton.1 hy]; exact List.mem_of_getElem? hx) W (below3 hB.out.1 hW (Nat.le_refl _))) (by omega) ((hB.out.1.cell (p := ⟨bx, 0, none⟩) hb).trans HC.out))
      have x0 := cellI hcx
      have zb : b < wr.heap.size := by omega
      have hk0 : (0 : Int) ≤ (k : Int) := by omega
      have hkn : (k : Int) < (n : Int) := by omega
      have HX := Lib.hid hx
      obtain ⟨q, hq⟩ : ∃ q, q = p x := ⟨_, rfl⟩
      have HQ := Lib.hid hq
      rw [← hq] at K
      subst e1
      clear hx hcx hq hb2
      cases q
      · go_wp2_with fail
        refine K.out.mono ?_
        rintro e w2 ⟨rfl, hB2⟩
        have HB2 := Lib.hid (below3 hB.out.1 hB2 (Nat.le_refl _))
        clear hB2
        go_wp2
        go_ret
        exact ⟨(k : Int), rfl, by rw [not_all HX.out HQ.out.symm]; simp, HB2.out⟩
      · go_wp2_with fail
        refine K.out.mono ?_
        rintro e w2 ⟨rfl, hB2⟩
        have HB2 := Lib.hid (And.intro (below3 hB.out.1 hB2 (Nat.le_refl _)) (take_all hB.out.2 HX.out HQ.out.symm))
        clear hB2
        go_wp2
        go_roundw
        case rel => exact ⟨k + 1, by omega, by go_num, HB2⟩
        case measure => simp [intOf]; omega
    · obtain rfl : n = k := by omega
      go_wp2
      go_ret
      exact ⟨-1, rfl, by have h := hB.out.2; rw [List.take_of_length_le (by rw [HLN.out]; exact Nat.le_refl _)] at h; rw [h]; rfl, hB.out.1⟩
theorem all_any (A : Option Addr) (n c : Nat) (l : List Int) (m : FuncId) (bv : Value) (p : Int → Bool) (w : World) (eg : ∀ args W, Sem.run Try.prog (callFunc m args) W = .ok (.enter m args) W) (hl : Rd w w.heap.size 1 encI A n l) (hn : n ≤ 1000000000) (hok : AnsB w m bv p l) :
    Calls Try.prog 51 #[.slice A n c, .func (.func m) #[bv] #[]] w fun e w' => e = .returned (.bool (l.all p)) ∧ Below w.heap.size w w' := by
  obtain ⟨r, hr⟩ : ∃ r, r = l.all p := ⟨_, rfl⟩
  have KC : Hid (∀ (W : World) (bx : Nat) (hW : Below w.heap.size w W) (hb : bx < W.heap.size) (hc : W.cell? ⟨bx, 0, none⟩ = some (.func (.func m) #[bv] #[])), Calls Try.prog 73 #[.slice A n c, .func (.func 74) #[] #[.pointer (some ⟨bx, 0, none⟩)]] W fun e w' => e = .returned (.bool (!r)) ∧ Below W.heap.size W w') := Lib.hid (by
    intro W bx hW hb hc
    have K := Lib.hid (index_any A n c l m bv p bx W eg (hl.next hW) hn (hok.next hW) hb hc)
    rw [← hr] at K
    clear hc hr hok hl eg
    go_enter Try.func73, Try.ntmps73
    go_wp2_with fail
    refine K.out.mono ?_
    rintro e w2 ⟨i, rfl, hi, hB⟩
    have HB := Lib.hid hB
    clear hB
    go_wp2
    go_ret
    exact ⟨rfl, HB.out⟩)
  rw [← hr]
  clear hl hok hr
  go_enter Try.func51, Try.ntmps51
  go_wp2_with fail
  refine (KC.out _ w.heap.size (by (repeat' (first | (with_reducible exact Below.refl _ _) | (with_reducible assumption) | (with_reducible refine below_drewN ?_ _) | (with_reducible refine below_after (by assumption) ?_ ?_) | (with_reducible refine Below.drew ?_) | (with_reducible refine Below.alloc ?_ ?_ _) | (with_reducible refine Below.setCell ?_ ?_ _) | omega | (simp; omega) | (simp; done)))) (by simp) (by simp [go_sem])).mono ?_
  rintro e w2 ⟨rfl, hB⟩
  have HB : Hid (Below w.heap.size w w2) := Lib.hid (((Below.refl w.heap.size w).alloc (Nat.le_refl _) _).trans (hB.mono (by simp)))
  clear hB
  go_wp2
  go_ret
  exact ⟨ret_bool (by simp), HB.out⟩
end Go.Proofs.Ytalngalikblgkaa
