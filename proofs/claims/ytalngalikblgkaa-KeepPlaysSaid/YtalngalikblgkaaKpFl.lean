/- KeepPlays: the law. -/
import Derived.Test.YtalngalikblgkaaKpFc
import Derived.Test.YtalngalikblgkaaKpGa

set_option linter.unusedSimpArgs false
set_option linter.unusedVariables false
namespace Go.Proofs.Ytalngalikblgkaa
open Go.RowKit

def p19Phi (a5 : Value) (qp qa i1 ab ff sb so sc m S d1 ag n t c h k : Nat) : Nat → Value → World → (Nat → Nat) → Prop
  | 0, v, _, _ => v = .int .i64 (n : Int)
  | 1, v, _, _ => v = .bool false
  | 2, v, _, _ => v = .bool false
  | 3, v, _, _ => v = .pointer (some ⟨qp, 0, none⟩)
  | 4, v, _, _ => v = .slice (some ⟨i1, 0, none⟩) S d1
  | 5, v, _, _ => v = .int .i64 (n : Int)
  | 6, v, _, _ => v = .pointer (some ⟨i1, n, none⟩)
  | 7, v, _, _ => v = .bool true
  | 8, v, _, _ => v = .bool false
  | 9, v, _, _ => v = .bool false
  | 10, v, _, _ => v = .bool false
  | 11, v, _, _ => v = .pointer (some ⟨qa, 4, none⟩)
  | 12, v, _, _ => v = .slice (some ⟨ab, 0, none⟩) S ag
  | 13, v, _, _ => v = .int .i64 (n : Int)
  | 14, v, _, _ => v = .pointer (some ⟨ab, n, none⟩)
  | 15, v, _, _ => v = .bool true
  | 16, v, _, _ => v = .bool false
  | 17, v, _, _ => v = .bool false
  | 18, v, _, _ => v = .bool false
  | 19, v, _, _ => v = a5
  | 20, v, _, _ => v = .int .i64 (t : Int)
  | 21, v, _, _ => v = .pointer (some ⟨qp, 1, none⟩)
  | 22, v, _, _ => v = .slice (some ⟨ff, 0, none⟩) S S
  | 23, v, _, _ => v = .int .i64 (t : Int)
  | 24, v, _, _ => v = .pointer (some ⟨ff, t, none⟩)
  | 25, v, _, _ => v = .int .i64 (c : Int)
  | 26, v, _, _ => v = .slice (some ⟨sb, so, none⟩) m sc
  | 27, v, _, _ => v = .int .i64 (k : Int)
  | 28, v, _, _ => v = .pointer (some ⟨sb, so + k, none⟩)
  | 29, v, _, _ => v = .int .i64 (h : Int)
  | 30, v, _, _ => v = .int .i64 (n : Int)
  | 31, v, _, _ => v = .int .i64 (n : Int)
  | 32, v, _, _ => v = .bool false
  | 33, v, _, _ => v = .bool false
  | _, _, _, _ => True
theorem p19Phi_w {a5 : Value} {qp qa i1 ab ff sb so sc m S d1 ag n t c h k : Nat} {j : Nat} {v : Value} {W W' : World} {γ γ' : Nat → Nat} (hq : p19Phi a5 qp qa i1 ab ff sb so sc m S d1 ag n t c h k j v W γ) : p19Phi a5 qp qa i1 ab ff sb so sc m S d1 ag n t c h k j v W' γ' := by
  unfold p19Phi at hq ⊢
  split at hq <;> first | exact hq | trivial
def p36Phi (a5 : Value) (n : Int) (qa ab sb so sc m S H ag zb zo zc mz t u h k : Nat) : Nat → Value → World → (Nat → Nat) → Prop
  | 0, v, _, _ => v = .pointer (some ⟨qa, 4, none⟩)
  | 1, v, _, _ => v = .slice (some ⟨ab, 0, none⟩) S ag
  | 2, v, _, _ => v = .int .i64 (t : Int)
  | 3, v, _, _ => v = .pointer (some ⟨ab, t, none⟩)
  | 4, v, _, _ => v = .bool true
  | 5, v, _, _ => v = .bool false
  | 6, v, _, _ => v = .bool false
  | 7, v, _, _ => v = .slice (some ⟨sb, so, none⟩) m sc
  | 8, v, _, _ => v = .int .i64 (k : Int)
  | 9, v, _, _ => v = .pointer (some ⟨sb, so + k, none⟩)
  | 10, v, _, _ => v = .int .i64 (h : Int)
  | 11, v, _, _ => v = .bool false
  | 12, v, _, _ => v = .bool false
  | 13, v, _, _ => v = .bool false
  | 14, v, _, _ => v = .slice (some ⟨sb, so, none⟩) m sc
  | 15, v, _, _ => v = .int .i64 (k : Int)
  | 16, v, _, _ => v = .pointer (some ⟨sb, so + k, none⟩)
  | 17, v, _, _ => v = .int .i64 (h : Int)
  | 18, v, _, _ => v = .pointer (some ⟨qa, 2, none⟩)
  | 19, v, _, _ => v = .int .i64 (H : Int)
  | 20, v, _, _ => v = .bool false
  | 21, v, _, _ => v = .bool false
  | 22, v, _, _ => v = .bool false
  | 23, v, _, _ => v = a5
  | 24, v, _, _ => v = .int .i64 (t : Int)
  | 25, v, _, _ => v = .slice (some ⟨zb, zo, none⟩) mz zc
  | 26, v, _, _ => v = .int .i64 (k : Int)
  | 27, v, _, _ => v = .pointer (some ⟨zb, zo + k, none⟩)
  | 28, v, _, _ => v = .int .i64 (u : Int)
  | 29, v, _, _ => v = .slice (some ⟨sb, so, none⟩) m sc
  | 30, v, _, _ => v = .int .i64 (k : Int)
  | 31, v, _, _ => v = .pointer (some ⟨sb, so + k, none⟩)
  | 32, v, _, _ => v = .int .i64 (h : Int)
  | 33, v, _, _ => v = .int .i64 n
  | 34, v, _, _ => v = .int .i64 n
  | 35, v, _, _ => v = .bool false
  | 36, v, _, _ => v = .bool false
  | _, _, _, _ => True
theorem p36Phi_w {a5 : Value} {n : Int} {qa ab sb so sc m S H ag zb zo zc mz t u h k : Nat} {j : Nat} {v : Value} {W W' : World} {γ γ' : Nat → Nat} (hq : p36Phi a5 n qa ab sb so sc m S H ag zb zo zc mz t u h k j v W γ) : p36Phi a5 n qa ab sb so sc m S H ag zb zo zc mz t u h k j v W' γ' := by
  unfold p36Phi at hq ⊢
  split at hq <;> first | exact hq | trivial
theorem cut8 {n : Nat} {vs : List Value} (h : vs.length = n + 8) : ∃ a0 a1 a2 a3 a4 a5 a6 a7 l, l.length = n ∧ vs = a0 :: a1 :: a2 :: a3 :: a4 :: a5 :: a6 :: a7 :: l := by
  match vs, h with
  | a0 :: a1 :: a2 :: a3 :: a4 :: a5 :: a6 :: a7 :: l, h => exact ⟨a0, a1, a2, a3, a4, a5, a6, a7, l, by simpa using h, rfl⟩
/-- A list of choices under way. -/
structure LsI (X : World) (dx : Nat) (dv : Value) (H : Nat) (v : Value) (k : Nat) (L : List Int) (W : World) : Prop where
  low : Below X.heap.size X W
  dig : ∃ i, i ≤ k ∧ Blk W dx 60 #[dv, .int .i64 ((i : Nat) : Int)]
  row : W.ownsRow X.heap.size 3 1 v k (L.flatMap encI)
  len : L.length = k
  bd : ∀ y ∈ L, 0 ≤ y ∧ y < (H : Int)
def lsR (X : World) (dx : Nat) (dv : Value) (v : Value) (k : Nat) (L : List Int) (W : World) (γ : Nat → Nat) : Prop :=
  (Below X.heap.size X W ∧ ∃ i, i ≤ k + γ 2 ∧ Blk W dx 60 #[dv, .int .i64 ((i : Nat) : Int)]) ∧ (γ 1 = 0 → W.ownsRow X.heap.size 3 1 v k (L.flatMap encI))
def lsPhi (X : World) (dx qa o H : Nat) (vv : Value) (k : Nat) (L : List Int) : Nat → Value → World → (Nat → Nat) → Prop
  | 0, v, _, _ => v = vv
  | 1, v, _, _ => v = .pointer (some ⟨dx, 0, none⟩)
  | 2, v, _, _ => v = .pointer (some ⟨qa, o, none⟩)
  | 3, v, _, _ => v = .int .i64 (H : Int)
  | 4, v, _, γ => ∃ r : Int, v = .int .i64 r ∧ (0 ≤ r ∧ r < (H : Int)) ∧ γ 2 = 1
  | 5, v, W, γ => ∃ (b1 : Nat) (r : Int), v = .slice (some ⟨b1, 0, none⟩) 1 1 ∧ (0 ≤ r ∧ r < (H : Int)) ∧ (γ 1 = 0 → Blk W b1 3 #[.int .i64 r])
  | 6, v, W, γ => ∃ A c r, v = .slice A (k + 1) c ∧ (0 ≤ r ∧ r < (H : Int)) ∧ W.ownsRow X.heap.size 3 1 (.slice A (k + 1) c) (k + 1) ((L ++ [r]).flatMap encI)
  | 7, v, W, γ => ∃ A c r, v = .slice A (k + 1) c ∧ (0 ≤ r ∧ r < (H : Int)) ∧ W.ownsRow X.heap.size 3 1 (.slice A (k + 1) c) (k + 1) ((L ++ [r]).flatMap encI)
  | _, _, _, _ => True
def lsPsi (i : Nat) (_ : World) (γ : Nat → Nat) : Prop := (i = 6 → γ 1 = 0) ∧ (i = 4 → γ 2 = 0)
section
variable {X : World} {dx qa o H : Nat} {vv : Value} {k : Nat} {L : List Int} {j : Nat} {v : Value} {W W' : World} {γ γ' : Nat → Nat}
theorem lsPhi_next (hb : Below W.heap.size W W') (h : lsPhi X dx qa o H vv k L j v W γ) : lsPhi X dx qa o H vv k L j v W' γ := by
  unfold lsPhi at h ⊢
  split at h
  all_goals first | exact h | trivial | skip
  · obtain ⟨b1, r, e, h1, hr⟩ := h; exact ⟨b1, r, e, h1, fun g => (hr g).below hb (hr g).lt⟩
  · obtain ⟨A, c, r, e, h1, hr⟩ := h; exact ⟨A, c, r, e, h1, row_next hr hb⟩
  · obtain ⟨A, c, r, e, h1, hr⟩ := h; exact ⟨A, c, r, e, h1, row_next hr hb⟩
theorem lsPhi_turn (h4 : j ≠ 4) (h5 : j ≠ 5) (h6 : j ≠ 6) (h7 : j ≠ 7) (h : lsPhi X dx qa o H vv k L j v W γ) : lsPhi X dx qa o H vv k L j v W' γ' := by
  unfold lsPhi at h ⊢
  split at h
  all_goals first | exact h | trivial | exact absurd rfl h4 | exact absurd rfl h5 | exact absurd rfl h6 | exact absurd rfl h7
theorem lsPhi_grown (h6 : j ≠ 6) (h7 : j ≠ 7) (hγ : γ' 1 ≠ 0) (h2 : γ' 2 = γ 2) (h : lsPhi X dx qa o H vv k L j v W γ) : lsPhi X dx qa o H vv k L j v W' γ' := by
  unfold lsPhi at h ⊢
  split at h
  all_goals first | exact h | trivial | exact absurd rfl h6 | exact absurd rfl h7 | skip
  · obtain ⟨r, e, h1, hr⟩ := h; exact ⟨r, e, h1, by rw [h2]; exact hr⟩
  · obtain ⟨b1, r, e, h1, hr⟩ := h; exact ⟨b1, r, e, h1, fun g => absurd g hγ⟩
end
theorem plF_get (g : Gm) (ctl : List Int) : ∀ (s : Nat) (L : List Int) (k : Nat) (h : Int), L[k]? = some h → (plF g ctl s L)[k]? = some (nxF g ctl (lsF g ctl s (L.take k)) h) := by
  intro s L
  induction L generalizing s with
  | nil => intro k h e; simp at e
  | cons a L ih =>
    intro k h e
    cases k with
    | zero =>
      simp only [List.getElem?_cons_zero, Option.some.injEq] at e
      subst e
      rfl
    | succ k =>
      simp only [List.getElem?_cons_succ] at e
      show (plF g ctl (nxF g ctl s a).toNat L)[k]? = _
      rw [ih _ k h e]
      rfl
/-- So many rounds at most as there are states. -/
theorem rounds_le {g : Gm} (ok : GmOk g) {k : Nat} (h : Solved g k) : k ≤ g.S := by
  have h1 : ∀ j ≤ k, (itR g j).1.count true + j ≤ g.S := by
    intro j
    induction j with
    | zero =>
      intro _
      have : g.good.count true ≤ g.good.length := List.count_le_length
      rw [ok.gl] at this
      exact this
    | succ j ih =>
      intro hj
      have h2 := ih (by omega)
      have h3 : (itR g (j + 1)).1.count true < (itR g j).1.count true := cnt_lost (h.2 j (by omega))
      omega
  have := h1 k (Nat.le_refl _)
  omega
set_option maxRecDepth 100000 in
set_option maxHeartbeats 8000000 in
theorem plays_any (A0 A2 : Option Addr) (n0 c0 n2 c2 : Nat) (l0 l2 : List Int) (x : Int) (w : World) (h0 : Rd w w.heap.size 1 encU A0 n0 l0) (h2 : Rd w w.heap.size 1 encU A2 n2 l2) (u0 : U8s l0) (u2 : U8s l2) (z0 : n0 ≤ 9223372036854775807) (z2 : n2 ≤ 9223372036854775807) (hx : 0 ≤ x ∧ x ≤ 255) :
    Calls Try.prog 7 #[.slice A0 n0 c0, .int .u8 x, .slice A2 n2 c2] w fun e w' => e = .returned (.bool true) ∧ Below w.heap.size w w' := by
  have KM := Lib.hid (fun W h => Made_any A0 n0 c0 l0 W h u0)
  have H0 := Lib.hid h0
  have H2 := Lib.hid h2
  have U2 := Lib.hid u2
  have HX := Lib.hid hx
  have KA := Lib.hid awake_any
  obtain ⟨i0, hi0, hi1, hi2, hi3⟩ := info_parts intInfo
  have hi := Lib.hid (And.intro hi0 (And.intro hi1 (And.intro hi2 hi3)))
  clear h0 h2 u0 u2 z0 z2 hx hi0 hi1 hi2 hi3
  go_enter Try.func7, Try.ntmps7
  go_wp2_with fail
  refine (KM.out _ H0.out).mono ?_
  rintro e w1 ⟨aN, an, ac, ab, ag, ga, rfl, oka, sza, hin, hB⟩
  have B0 : Hid (Below w.heap.size w w1) := Lib.hid hB
  clear hB
  have OA := Lib.hid oka
  have SA := Lib.hid sza
  have IA := Lib.hid hin
  clear oka sza hin KM H0
  go_wp2_with fail
  obtain ⟨qa, hqa⟩ : ∃ z, z = w1.heap.size := ⟨_, rfl⟩
  obtain ⟨w2, hw2⟩ : ∃ z, z = w1.alloc (.cells #[.int .i64 (ga.S : Int), .int .i64 (ga.C : Int), .int .i64 (ga.H : Int), .slice aN an ac, .slice (some ⟨ab, 0, none⟩) ga.S ag] 25) := ⟨_, rfl⟩
  have QA : Hid (Blk w2 qa 25 #[.int .i64 (ga.S : Int), .int .i64 (ga.C : Int), .int .i64 (ga.H : Int), .slice aN an ac, .slice (some ⟨ab, 0, none⟩) ga.S ag]) := Lib.hid (by rw [hw2, hqa]; exact heap_alloc_new w1 _)
  have Sw2 : Hid (w2.heap.size = qa + 1) := Lib.hid (by rw [hw2, hqa, World.size_alloc])
  have Zqa : Hid (w1.heap.size ≤ qa) := Lib.hid (by rw [hqa]; exact Nat.le_refl _)
  have hBn : Below w1.heap.size w1 w2 := by rw [hw2]; exact (Below.refl _ _).alloc (Nat.le_refl _) _
  rw [← hw2, ← hqa]
  have B1 : Hid (Below w1.heap.size w1 w2) := Lib.hid hBn
  clear hw2 hqa hBn
  refine (Solve_any aN (some ⟨ab, 0, none⟩) an ac ag ga w2 (IA.out.next' B1.out) OA.out).mono ?_
  rintro e w3 ⟨i1, d1, ff, r1, k1, rfl, hk, hs, hB⟩
  have B2 : Hid (Below w2.heap.size w2 w3) := Lib.hid hB
  clear hB
  have S1 := Lib.hid hk
  have hrd := solved_rd OA.out hs
  have hrt := solved_right OA.out hk
  obtain ⟨inn, hinn⟩ : ∃ z, z = (itR ga k1).1 := ⟨_, rfl⟩
  obtain ⟨ctl, hctl⟩ : ∃ z, z = ctL ga (itR ga k1).1 := ⟨_, rfl⟩
  obtain ⟨rnk, hrnk⟩ : ∃ z, z = (itR ga k1).2 := ⟨_, rfl⟩
  rw [← hctl, ← hinn, ← hrnk] at hrd hrt
  have RR := Lib.hid hrd
  have HRT := Lib.hid hrt
  have HRB : Hid (∀ t < ga.S, inn.getD t false = false → (rnk.getD t 0).toNat ≤ 400) := Lib.hid (fun t ht h => by
    have h1 := rkI_all OA.out k1 t ht
    rw [← hinn, ← hrnk] at h1
    have h2 := (h1.2 h).1.2
    have h3 := rounds_le OA.out S1.out
    have h4 := OA.out.s1
    omega)
  clear hk hs hrd hrt hinn hctl hrnk
  have hbk := QA.out.below B2.out QA.out.lt
  have p0 := hbk.cell 0
  simp only [List.getElem?_toArray, List.getElem?_cons_zero, List.getElem?_cons_succ] at p0
  have zp := hbk.lt
  clear hbk
  obtain ⟨sN, hsN⟩ : ∃ s : Nat, (s : Int) = x.tmod (ga.S : Int) := ⟨(x.tmod (ga.S : Int)).toNat, by have h := tmod_bd (x := x) (n := (ga.S : Int)) HX.out.1 (by have := OA.out.s0; omega); omega⟩
  have HSN : Hid (sN < ga.S) := Lib.hid (by have h := tmod_bd (x := x) (n := (ga.S : Int)) HX.out.1 (by have := OA.out.s0; omega); omega)
  have wx : IntKind.i64.wrap x = x := IntWalk.i64_in _ (by have := HX.out; omega)
  have wu : x.tmod (ga.S : Int) = (sN : Int) := hsN.symm
  have hc0 : ¬ (ga.S = 0) := by have := OA.out.s0; omega
  have hc1 : ¬ ((ga.S : Int) = 0) := by omega
  have dS : ((ga.S : Int) == (ga.S : Int)) = true := beq_self_eq_true _
  have hS1 := OA.out.s0
  have hS2 := SA.out.1
  have hsl := HSN.out
  have j1 : (0 : Int) ≤ (sN : Int) := by omega
  have j2 : (sN : Int) < (ga.S : Int) := by omega
  obtain ⟨b5, o5, vi, e5, hb5, hx5, hcx5⟩ := RR.out.1.at_ hsl
  obtain ⟨rfl, rfl⟩ : i1 = b5 ∧ 0 = o5 := by simpa using e5
  have cx5 := cellB hcx5
  rw [Nat.zero_add] at cx5
  have zx5 := block_of_cell cx5
  dsimp only at zx5
  have hiv : inn.getD sN false = vi := by rw [List.getD_eq_getElem?_getD, hx5]; rfl
  have HIV := Lib.hid hiv
  clear hsN hx5 hcx5 e5 hb5 hiv
  have g1 : w3.heap.size < w3.heap.size + 1 := by omega
  cases vi
  · obtain ⟨hrk0, hrk1, -⟩ := right_rank HRT.out hsl HIV.out
    obtain ⟨m, hm⟩ : ∃ z : Nat, rnk.getD sN 0 = (z : Int) := ⟨_, (Int.toNat_of_nonneg hrk0).symm⟩
    have hm9 : m ≤ 400 := by
      have h := HRB.out sN hsl HIV.out
      rw [hm, Int.toNat_natCast] at h
      exact h
    have HM := Lib.hid hm
    obtain ⟨b6, o6, y6, e6, hb6, hx6, hc6⟩ := RR.out.2.2.at_ hsl
    obtain ⟨rfl, rfl⟩ : r1 = b6 ∧ 0 = o6 := by simpa using e6
    have hy6 : y6 = (m : Int) := by
      have hk7 := hm
      rw [List.getD_eq_getElem?_getD, hx6] at hk7
      exact hk7
    subst hy6
    have cx6 := cellI hc6
    rw [Nat.zero_add] at cx6
    have zx6 := block_of_cell cx6
    dsimp only at zx6
    clear hrk0 hrk1 hm hb6 hx6 hc6 e6
    go_wp2_with fail
    obtain ⟨qp, hqp⟩ : ∃ z, z = w3.heap.size := ⟨_, rfl⟩
    obtain ⟨w4, hw4⟩ : ∃ z, z = w3.alloc (.cells #[.slice (some ⟨i1, 0, none⟩) ga.S d1, .slice (some ⟨ff, 0, none⟩) ga.S ga.S, .slice (some ⟨r1, 0, none⟩) ga.S ga.S] 27) := ⟨_, rfl⟩
    have QP : Hid (Blk w4 qp 27 #[.slice (some ⟨i1, 0, none⟩) ga.S d1, .slice (some ⟨ff, 0, none⟩) ga.S ga.S, .slice (some ⟨r1, 0, none⟩) ga.S ga.S]) := Lib.hid (by rw [hw4, hqp]; exact heap_alloc_new w3 _)
    have Sw4 : Hid (w4.heap.size = qp + 1) := Lib.hid (by rw [hw4, hqp, World.size_alloc])
    have Zqp : Hid (w3.heap.size ≤ qp) := Lib.hid (by rw [hqp]; exact Nat.le_refl _)
    have hBn : Below w3.heap.size w3 w4 := by rw [hw4]; exact (Below.refl _ _).alloc (Nat.le_refl _) _
    rw [← hw4, ← hqp]
    have B3 : Hid (Below w3.heap.size w3 w4) := Lib.hid hBn
    clear hw4 hqp hBn
    obtain ⟨dx, hdx⟩ : ∃ z, z = qp + 1 := ⟨_, rfl⟩
    obtain ⟨w5, hw5⟩ : ∃ z, z = w4.alloc (.cells #[.slice A2 n2 c2, .int .i64 0] 60) := ⟨_, rfl⟩
    have DX : Hid (Blk w5 dx 60 #[.slice A2 n2 c2, .int .i64 0]) := Lib.hid (by have e2 := heap_alloc_new w4 (.cells #[.slice A2 n2 c2, .int .i64 0] 60); rw [Sw4.out] at e2; rw [hw5, hdx]; exact e2)
    have Sw5 : Hid (w5.heap.size = dx + 1) := Lib.hid (by rw [hw5, hdx, World.size_alloc, Sw4.out])
    have Zdx : Hid (w4.heap.size = dx) := Lib.hid (by rw [Sw4.out, hdx])
    have hBn : Below w4.heap.size w4 w5 := by rw [hw5]; exact (Below.refl _ _).alloc (Nat.le_refl _) _
    rw [← hw5, ← hdx]
    have B4 : Hid (Below w4.heap.size w4 w5) := Lib.hid hBn
    clear hw5 hdx hBn
    have HLOW : Hid (Below w4.heap.size w4 w5) := B4
    have HDB : Hid (w4.heap.size ≤ dx) := Lib.hid (Nat.le_of_eq Zdx.out)
    have HQA4 := Lib.hid (QA.out.below (below3 B2.out B3.out (Nat.le_refl _)) QA.out.lt)
    have HA4 := Lib.hid (IA.out.next' (below3 (below3 B1.out B2.out (Nat.le_refl _)) B3.out (Nat.le_refl _)))
    have HG4 := Lib.hid (IA.out.good.next (below3 (below3 B1.out B2.out (Nat.le_refl _)) B3.out (Nat.le_refl _)))
    have HI4 := Lib.hid (RR.out.1.next B3.out)
    have HC4 := Lib.hid (RR.out.2.1.next B3.out)
    have HR4 := Lib.hid (RR.out.2.2.next B3.out)
    have KN := Lib.hid (fun (W : World) (i : Nat) (hd : Blk W dx 60 #[.slice A2 n2 c2, .int .i64 (i : Int)]) (hW : Below w4.heap.size w4 W) (hi : i ≤ 1000000) => next_int dx n2 c2 w.heap.size i (ga.C : Int) A2 l2 W hd (H2.out.below (below3 (below3 (below3 (below3 B0.out B1.out (Nat.le_refl _)) B2.out (Nat.le_refl _)) B3.out (Nat.le_refl _)) hW (Nat.le_refl _))) (Nat.le_trans ((below3 (below3 (below3 B0.out B1.out (Nat.le_refl _)) B2.out (Nat.le_refl _)) B3.out (Nat.le_refl _))).size HDB.out) U2.out hi (by have h1 := OA.out.c0; have h2 := OA.out.c1; omega))
    clear p0 zp cx5 zx5 g1
    clear cx6 zx6
    go_wp2
    go_loopw [17, 140] (fun v i wr => ∃ k L vv, v = vv ∧ k ≤ m ∧ i = .int .i64 ((k : Nat) : Int) ∧ Hid (LsI w4 dx (.slice A2 n2 c2) ga.C vv k L wr)) (fun _ i _ => m - (intOf i).toNat)
    case atStart => exact ⟨0, [], _, rfl, by omega, rfl, Lib.hid ⟨HLOW.out, ⟨0, Nat.le_refl _, DX.out⟩, World.ownsRow_nil _ _ _ _, rfl, fun y h => (by simp at h)⟩⟩
    case round =>
      obtain ⟨k, L, vv, hvv, hk, rfl, HLS⟩ := hrel
      obtain rfl := hvv.symm
      by_cases hlt : k < m
      · have hk4 : k ≤ 400 := by omega
        have hk1 : ((k : Nat) : Int) < ((m : Nat) : Int) := by omega
        have hbk := HQA4.out.below HLS.out.low HQA4.out.lt
        have p1 := hbk.cell 1
        have zp := hbk.lt
        simp only [List.getElem?_toArray, List.getElem?_cons_zero, List.getElem?_cons_succ] at p1
        clear hbk
        obtain ⟨i9, hi9, hd9⟩ := HLS.out.dig
        have C := Lib.hid (KN.out wr i9 hd9 HLS.out.low (by omega))
        have HI9 := Lib.hid (And.intro hi9 hd9)
        clear hi9 hd9
        go_wp2_with fail
        refine C.out.mono ?_
        rintro e wx ⟨r9, rfl, hr9, hk5, hb5⟩
        have hB5 : Below w4.heap.size wr wx := hk5.below HLS.out.low.size (fun b e => by rw [e]; exact HDB.out)
        have HX : Hid (Below w4.heap.size w4 wx) := Lib.hid (HLS.out.low.trans hB5)
        have HROW : Hid (wx.ownsRow w4.heap.size 3 1 vv k (L.flatMap encI)) := Lib.hid (HLS.out.row.kept (keep_grown hk5) (Or.inr (own_ne HLS.out.row HI9.out.2 (by decide)).symm))
        have HDG := Lib.hid hb5
        have HRB9 := Lib.hid hr9
        have hsz := HX.out.size
        clear hk5 hb5 hB5 hr9 C p1 zp
        go_wp2_with (at_builtin; refine wpList_append_own_at _ rfl (.tmp 142) (.tmp 147) 22 rfl w4.heap.size 3 i0 (.int .i64 0) 1 8 Try.underlying22 hi.out.1 hi.out.2.1 hi.out.2.2.1 hi.out.2.2.2 rfl (by decide) vv k (L.flatMap encI) rfl (HROW.out.alloc _) ⟨wx.heap.size, 0, none⟩ 1 1 [.int .i64 r9] rfl rfl (cell_one_new _ _ _) ?_ ?_ ?_ ?_ ?_)
        case _ => (intro u hu; simp only [List.mem_cons, List.mem_nil_iff, or_false] at hu; subst hu; rfl)
        case _ => simp only [maxLen]; omega
        case _ => omega
        case _ => simp; omega
        intro v' wy hown hg8 _ _
        obtain ⟨A9, c9, rfl⟩ := row_slice hown
        have hBa : Below wx.heap.size wx (wx.alloc (.cells #[.int .i64 r9] 3)) := (Below.refl _ _).alloc (Nat.le_refl _) _
        have hr1 := row_next HROW.out hBa
        have hd1 := HDG.out.below hBa HDG.out.lt
        have hl1 := below3 HX.out hBa (Nat.le_refl _)
        have hl2 := hl1.trans ((Below.refl _ _).grown hg8 hl1.size (fun r e => (World.ownsRow.lt hr1 r e).1))
        have HN : Hid (LsI w4 dx (.slice A2 n2 c2) ga.C (.slice A9 (k + 1) c9) (k + 1) (L ++ [r9]) wy) := Lib.hid ⟨hl2, ⟨i9 + 1, by have := HI9.out.1; omega, hd1.kept hg8 (own_ne hr1 hd1 (by decide))⟩, by rw [List.flatMap_append]; exact hown, by rw [List.length_append, HLS.out.len]; rfl, all_snoc2 HLS.out.bd HRB9.out⟩
        clear hown hg8 hBa hr1 hd1 hl1 hl2
        go_wp2
        go_roundw
        case rel => exact ⟨k + 1, L ++ [r9], _, rfl, by omega, by go_num, HN⟩
        case measure => simp [intOf]; omega
      · obtain rfl : m = k := by omega
        obtain ⟨A9, c9, rfl⟩ := row_slice HLS.out.row
        obtain ⟨wA, hwA⟩ : ∃ z, z = wr := ⟨wr, rfl⟩
        subst hwA
        have hBl := HLS.out.low
        have B4 : Hid (Below w4.heap.size w4 wA) := Lib.hid hBl
        clear hBl
        have HLR : Hid (Rd wA wA.heap.size 1 encI A9 m L) := Lib.hid (row_rd (f := encI) (size := 1) (fun _ => rfl) HLS.out.len HLS.out.row)
        have KF := Lib.hid (Force_out aN an ac ab 0 ag i1 0 d1 ff 0 ga.S r1 0 ga.S ga inn ctl rnk sN m c9 A9 L wA (HA4.out.next' B4.out) OA.out (HI4.out.next B4.out) (HC4.out.next B4.out) (HR4.out.next B4.out) HRT.out HSN.out HIV.out HLR.out HLS.out.bd (by omega) (by rw [HM.out, Int.toNat_natCast]; exact Nat.le_refl _))
        have hbk := QA.out.below (below3 (below3 B2.out B3.out (Nat.le_refl _)) B4.out (Nat.le_refl _)) QA.out.lt
        have p0 := hbk.cell 0
        have p1 := hbk.cell 1
        have p2 := hbk.cell 2
        have p3 := hbk.cell 3
        have p4 := hbk.cell 4
        simp only [List.getElem?_toArray, List.getElem?_cons_zero, List.getElem?_cons_succ] at p0 p1 p2 p3 p4
        have zp := hbk.lt
        clear hbk
        have hbk := QP.out.below B4.out QP.out.lt
        have o0 := hbk.cell 0
        have o1 := hbk.cell 1
        have o2 := hbk.cell 2
        simp only [List.getElem?_toArray, List.getElem?_cons_zero, List.getElem?_cons_succ] at o0 o1 o2
        have zo := hbk.lt
        clear hbk
        go_wp2_with fail
        refine (KF.out).mono ?_
        rintro e w6 ⟨A7, c7, A8, c8, k, rfl, hfe, hB⟩
        have B5 : Hid (Below wA.heap.size wA w6) := Lib.hid hB
        clear hB
        clear p0 p1 p2 p3 p4 zp o0 o1 o2 zo KF KN
        obtain ⟨sh, st, hfr, hov, hkl, hsh, hst⟩ := hfe
        have HFR := Lib.hid hfr
        have HOV := Lib.hid hov
        have HSH := Lib.hid hsh
        have HST := Lib.hid hst
        rw [HLS.out.len] at hkl
        clear hfr hov hsh hst
        have HC6 : Hid (r1 < w6.heap.size ∧ w6.cell? ⟨r1, sN, none⟩ = some (.int .i64 (m : Int))) := Lib.hid (by
          obtain ⟨b7, o7, y7, e7, hb7, hx7, hc7⟩ := (HR4.out.next (below3 B4.out B5.out (Nat.le_refl _))).at_ HSN.out
          obtain ⟨rfl, rfl⟩ : r1 = b7 ∧ 0 = o7 := by simpa using e7
          have hy7 : y7 = (m : Int) := by
            have hk7 := HM.out
            rw [List.getD_eq_getElem?_getD, hx7] at hk7
            exact hk7
          subst hy7
          have hc8 := cellI hc7
          rw [Nat.zero_add] at hc8
          exact ⟨hb7, hc8⟩)
        obtain ⟨gv, hgv⟩ : ∃ z, z = ga.good.getD sN false := ⟨_, rfl⟩
        have HC7 : Hid (ab < w6.heap.size ∧ w6.cell? ⟨ab, sN, none⟩ = some (.bool gv)) := Lib.hid (by
          obtain ⟨b7, o7, y7, e7, hb7, hx7, hc7⟩ := (HG4.out.next (below3 B4.out B5.out (Nat.le_refl _))).at_ HSN.out
          obtain ⟨rfl, rfl⟩ : ab = b7 ∧ 0 = o7 := by simpa using e7
          have hy7 : y7 = gv := by
            have hk7 := hgv.symm
            rw [List.getD_eq_getElem?_getD, hx7] at hk7
            exact hk7
          subst hy7
          have hc8 := cellB hc7
          rw [Nat.zero_add] at hc8
          exact ⟨hb7, hc8⟩)
        have HGV : Hid (if k = 0 then gv = false else gv = true) := Lib.hid (by
          by_cases h0 : k = 0
          · rw [if_pos h0]
            have h := HOV.out
            rw [h0] at h
            have h1 : frAt sN st 0 = (sN : Int) := rfl
            rw [h1, over_nat, ← hgv] at h
            simpa using h
          · rw [if_neg h0]
            obtain ⟨t, h1, h2, h3, _⟩ := HFR.out.step 0 (by omega)
            have h4 : frAt sN st 0 = (sN : Int) := rfl
            rw [h4] at h1
            obtain rfl : sN = t := by omega
            rw [hgv]; exact h3)
        clear hgv
        have c6 := HC6.out.2
        have z6 := HC6.out.1
        have c7' := HC7.out.2
        have z7 := HC7.out.1
        have dk : (((k : Nat) : Int) == ((k : Nat) : Int)) = true := beq_self_eq_true _
        have dm : decide (((m : Nat) : Int) < ((k : Nat) : Int)) = false := decide_eq_false (by omega)
        have dm2 : ¬ (((m : Nat) : Int) < ((k : Nat) : Int)) := by omega
        have hbk := QA.out.below (below3 (below3 (below3 B2.out B3.out (Nat.le_refl _)) B4.out (Nat.le_refl _)) B5.out (Nat.le_refl _)) QA.out.lt
        have p4 := hbk.cell 4
        simp only [List.getElem?_toArray, List.getElem?_cons_zero, List.getElem?_cons_succ] at p4
        have zp := hbk.lt
        clear hbk
        have hbk := QP.out.below (below3 B4.out B5.out (Nat.le_refl _)) QP.out.lt
        have o2 := hbk.cell 2
        simp only [List.getElem?_toArray, List.getElem?_cons_zero, List.getElem?_cons_succ] at o2
        have zo := hbk.lt
        clear hbk
        by_cases hkz : k = 0
        · rw [if_pos hkz] at HGV
          subst hkz
          have hgz := HGV.out
          subst hgz
          go_wp2
          clear c6 z6 c7' z7 dm dm2 p4 zp o2 zo
          go_loopw [10, 192] (fun v i wr => ∃ j t : Nat, j ≤ 0 ∧ v = .int .i64 ((t : Nat) : Int) ∧ i = .int .i64 ((j : Nat) : Int) ∧ Hid (frAt sN st j = ((t : Nat) : Int) ∧ t < ga.S) ∧ Hid (Below w6.heap.size w6 wr)) (fun _ i _ => 0 - (intOf i).toNat)
          case atStart => exact ⟨0, sN, by omega, rfl, rfl, Lib.hid ⟨rfl, HSN.out⟩, Lib.hid (Below.refl _ _)⟩
          case round =>
            obtain ⟨j, t, hj, rfl, rfl, HT, HW⟩ := hrel
            obtain rfl : j = 0 := by omega
            obtain ⟨wB, hwB⟩ : ∃ z, z = wr := ⟨wr, rfl⟩
            subst hwB
            have hBl := HW.out
            have B6 : Hid (Below w6.heap.size w6 wB) := Lib.hid hBl
            clear hBl
            have hgt : ga.good.getD t false = false := by
              have h := HOV.out
              rw [HT.out.1, over_nat] at h
              simpa using h
            have HC8 : Hid (ab < wB.heap.size ∧ wB.cell? ⟨ab, t, none⟩ = some (.bool false)) := Lib.hid (by
              obtain ⟨b7, o7, y7, e7, hb7, hx7, hc7⟩ := (HG4.out.next (below3 (below3 B4.out B5.out (Nat.le_refl _)) B6.out (Nat.le_refl _))).at_ HT.out.2
              obtain ⟨rfl, rfl⟩ : ab = b7 ∧ 0 = o7 := by simpa using e7
              have hy7 : y7 = false := by
                have hk7 := hgt
                rw [List.getD_eq_getElem?_getD, hx7] at hk7
                exact hk7
              subst hy7
              have hc8 := cellB hc7
              rw [Nat.zero_add] at hc8
              exact ⟨hb7, hc8⟩)
            have c8' := HC8.out.2
            have z8 := HC8.out.1
            have ht0 : (0 : Int) ≤ ((t : Nat) : Int) := by omega
            have ht1 : ((t : Nat) : Int) < ((ga.S : Nat) : Int) := by have := HT.out.2; omega
            have hbk := QA.out.below (below3 (below3 (below3 (below3 B2.out B3.out (Nat.le_refl _)) B4.out (Nat.le_refl _)) B5.out (Nat.le_refl _)) B6.out (Nat.le_refl _)) QA.out.lt
            have p4 := hbk.cell 4
            simp only [List.getElem?_toArray, List.getElem?_cons_zero, List.getElem?_cons_succ] at p4
            have zp := hbk.lt
            clear hbk
            go_wp2_with fail
            refine (KA.out _).mono ?_
            rintro e w90 ⟨rfl, hB⟩
            have B7 : Hid (Below wB.heap.size wB w90) := Lib.hid hB
            clear hB
            go_wp2
            go_ret
            exact ⟨rfl, (below3 (below3 (below3 (below3 (below3 (below3 (below3 B0.out B1.out (Nat.le_refl _)) B2.out (Nat.le_refl _)) B3.out (Nat.le_refl _)) B4.out (Nat.le_refl _)) B5.out (Nat.le_refl _)) B6.out (Nat.le_refl _)) B7.out (Nat.le_refl _))⟩
        · rw [if_neg hkz] at HGV
          have hgz := HGV.out
          subst hgz
          have d9 : (((k : Nat) : Int) == 0) = false := beq_eq_false_iff_ne.2 (by omega)
          have d8 : ¬ (((k : Nat) : Int) = 0) := by omega
          have d7 : ¬ (k = 0) := hkz
          go_wp2
          clear c6 z6 c7' z7 dm dm2 p4 zp o2 zo
          go_loopw [10, 192] (fun v i wr => ∃ j t : Nat, j ≤ k ∧ v = .int .i64 ((t : Nat) : Int) ∧ i = .int .i64 ((j : Nat) : Int) ∧ Hid (frAt sN st j = ((t : Nat) : Int) ∧ t < ga.S) ∧ Hid (Below w6.heap.size w6 wr)) (fun _ i _ => k - (intOf i).toNat)
          case atStart => exact ⟨0, sN, by omega, rfl, rfl, Lib.hid ⟨rfl, HSN.out⟩, Lib.hid (Below.refl _ _)⟩
          case round =>
            obtain ⟨j, t, hj, rfl, rfl, HT, HW⟩ := hrel
            by_cases hlt : j < k
            · have hj0 : (0 : Int) ≤ ((j : Nat) : Int) := by omega
              have hj1 : ((j : Nat) : Int) < ((k : Nat) : Int) := by omega
              have hj2 : ((j : Nat) : Int) < ((m : Nat) : Int) := by omega
              obtain ⟨t0, h1, h2, h3, ⟨h4, h5⟩, h6⟩ := HFR.out.step j hlt
              rw [HT.out.1] at h1
              obtain rfl : t = t0 := by omega
              obtain ⟨zb, zo, uI, e7, hb7, hx7, hc7⟩ := (HLR.out.next (below3 B5.out HW.out (Nat.le_refl _))).at_ (show j < m by omega)
              subst e7
              have hub := HLS.out.bd uI (List.mem_of_getElem? hx7)
              obtain ⟨u, rfl⟩ : ∃ z : Nat, uI = (z : Int) := ⟨uI.toNat, by omega⟩
              have hgu : L.getD j 0 = (u : Int) := by rw [List.getD_eq_getElem?_getD, hx7]; rfl
              obtain ⟨sb, so, hI, e8, hb8, hx8, hc8⟩ := (HSH.out.next HW.out).at_ hlt
              subst e8
              have hgh : sh.getD j 0 = hI := by rw [List.getD_eq_getElem?_getD, hx8]; rfl
              rw [hgh] at h4 h5 h6
              obtain ⟨hh, rfl⟩ : ∃ z : Nat, hI = (z : Int) := ⟨hI.toNat, by omega⟩
              obtain ⟨tb, to', n, e9, hb9, hx9, hc9⟩ := (HST.out.next HW.out).at_ hlt
              subst e9
              have hgn : frAt sN st (j + 1) = n := by
                unfold frAt
                rw [if_neg (by omega), Nat.add_sub_cancel, List.getD_eq_getElem?_getD, hx9]
                rfl
              rw [hgu, hgn, Int.toNat_natCast, Int.toNat_natCast] at h6
              have HN1 := Lib.hid h6
              have HNX : Hid ((n = -1 ∧ j + 1 = k) ∨ ∃ t' : Nat, n = (t' : Int) ∧ t' < ga.S ∧ frAt sN st (j + 1) = (t' : Int)) := Lib.hid (by
                by_cases hjk : j + 1 = k
                · rcases HFR.out.cur with h | ⟨t', h, h', _⟩
                  · rw [← hjk, hgn] at h; exact Or.inl ⟨h, hjk⟩
                  · rw [← hjk, hgn] at h; exact Or.inr ⟨t', h, h', hgn.trans h⟩
                · obtain ⟨t', h, h', _⟩ := HFR.out.step (j + 1) (by omega)
                  rw [hgn] at h
                  exact Or.inr ⟨t', h, h', hgn.trans h⟩)
              have HCZ : Hid (zb < wr.heap.size ∧ wr.cell? ⟨zb, zo + j, none⟩ = some (.int .i64 (u : Int))) := Lib.hid ⟨hb7, cellI hc7⟩
              have HCS : Hid (sb < wr.heap.size ∧ wr.cell? ⟨sb, so + j, none⟩ = some (.int .i64 (hh : Int))) := Lib.hid ⟨hb8, cellI hc8⟩
              have cn := cellI hc9
              have zn := block_of_cell cn
              dsimp only at zn
              have HCG : Hid (ab < wr.heap.size ∧ wr.cell? ⟨ab, t, none⟩ = some (.bool true)) := Lib.hid (by
                obtain ⟨b7, o7, y7, e7, hb7, hx7, hc7⟩ := (HG4.out.next (below3 (below3 B4.out B5.out (Nat.le_refl _)) HW.out (Nat.le_refl _))).at_ HT.out.2
                obtain ⟨rfl, rfl⟩ : ab = b7 ∧ 0 = o7 := by simpa using e7
                have hy7 : y7 = true := by
                  have hk7 := h3
                  rw [List.getD_eq_getElem?_getD, hx7] at hk7
                  exact hk7
                subst hy7
                have hc8 := cellB hc7
                rw [Nat.zero_add] at hc8
                exact ⟨hb7, hc8⟩)
              have HQAW := Lib.hid (HQA4.out.below (below3 (below3 B4.out B5.out (Nat.le_refl _)) HW.out (Nat.le_refl _)) HQA4.out.lt)
              have KL := Lib.hid (fun W (h : Below wr.heap.size wr W) => leads_any aN (some ⟨ab, 0, none⟩) an ac ga.S ag ga t u hh W (HA4.out.next' (below3 (below3 (below3 B4.out B5.out (Nat.le_refl _)) HW.out (Nat.le_refl _)) h (Nat.le_refl _))) OA.out HT.out.2 (by omega) (by omega))
              have htS1 : ((t : Nat) : Int) < ((ga.S : Nat) : Int) := by omega
              have ht0 : (0 : Int) ≤ ((t : Nat) : Int) := by omega
              have d0 : decide (((hh : Nat) : Int) < 0) = false := decide_eq_false (by omega)
              have d1' : decide (((ga.H : Nat) : Int) ≤ ((hh : Nat) : Int)) = false := decide_eq_false (by omega)
              have d2' : decide (ga.H ≤ hh) = false := decide_eq_false (by omega)
              have dn : (n == n) = true := beq_self_eq_true _
              clear h1 h2 h3 h4 h5 h6 hub hgu hgh hgn hx7 hx8 hx9 hb7 hb8 hb9 hc7 hc8 hc9
              go_wp2
              clear cn zn
              refine wp_region_free10 36 (by kernel_rfl) [some 197, some 198, some 199, some 200, some 201, some 202, some 203, some 204, some 205, some 206, some 207, some 208, some 209, some 210, some 211, some 212, some 213, some 214, some 215, some 216, some 217, some 218, some 219, some 220, some 221, some 222, some 223, some 224, some 225, some 226, some 227, some 228, some 229, some 230, some 231, some 232, some 233] [[], [0], [], [1, 2], [3], [4], [5], [6], [6], [7, 8, 6], [9, 6], [10, 6], [6, 11], [12, 6], [13], [13], [14, 15, 13], [16, 13], [13], [18, 13], [17, 19, 13], [13, 20], [21, 13], [22], [22], [22], [22], [25, 26, 22], [27, 22], [22], [22], [29, 30, 22], [31, 22], [23, 24, 28, 32, 22, 22], [22], [33, 34, 22], [22, 35]] [(7, .pointer (some ⟨qa, 0, none⟩)), (10, .int .i64 (t : Int)), (18, .slice (some ⟨sb, so, none⟩) k c7), (20, .int .i64 (j : Int)), (17, .slice (some ⟨zb, zo, none⟩) m c9), (21, .int .i64 n)] (fun W _ => Below wr.heap.size wr W) (p36Phi (.agg #[.int .i64 (ga.S : Int), .int .i64 (ga.C : Int), .int .i64 (ga.H : Int), .slice aN an ac, .slice (some ⟨ab, 0, none⟩) ga.S ag]) n qa ab sb so c7 k ga.S ga.H ag zb zo c9 m t u hh j) (fun _ _ _ => True) (by kernel_rfl) (by kernel_rfl) rfl (by kernel_rfl) ?_ ?_ ⟨fun _ => 0, (Below.refl _ _).drew, fun i _ => trivial⟩ ?_ ?_
              · intro z hz
                simp only [List.mem_cons, List.mem_nil_iff, or_false] at hz
                rcases hz with rfl | rfl | rfl | rfl | rfl | rfl
                all_goals exact ⟨by kernel_rfl, rfl⟩
              · intro i v W γ hi h
                rcases i with _ | _ | _ | _ | _ | _ | _ | _ | _ | _ | _ | _ | _ | _ | _ | _ | _ | _ | _ | _ | _ | _ | _ | _ | _ | _ | _ | _ | _ | _ | _ | _ | _ | _ | _ | _ | _ | i
                all_goals first | exact h | (simp at hi)
              · refine ⟨?_, ?_, ?_, ?_, ?_, ?_, ?_, ?_, ?_, ?_, ?_, ?_, ?_, ?_, ?_, ?_, ?_, ?_, ?_, ?_, ?_, ?_, ?_, ?_, ?_, ?_, ?_, ?_, ?_, ?_, ?_, ?_, ?_, ?_, ?_, ?_, ?_, trivial⟩
                all_goals
                  intro a9 W γ ev hcc hff hfx hR hψ hpre
                  simp only [List.mem_cons, List.mem_nil_iff, or_false, forall_eq, forall_eq_or_imp] at hfx
                  obtain ⟨f0, f1, f2, f3, f4, f5⟩ := hfx
                  have HR := Lib.hid hR
                  clear hR
                · refine ⟨fun hg K hK => ?_, trivial⟩
                  clear hg
                  clear hpre hψ
                  go_simp
                  exact hK _ _ γ HR.out (fun _ _ _ _ h => h) (fun _ _ _ h => h) rfl
                · refine ⟨fun hg K hK => ?_, trivial⟩
                  clear hg
                  have q0 : ev (.tmp 197) = _ := hpre 0 (by decide)
                  have hbk := HQAW.out.below (show Below wr.heap.size wr W from HR.out) HQAW.out.lt
                  have hzg := hbk.lt
                  have e4 := hbk.cell 4
                  simp only [List.getElem?_toArray, List.getElem?_cons_zero, List.getElem?_cons_succ] at e4
                  clear hbk
                  clear hpre hψ
                  go_simp
                  exact hK _ _ γ HR.out (fun _ _ _ _ h => h) (fun _ _ _ h => h) rfl
                · refine ⟨fun hg K hK => ?_, trivial⟩
                  clear hg
                  clear hpre hψ
                  go_simp
                  exact hK _ _ γ HR.out (fun _ _ _ _ h => h) (fun _ _ _ h => h) rfl
                · refine ⟨fun hg K hK => ?_, trivial⟩
                  clear hg
                  have q0 : ev (.tmp 198) = _ := hpre 1 (by decide)
                  have q1 : ev (.tmp 199) = _ := hpre 2 (by decide)
                  clear hpre hψ
                  go_simp
                  exact hK _ _ γ HR.out (fun _ _ _ _ h => h) (fun _ _ _ h => h) rfl
                · refine ⟨fun hg K hK => ?_, trivial⟩
                  clear hg
                  have q0 : ev (.tmp 200) = _ := hpre 3 (by decide)
                  have hca := ((show Below wr.heap.size wr W from HR.out).cell (p := ⟨ab, t, none⟩) HCG.out.1).trans HCG.out.2
                  have hza : ab < W.heap.size := block_of_cell hca
                  clear hpre hψ
                  go_simp
                  exact hK _ _ γ HR.out (fun _ _ _ _ h => h) (fun _ _ _ h => h) rfl
                · refine ⟨fun hg K hK => ?_, trivial⟩
                  clear hg
                  have q0 : ev (.tmp 201) = _ := hpre 4 (by decide)
                  clear hpre hψ
                  go_simp
                  exact hK _ _ γ HR.out (fun _ _ _ _ h => h) (fun _ _ _ h => h) rfl
                · refine ⟨fun hg K hK => ?_, trivial⟩
                  clear hg
                  have q0 : ev (.tmp 202) = _ := hpre 5 (by decide)
                  clear hpre hψ
                  go_simp
                  exact hK _ _ γ HR.out (fun _ _ _ _ h => h) (fun _ _ _ h => h) rfl
                · refine ⟨fun hg K hK => ?_, fun hg => (hg (hpre 6 (by decide))).elim⟩
                  clear hg
                  clear hpre hψ
                  go_simp
                  exact hK _ _ γ HR.out (fun _ _ _ _ h => h) (fun _ _ _ h => h) rfl
                · refine ⟨fun hg K hK => ?_, fun hg => (hg (hpre 6 (by decide))).elim⟩
                  clear hg
                  clear hpre hψ
                  go_simp
                  exact hK _ _ γ HR.out (fun _ _ _ _ h => h) (fun _ _ _ h => h) rfl
                · refine ⟨fun hg K hK => ?_, fun hg => (hg (hpre 6 (by decide))).elim⟩
                  clear hg
                  have q0 : ev (.tmp 204) = _ := hpre 7 (by decide)
                  have q1 : ev (.tmp 205) = _ := hpre 8 (by decide)
                  clear hpre hψ
                  go_simp
                  exact hK _ _ γ HR.out (fun _ _ _ _ h => h) (fun _ _ _ h => h) rfl
                · refine ⟨fun hg K hK => ?_, fun hg => (hg (hpre 6 (by decide))).elim⟩
                  clear hg
                  have q0 : ev (.tmp 206) = _ := hpre 9 (by decide)
                  have hca := ((show Below wr.heap.size wr W from HR.out).cell (p := ⟨sb, so + j, none⟩) HCS.out.1).trans HCS.out.2
                  have hza : sb < W.heap.size := block_of_cell hca
                  clear hpre hψ
                  go_simp
                  exact hK _ _ γ HR.out (fun _ _ _ _ h => h) (fun _ _ _ h => h) rfl
                · refine ⟨fun hg K hK => ?_, fun hg => (hg (hpre 6 (by decide))).elim⟩
                  clear hg
                  have q0 : ev (.tmp 207) = _ := hpre 10 (by decide)
                  clear hpre hψ
                  go_simp
                  exact hK _ _ γ HR.out (fun _ _ _ _ h => h) (fun _ _ _ h => h) rfl
                · refine ⟨fun hg K hK => ?_, trivial⟩
                  clear hg
                  have q0 : ev (.tmp 203) = _ := hpre 6 (by decide)
                  have q1 : ev (.tmp 208) = _ := hpre 11 (by decide)
                  clear hpre hψ
                  go_simp
                  exact hK _ _ γ HR.out (fun _ _ _ _ h => h) (fun _ _ _ h => h) rfl
                · refine ⟨fun hg K hK => ?_, trivial⟩
                  clear hg
                  have q0 : ev (.tmp 209) = _ := hpre 12 (by decide)
                  clear hpre hψ
                  go_simp
                  exact hK _ _ γ HR.out (fun _ _ _ _ h => h) (fun _ _ _ h => h) rfl
                · refine ⟨fun hg K hK => ?_, fun hg => (hg (hpre 13 (by decide))).elim⟩
                  clear hg
                  clear hpre hψ
                  go_simp
                  exact hK _ _ γ HR.out (fun _ _ _ _ h => h) (fun _ _ _ h => h) rfl
                · refine ⟨fun hg K hK => ?_, fun hg => (hg (hpre 13 (by decide))).elim⟩
                  clear hg
                  clear hpre hψ
                  go_simp
                  exact hK _ _ γ HR.out (fun _ _ _ _ h => h) (fun _ _ _ h => h) rfl
                · refine ⟨fun hg K hK => ?_, fun hg => (hg (hpre 13 (by decide))).elim⟩
                  clear hg
                  have q0 : ev (.tmp 211) = _ := hpre 14 (by decide)
                  have q1 : ev (.tmp 212) = _ := hpre 15 (by decide)
                  clear hpre hψ
                  go_simp
                  exact hK _ _ γ HR.out (fun _ _ _ _ h => h) (fun _ _ _ h => h) rfl
                · refine ⟨fun hg K hK => ?_, fun hg => (hg (hpre 13 (by decide))).elim⟩
                  clear hg
                  have q0 : ev (.tmp 213) = _ := hpre 16 (by decide)
                  have hca := ((show Below wr.heap.size wr W from HR.out).cell (p := ⟨sb, so + j, none⟩) HCS.out.1).trans HCS.out.2
                  have hza : sb < W.heap.size := block_of_cell hca
                  clear hpre hψ
                  go_simp
                  exact hK _ _ γ HR.out (fun _ _ _ _ h => h) (fun _ _ _ h => h) rfl
                · refine ⟨fun hg K hK => ?_, fun hg => (hg (hpre 13 (by decide))).elim⟩
                  clear hg
                  clear hpre hψ
                  go_simp
                  exact hK _ _ γ HR.out (fun _ _ _ _ h => h) (fun _ _ _ h => h) rfl
                · refine ⟨fun hg K hK => ?_, fun hg => (hg (hpre 13 (by decide))).elim⟩
                  clear hg
                  have q0 : ev (.tmp 215) = _ := hpre 18 (by decide)
                  have hbk := HQAW.out.below (show Below wr.heap.size wr W from HR.out) HQAW.out.lt
                  have hzg := hbk.lt
                  have e2 := hbk.cell 2
                  simp only [List.getElem?_toArray, List.getElem?_cons_zero, List.getElem?_cons_succ] at e2
                  clear hbk
                  clear hpre hψ
                  go_simp
                  exact hK _ _ γ HR.out (fun _ _ _ _ h => h) (fun _ _ _ h => h) rfl
                · refine ⟨fun hg K hK => ?_, fun hg => (hg (hpre 13 (by decide))).elim⟩
                  clear hg
                  have q0 : ev (.tmp 214) = _ := hpre 17 (by decide)
                  have q1 : ev (.tmp 216) = _ := hpre 19 (by decide)
                  clear hpre hψ
                  go_simp
                  exact hK _ _ γ HR.out (fun _ _ _ _ h => h) (fun _ _ _ h => h) rfl
                · refine ⟨fun hg K hK => ?_, trivial⟩
                  clear hg
                  have q0 : ev (.tmp 210) = _ := hpre 13 (by decide)
                  have q1 : ev (.tmp 217) = _ := hpre 20 (by decide)
                  clear hpre hψ
                  go_simp
                  exact hK _ _ γ HR.out (fun _ _ _ _ h => h) (fun _ _ _ h => h) rfl
                · refine ⟨fun hg K hK => ?_, trivial⟩
                  clear hg
                  have q0 : ev (.tmp 218) = _ := hpre 21 (by decide)
                  clear hpre hψ
                  go_simp
                  exact hK _ _ γ HR.out (fun _ _ _ _ h => h) (fun _ _ _ h => h) rfl
                · refine ⟨fun hg K hK => ?_, fun hg => (hg (hpre 22 (by decide))).elim⟩
                  clear hg
                  have hbk := HQAW.out.below (show Below wr.heap.size wr W from HR.out) HQAW.out.lt
                  have hzg := hbk.lt
                  have e0 := hbk.cell 0
                  have e1 := hbk.cell 1
                  have e2 := hbk.cell 2
                  have e3 := hbk.cell 3
                  have e4 := hbk.cell 4
                  simp only [List.getElem?_toArray, List.getElem?_cons_zero, List.getElem?_cons_succ] at e0 e1 e2 e3 e4
                  clear hbk
                  clear hpre hψ
                  go_simp
                  exact hK _ _ γ HR.out (fun _ _ _ _ h => h) (fun _ _ _ h => h) rfl
                · refine ⟨fun hg K hK => ?_, fun hg => (hg (hpre 22 (by decide))).elim⟩
                  clear hg
                  clear hpre hψ
                  go_simp
                  exact hK _ _ γ HR.out (fun _ _ _ _ h => h) (fun _ _ _ h => h) rfl
                · refine ⟨fun hg K hK => ?_, fun hg => (hg (hpre 22 (by decide))).elim⟩
                  clear hg
                  clear hpre hψ
                  go_simp
                  exact hK _ _ γ HR.out (fun _ _ _ _ h => h) (fun _ _ _ h => h) rfl
                · refine ⟨fun hg K hK => ?_, fun hg => (hg (hpre 22 (by decide))).elim⟩
                  clear hg
                  clear hpre hψ
                  go_simp
                  exact hK _ _ γ HR.out (fun _ _ _ _ h => h) (fun _ _ _ h => h) rfl
                · refine ⟨fun hg K hK => ?_, fun hg => (hg (hpre 22 (by decide))).elim⟩
                  clear hg
                  have q0 : ev (.tmp 222) = _ := hpre 25 (by decide)
                  have q1 : ev (.tmp 223) = _ := hpre 26 (by decide)
                  clear hpre hψ
                  go_simp
                  exact hK _ _ γ HR.out (fun _ _ _ _ h => h) (fun _ _ _ h => h) rfl
                · refine ⟨fun hg K hK => ?_, fun hg => (hg (hpre 22 (by decide))).elim⟩
                  clear hg
                  have q0 : ev (.tmp 224) = _ := hpre 27 (by decide)
                  have hca := ((show Below wr.heap.size wr W from HR.out).cell (p := ⟨zb, zo + j, none⟩) HCZ.out.1).trans HCZ.out.2
                  have hza : zb < W.heap.size := block_of_cell hca
                  clear hpre hψ
                  go_simp
                  exact hK _ _ γ HR.out (fun _ _ _ _ h => h) (fun _ _ _ h => h) rfl
                · refine ⟨fun hg K hK => ?_, fun hg => (hg (hpre 22 (by decide))).elim⟩
                  clear hg
                  clear hpre hψ
                  go_simp
                  exact hK _ _ γ HR.out (fun _ _ _ _ h => h) (fun _ _ _ h => h) rfl
                · refine ⟨fun hg K hK => ?_, fun hg => (hg (hpre 22 (by decide))).elim⟩
                  clear hg
                  clear hpre hψ
                  go_simp
                  exact hK _ _ γ HR.out (fun _ _ _ _ h => h) (fun _ _ _ h => h) rfl
                · refine ⟨fun hg K hK => ?_, fun hg => (hg (hpre 22 (by decide))).elim⟩
                  clear hg
                  have q0 : ev (.tmp 226) = _ := hpre 29 (by decide)
                  have q1 : ev (.tmp 227) = _ := hpre 30 (by decide)
                  clear hpre hψ
                  go_simp
                  exact hK _ _ γ HR.out (fun _ _ _ _ h => h) (fun _ _ _ h => h) rfl
                · refine ⟨fun hg K hK => ?_, fun hg => (hg (hpre 22 (by decide))).elim⟩
                  clear hg
                  have q0 : ev (.tmp 228) = _ := hpre 31 (by decide)
                  have hca := ((show Below wr.heap.size wr W from HR.out).cell (p := ⟨sb, so + j, none⟩) HCS.out.1).trans HCS.out.2
                  have hza : sb < W.heap.size := block_of_cell hca
                  clear hpre hψ
                  go_simp
                  exact hK _ _ γ HR.out (fun _ _ _ _ h => h) (fun _ _ _ h => h) rfl
                · refine ⟨fun hg K hK => ?_, fun hg => (hg (hpre 22 (by decide))).elim⟩
                  clear hg
                  have q0 : ev (.tmp 220) = _ := hpre 23 (by decide)
                  have q1 : ev (.tmp 221) = _ := hpre 24 (by decide)
                  have q2 : ev (.tmp 225) = _ := hpre 28 (by decide)
                  have q3 : ev (.tmp 229) = _ := hpre 32 (by decide)
                  have C := Lib.hid (KL.out W (show Below wr.heap.size wr W from HR.out))
                  have HRW9 : Hid (Below wr.heap.size wr W) := HR
                  clear hpre hψ
                  go_simp
                  refine C.out.mono ?_
                  rintro e9 w5x ⟨x9, rfl, hx9, hB5⟩
                  rw [HN1.out] at hx9
                  obtain rfl := Option.some.inj hx9
                  exact hK _ w5x γ (below3 HRW9.out hB5 (Nat.le_refl _)) (fun j u _ _ h => p36Phi_w h) (fun _ _ _ h => h) rfl
                · refine ⟨fun hg K hK => ?_, fun hg => (hg (hpre 22 (by decide))).elim⟩
                  clear hg
                  clear hpre hψ
                  go_simp
                  exact hK _ _ γ HR.out (fun _ _ _ _ h => h) (fun _ _ _ h => h) rfl
                · refine ⟨fun hg K hK => ?_, fun hg => (hg (hpre 22 (by decide))).elim⟩
                  clear hg
                  have q0 : ev (.tmp 230) = _ := hpre 33 (by decide)
                  have q1 : ev (.tmp 231) = _ := hpre 34 (by decide)
                  clear hpre hψ
                  go_simp
                  exact hK _ _ γ HR.out (fun _ _ _ _ h => h) (fun _ _ _ h => h) rfl
                · refine ⟨fun hg K hK => ?_, trivial⟩
                  clear hg
                  have q0 : ev (.tmp 219) = _ := hpre 22 (by decide)
                  have q1 : ev (.tmp 232) = _ := hpre 35 (by decide)
                  clear hpre hψ
                  go_simp
                  exact hK _ _ γ HR.out (fun _ _ _ _ h => h) (fun _ _ _ h => h) rfl
              · intro vs wy γ hvl hR hφ
                have q36 := hφ 36 (by decide)
                have HR := Lib.hid hR
                clear hφ hR
                obtain ⟨y0, y1, y2, y3, y4, y5, y6, y7, vs1, hvl1, rfl⟩ := cut8 (n := 29) hvl
                match vs1, hvl1 with
                | [y8, y9, y10, y11, y12, y13, y14, y15, y16, y17, y18, y19, y20, y21, y22, y23, y24, y25, y26, y27, y28, y29, y30, y31, y32, y33, y34, y35, y36], _ =>
                simp only [List.getD_cons_zero, List.getD_cons_succ] at q36
                obtain rfl : y36 = _ := q36
                have HN : Hid (Below w6.heap.size w6 wy) := Lib.hid (below3 HW.out HR.out (Nat.le_refl _))
                clear HR
                simp [putAll]
                rcases HNX.out with ⟨rfl, hjk⟩ | ⟨t', rfl, h', h''⟩
                · have wk : IntKind.i64.wrap (((k : Nat) : Int) - 1) = ((j : Nat) : Int) := by rw [show ((k : Nat) : Int) - 1 = ((j : Nat) : Int) by omega]; exact IntWalk.i64_in _ (by omega)
                  have dj : (((j : Nat) : Int) == ((j : Nat) : Int)) = true := beq_self_eq_true _
                  have hBl := HN.out
                  have B6 : Hid (Below w6.heap.size w6 wy) := Lib.hid hBl
                  clear hBl
                  go_wp2_with fail
                  refine (KA.out _).mono ?_
                  rintro e w90 ⟨rfl, hB⟩
                  have B7 : Hid (Below wy.heap.size wy w90) := Lib.hid hB
                  clear hB
                  go_wp2
                  go_ret
                  exact ⟨rfl, (below3 (below3 (below3 (below3 (below3 (below3 (below3 B0.out B1.out (Nat.le_refl _)) B2.out (Nat.le_refl _)) B3.out (Nat.le_refl _)) B4.out (Nat.le_refl _)) B5.out (Nat.le_refl _)) B6.out (Nat.le_refl _)) B7.out (Nat.le_refl _))⟩
                · have d5 : decide (((t' : Nat) : Int) < 0) = false := decide_eq_false (by omega)
                  have d6 : ¬ (((t' : Nat) : Int) < 0) := by omega
                  go_wp2
                  go_roundw
                  case rel => exact ⟨j + 1, t', by omega, rfl, by go_num, Lib.hid ⟨h'', h'⟩, HN⟩
                  case measure => simp [intOf]; omega
            · obtain rfl : k = j := by omega
              obtain ⟨wB, hwB⟩ : ∃ z, z = wr := ⟨wr, rfl⟩
              subst hwB
              have hBl := HW.out
              have B6 : Hid (Below w6.heap.size w6 wB) := Lib.hid hBl
              clear hBl
              have hgt : ga.good.getD t false = false := by
                have h := HOV.out
                rw [HT.out.1, over_nat] at h
                simpa using h
              have HC8 : Hid (ab < wB.heap.size ∧ wB.cell? ⟨ab, t, none⟩ = some (.bool false)) := Lib.hid (by
                obtain ⟨b7, o7, y7, e7, hb7, hx7, hc7⟩ := (HG4.out.next (below3 (below3 B4.out B5.out (Nat.le_refl _)) B6.out (Nat.le_refl _))).at_ HT.out.2
                obtain ⟨rfl, rfl⟩ : ab = b7 ∧ 0 = o7 := by simpa using e7
                have hy7 : y7 = false := by
                  have hk7 := hgt
                  rw [List.getD_eq_getElem?_getD, hx7] at hk7
                  exact hk7
                subst hy7
                have hc8 := cellB hc7
                rw [Nat.zero_add] at hc8
                exact ⟨hb7, hc8⟩)
              have c8' := HC8.out.2
              have z8 := HC8.out.1
              have ht0 : (0 : Int) ≤ ((t : Nat) : Int) := by omega
              have ht1 : ((t : Nat) : Int) < ((ga.S : Nat) : Int) := by have := HT.out.2; omega
              have hbk := QA.out.below (below3 (below3 (below3 (below3 B2.out B3.out (Nat.le_refl _)) B4.out (Nat.le_refl _)) B5.out (Nat.le_refl _)) B6.out (Nat.le_refl _)) QA.out.lt
              have p4 := hbk.cell 4
              simp only [List.getElem?_toArray, List.getElem?_cons_zero, List.getElem?_cons_succ] at p4
              have zp := hbk.lt
              clear hbk
              go_wp2_with fail
              refine (KA.out _).mono ?_
              rintro e w90 ⟨rfl, hB⟩
              have B7 : Hid (Below wB.heap.size wB w90) := Lib.hid hB
              clear hB
              go_wp2
              go_ret
              exact ⟨rfl, (below3 (below3 (below3 (below3 (below3 (below3 (below3 B0.out B1.out (Nat.le_refl _)) B2.out (Nat.le_refl _)) B3.out (Nat.le_refl _)) B4.out (Nat.le_refl _)) B5.out (Nat.le_refl _)) B6.out (Nat.le_refl _)) B7.out (Nat.le_refl _))⟩
  · go_wp2_with fail
    obtain ⟨qp, hqp⟩ : ∃ z, z = w3.heap.size := ⟨_, rfl⟩
    obtain ⟨w4, hw4⟩ : ∃ z, z = w3.alloc (.cells #[.slice (some ⟨i1, 0, none⟩) ga.S d1, .slice (some ⟨ff, 0, none⟩) ga.S ga.S, .slice (some ⟨r1, 0, none⟩) ga.S ga.S] 27) := ⟨_, rfl⟩
    have QP : Hid (Blk w4 qp 27 #[.slice (some ⟨i1, 0, none⟩) ga.S d1, .slice (some ⟨ff, 0, none⟩) ga.S ga.S, .slice (some ⟨r1, 0, none⟩) ga.S ga.S]) := Lib.hid (by rw [hw4, hqp]; exact heap_alloc_new w3 _)
    have Sw4 : Hid (w4.heap.size = qp + 1) := Lib.hid (by rw [hw4, hqp, World.size_alloc])
    have Zqp : Hid (w3.heap.size ≤ qp) := Lib.hid (by rw [hqp]; exact Nat.le_refl _)
    have hBn : Below w3.heap.size w3 w4 := by rw [hw4]; exact (Below.refl _ _).alloc (Nat.le_refl _) _
    rw [← hw4, ← hqp]
    have B3 : Hid (Below w3.heap.size w3 w4) := Lib.hid hBn
    clear hw4 hqp hBn
    obtain ⟨dx, hdx⟩ : ∃ z, z = qp + 1 := ⟨_, rfl⟩
    obtain ⟨w5, hw5⟩ : ∃ z, z = w4.alloc (.cells #[.slice A2 n2 c2, .int .i64 0] 60) := ⟨_, rfl⟩
    have DX : Hid (Blk w5 dx 60 #[.slice A2 n2 c2, .int .i64 0]) := Lib.hid (by have e2 := heap_alloc_new w4 (.cells #[.slice A2 n2 c2, .int .i64 0] 60); rw [Sw4.out] at e2; rw [hw5, hdx]; exact e2)
    have Sw5 : Hid (w5.heap.size = dx + 1) := Lib.hid (by rw [hw5, hdx, World.size_alloc, Sw4.out])
    have Zdx : Hid (w4.heap.size = dx) := Lib.hid (by rw [Sw4.out, hdx])
    have hBn : Below w4.heap.size w4 w5 := by rw [hw5]; exact (Below.refl _ _).alloc (Nat.le_refl _) _
    rw [← hw5, ← hdx]
    have B4 : Hid (Below w4.heap.size w4 w5) := Lib.hid hBn
    clear hw5 hdx hBn
    have HLOW : Hid (Below w4.heap.size w4 w5) := B4
    have HDB : Hid (w4.heap.size ≤ dx) := Lib.hid (Nat.le_of_eq Zdx.out)
    have HQA4 := Lib.hid (QA.out.below (below3 B2.out B3.out (Nat.le_refl _)) QA.out.lt)
    have HA4 := Lib.hid (IA.out.next' (below3 (below3 B1.out B2.out (Nat.le_refl _)) B3.out (Nat.le_refl _)))
    have HG4 := Lib.hid (IA.out.good.next (below3 (below3 B1.out B2.out (Nat.le_refl _)) B3.out (Nat.le_refl _)))
    have HI4 := Lib.hid (RR.out.1.next B3.out)
    have HC4 := Lib.hid (RR.out.2.1.next B3.out)
    have HR4 := Lib.hid (RR.out.2.2.next B3.out)
    have KN := Lib.hid (fun (W : World) (i : Nat) (hd : Blk W dx 60 #[.slice A2 n2 c2, .int .i64 (i : Int)]) (hW : Below w4.heap.size w4 W) (hi : i ≤ 1000000) => next_int dx n2 c2 w.heap.size i (ga.H : Int) A2 l2 W hd (H2.out.below (below3 (below3 (below3 (below3 B0.out B1.out (Nat.le_refl _)) B2.out (Nat.le_refl _)) B3.out (Nat.le_refl _)) hW (Nat.le_refl _))) (Nat.le_trans ((below3 (below3 (below3 B0.out B1.out (Nat.le_refl _)) B2.out (Nat.le_refl _)) B3.out (Nat.le_refl _))).size HDB.out) U2.out hi (by have h1 := OA.out.h0; have h2 := OA.out.h1; omega))
    clear p0 zp cx5 zx5 g1
    go_wp2
    go_loopw [12, 52] (fun v i wr => ∃ k L vv, v = vv ∧ k ≤ 40 ∧ i = .int .i64 ((k : Nat) : Int) ∧ Hid (LsI w4 dx (.slice A2 n2 c2) ga.H vv k L wr)) (fun _ i _ => 40 - (intOf i).toNat)
    case atStart => exact ⟨0, [], _, rfl, by omega, rfl, Lib.hid ⟨HLOW.out, ⟨0, Nat.le_refl _, DX.out⟩, World.ownsRow_nil _ _ _ _, rfl, fun y h => (by simp at h)⟩⟩
    case round =>
      obtain ⟨k, L, vv, hvv, hk, rfl, HLS⟩ := hrel
      obtain rfl := hvv.symm
      by_cases hlt : k < 40
      · have hk4 : k ≤ 400 := by omega
        have hk1 : ((k : Nat) : Int) < ((40 : Nat) : Int) := by omega
        have hbk := HQA4.out.below HLS.out.low HQA4.out.lt
        have p2 := hbk.cell 2
        have zp := hbk.lt
        simp only [List.getElem?_toArray, List.getElem?_cons_zero, List.getElem?_cons_succ] at p2
        clear hbk
        obtain ⟨i9, hi9, hd9⟩ := HLS.out.dig
        have C := Lib.hid (KN.out wr i9 hd9 HLS.out.low (by omega))
        have HI9 := Lib.hid (And.intro hi9 hd9)
        clear hi9 hd9
        go_wp2_with fail
        refine C.out.mono ?_
        rintro e wx ⟨r9, rfl, hr9, hk5, hb5⟩
        have hB5 : Below w4.heap.size wr wx := hk5.below HLS.out.low.size (fun b e => by rw [e]; exact HDB.out)
        have HX : Hid (Below w4.heap.size w4 wx) := Lib.hid (HLS.out.low.trans hB5)
        have HROW : Hid (wx.ownsRow w4.heap.size 3 1 vv k (L.flatMap encI)) := Lib.hid (HLS.out.row.kept (keep_grown hk5) (Or.inr (own_ne HLS.out.row HI9.out.2 (by decide)).symm))
        have HDG := Lib.hid hb5
        have HRB9 := Lib.hid hr9
        have hsz := HX.out.size
        clear hk5 hb5 hB5 hr9 C p2 zp
        go_wp2_with (at_builtin; refine wpList_append_own_at _ rfl (.tmp 54) (.tmp 59) 22 rfl w4.heap.size 3 i0 (.int .i64 0) 1 8 Try.underlying22 hi.out.1 hi.out.2.1 hi.out.2.2.1 hi.out.2.2.2 rfl (by decide) vv k (L.flatMap encI) rfl (HROW.out.alloc _) ⟨wx.heap.size, 0, none⟩ 1 1 [.int .i64 r9] rfl rfl (cell_one_new _ _ _) ?_ ?_ ?_ ?_ ?_)
        case _ => (intro u hu; simp only [List.mem_cons, List.mem_nil_iff, or_false] at hu; subst hu; rfl)
        case _ => simp only [maxLen]; omega
        case _ => omega
        case _ => simp; omega
        intro v' wy hown hg8 _ _
        obtain ⟨A9, c9, rfl⟩ := row_slice hown
        have hBa : Below wx.heap.size wx (wx.alloc (.cells #[.int .i64 r9] 3)) := (Below.refl _ _).alloc (Nat.le_refl _) _
        have hr1 := row_next HROW.out hBa
        have hd1 := HDG.out.below hBa HDG.out.lt
        have hl1 := below3 HX.out hBa (Nat.le_refl _)
        have hl2 := hl1.trans ((Below.refl _ _).grown hg8 hl1.size (fun r e => (World.ownsRow.lt hr1 r e).1))
        have HN : Hid (LsI w4 dx (.slice A2 n2 c2) ga.H (.slice A9 (k + 1) c9) (k + 1) (L ++ [r9]) wy) := Lib.hid ⟨hl2, ⟨i9 + 1, by have := HI9.out.1; omega, hd1.kept hg8 (own_ne hr1 hd1 (by decide))⟩, by rw [List.flatMap_append]; exact hown, by rw [List.length_append, HLS.out.len]; rfl, all_snoc2 HLS.out.bd HRB9.out⟩
        clear hown hg8 hBa hr1 hd1 hl1 hl2
        go_wp2
        go_roundw
        case rel => exact ⟨k + 1, L ++ [r9], _, rfl, by omega, by go_num, HN⟩
        case measure => simp [intOf]; omega
      · obtain rfl : k = 40 := by omega
        obtain ⟨A9, c9, rfl⟩ := row_slice HLS.out.row
        obtain ⟨wA, hwA⟩ : ∃ z, z = wr := ⟨wr, rfl⟩
        subst hwA
        have hBl := HLS.out.low
        have B4 : Hid (Below w4.heap.size w4 wA) := Lib.hid hBl
        clear hBl
        have HLR : Hid (Rd wA wA.heap.size 1 encI A9 40 L) := Lib.hid (row_rd (f := encI) (size := 1) (fun _ => rfl) HLS.out.len HLS.out.row)
        have KP := Lib.hid (Play_ok aN an ac ab 0 ag i1 0 d1 ff 0 ga.S r1 0 ga.S ga inn ctl rnk sN 40 c9 A9 L wA (HA4.out.next' B4.out) OA.out (HI4.out.next B4.out) (HC4.out.next B4.out) (HR4.out.next B4.out) HRT.out HSN.out HIV.out HLR.out HLS.out.bd (by omega))
        have hbk := QA.out.below (below3 (below3 B2.out B3.out (Nat.le_refl _)) B4.out (Nat.le_refl _)) QA.out.lt
        have p0 := hbk.cell 0
        have p1 := hbk.cell 1
        have p2 := hbk.cell 2
        have p3 := hbk.cell 3
        have p4 := hbk.cell 4
        simp only [List.getElem?_toArray, List.getElem?_cons_zero, List.getElem?_cons_succ] at p0 p1 p2 p3 p4
        have zp := hbk.lt
        clear hbk
        have hbk := QP.out.below B4.out QP.out.lt
        have o0 := hbk.cell 0
        have o1 := hbk.cell 1
        have o2 := hbk.cell 2
        simp only [List.getElem?_toArray, List.getElem?_cons_zero, List.getElem?_cons_succ] at o0 o1 o2
        have zo := hbk.lt
        clear hbk
        go_wp2_with fail
        refine (KP.out).mono ?_
        rintro e w6 ⟨lb, rfl, hlb, hB⟩
        have B5 : Hid (Below wA.heap.size wA w6) := Lib.hid hB
        clear hB
        have HLB : Hid (Rd w6 w6.heap.size 1 encI (some ⟨lb, 0, none⟩) 40 (plF ga ctl sN L)) := Lib.hid (by have h := hlb.rdI; rw [plF_len, HLS.out.len] at h; exact h)
        clear hlb p0 p1 p2 p3 p4 zp o0 o1 o2 zo KP KN
        go_wp2
        go_loopw [10, 81] (fun v i wr => ∃ k : Nat, k ≤ 40 ∧ v = .int .i64 ((lsF ga ctl sN (L.take k) : Nat) : Int) ∧ i = .int .i64 ((k : Nat) : Int) ∧ Hid (lsF ga ctl sN (L.take k) < ga.S ∧ inn.getD (lsF ga ctl sN (L.take k)) false = true) ∧ Hid (Below w6.heap.size w6 wr)) (fun _ i _ => 40 - (intOf i).toNat)
        case atStart => exact ⟨0, by omega, rfl, rfl, Lib.hid ⟨HSN.out, HIV.out⟩, Lib.hid (Below.refl _ _)⟩
        case round =>
          obtain ⟨k, hk, rfl, rfl, HT, HW⟩ := hrel
          by_cases hlt : k < 40
          · have hk0 : (0 : Int) ≤ ((k : Nat) : Int) := by omega
            have hk1 : ((k : Nat) : Int) < ((40 : Nat) : Int) := by omega
            have hk2 : ((k : Nat) : Int) < 40 := by omega
            obtain ⟨t, ht⟩ : ∃ z, z = lsF ga ctl sN (L.take k) := ⟨_, rfl⟩
            obtain ⟨sb, so, hI, e8, hb8, hLk, hc8⟩ := (HLR.out.next (below3 B5.out HW.out (Nat.le_refl _))).at_ hlt
            subst e8
            have hhb := HLS.out.bd hI (List.mem_of_getElem? hLk)
            obtain ⟨hn, rfl⟩ : ∃ z : Nat, hI = (z : Int) := ⟨hI.toNat, by omega⟩
            have hpl := plF_get ga ctl sN L k _ hLk
            have hHT := HT.out
            rw [← ht] at hpl hHT
            obtain ⟨c, hc, hcC, hgt, hall⟩ := right_in OA.out HRT.out hHT.1 hHT.2
            obtain ⟨n, hn1, hnS, hni⟩ := hall hn (by omega)
            obtain ⟨_, _, _, hgn, _⟩ := right_in OA.out HRT.out hnS hni
            have hnx : nxF ga ctl t (hn : Int) = (n : Int) := by
              unfold nxF
              rw [hc, Int.toNat_natCast, Int.toNat_natCast, List.getD_eq_getElem?_getD, hn1]
              rfl
            rw [hnx] at hpl
            have HLS2 : Hid (lsF ga ctl sN (L.take (k + 1)) = n) := Lib.hid (by
              rw [List.take_add_one, hLk, show (some (hn : Int)).toList = [(hn : Int)] from rfl, lsF_snoc, ← ht, hnx, Int.toNat_natCast])
            have HN1 := Lib.hid hn1
            have HNT : Hid (n < ga.S ∧ inn.getD n false = true) := Lib.hid ⟨hnS, hni⟩
            have HCL : Hid (sb < wr.heap.size ∧ wr.cell? ⟨sb, so + k, none⟩ = some (.int .i64 (hn : Int))) := Lib.hid ⟨hb8, cellI hc8⟩
            obtain ⟨b9, o9, y9, e9, hb9, hx9, hc9⟩ := (HLB.out.next HW.out).at_ hlt
            obtain ⟨rfl, rfl⟩ : lb = b9 ∧ 0 = o9 := by simpa using e9
            rw [hpl] at hx9
            obtain rfl := Option.some.inj hx9
            have cn := cellI hc9
            rw [Nat.zero_add] at cn
            have zn := block_of_cell cn
            dsimp only at zn
            have HCI : Hid (i1 < wr.heap.size ∧ wr.cell? ⟨i1, n, none⟩ = some (.bool true)) := Lib.hid (by
              obtain ⟨b7, o7, y7, e7, hb7, hx7, hc7⟩ := (HI4.out.next (below3 (below3 B4.out B5.out (Nat.le_refl _)) HW.out (Nat.le_refl _))).at_ hnS
              obtain ⟨rfl, rfl⟩ : i1 = b7 ∧ 0 = o7 := by simpa using e7
              have hy7 : y7 = true := by
                have hk7 := hni
                rw [List.getD_eq_getElem?_getD, hx7] at hk7
                exact hk7
              subst hy7
              have hc8 := cellB hc7
              rw [Nat.zero_add] at hc8
              exact ⟨hb7, hc8⟩)
            have HCG : Hid (ab < wr.heap.size ∧ wr.cell? ⟨ab, n, none⟩ = some (.bool true)) := Lib.hid (by
              obtain ⟨b7, o7, y7, e7, hb7, hx7, hc7⟩ := (HG4.out.next (below3 (below3 B4.out B5.out (Nat.le_refl _)) HW.out (Nat.le_refl _))).at_ hnS
              obtain ⟨rfl, rfl⟩ : ab = b7 ∧ 0 = o7 := by simpa using e7
              have hy7 : y7 = true := by
                have hk7 := hgn
                rw [List.getD_eq_getElem?_getD, hx7] at hk7
                exact hk7
              subst hy7
              have hc8 := cellB hc7
              rw [Nat.zero_add] at hc8
              exact ⟨hb7, hc8⟩)
            have HCC : Hid (ff < wr.heap.size ∧ wr.cell? ⟨ff, t, none⟩ = some (.int .i64 (c : Int))) := Lib.hid (by
              obtain ⟨b7, o7, y7, e7, hb7, hx7, hc7⟩ := (HC4.out.next (below3 (below3 B4.out B5.out (Nat.le_refl _)) HW.out (Nat.le_refl _))).at_ hHT.1
              obtain ⟨rfl, rfl⟩ : ff = b7 ∧ 0 = o7 := by simpa using e7
              have hy7 : y7 = (c : Int) := by
                have hk7 := hc
                rw [List.getD_eq_getElem?_getD, hx7] at hk7
                exact hk7
              subst hy7
              have hc8 := cellI hc7
              rw [Nat.zero_add] at hc8
              exact ⟨hb7, hc8⟩)
            have HQAW := Lib.hid (HQA4.out.below (below3 (below3 B4.out B5.out (Nat.le_refl _)) HW.out (Nat.le_refl _)) HQA4.out.lt)
            have HQPW := Lib.hid (QP.out.below (below3 (below3 B4.out B5.out (Nat.le_refl _)) HW.out (Nat.le_refl _)) QP.out.lt)
            have KL := Lib.hid (fun W (h : Below wr.heap.size wr W) => leads_any aN (some ⟨ab, 0, none⟩) an ac ga.S ag ga t c hn W (HA4.out.next' (below3 (below3 (below3 B4.out B5.out (Nat.le_refl _)) HW.out (Nat.le_refl _)) h (Nat.le_refl _))) OA.out hHT.1 hcC (by omega))
            have hnS1 : ((n : Nat) : Int) < (ga.S : Int) := by omega
            have hn0 : (0 : Int) ≤ ((n : Nat) : Int) := by omega
            have htS1 : ((t : Nat) : Int) < (ga.S : Int) := by have := hHT.1; omega
            have ht0 : (0 : Int) ≤ ((t : Nat) : Int) := by omega
            have d0 : decide (((n : Nat) : Int) < 0) = false := decide_eq_false (by omega)
            have dn : (((n : Nat) : Int) == ((n : Nat) : Int)) = true := beq_self_eq_true _
            clear hc hcC hgt hall hn1 hni hgn hnx hpl hhb hLk hc8 hb8 hc9 hb9 hx9 e9 hHT
            rw [← ht]
            clear ht
            go_wp2
            clear cn zn
            refine wp_region_free10 33 (by kernel_rfl) [some 86, some 87, some 88, some 89, some 90, some 91, some 92, some 93, some 94, some 95, some 96, some 97, some 98, some 99, some 100, some 101, some 102, some 103, some 104, some 105, some 106, some 107, some 108, some 109, some 110, some 111, some 112, some 113, some 114, some 115, some 116, some 117, some 118, some 119] [[], [0], [1], [2], [3, 2], [2], [4, 5, 2], [6, 2], [7, 2], [2, 8], [9, 2], [10], [11, 10], [10], [12, 13, 10], [14, 10], [15, 10], [10, 16], [17, 10], [18], [18], [18], [21, 18], [18], [22, 23, 18], [24, 18], [18], [18], [26, 27, 18], [28, 18], [19, 20, 25, 29, 18, 18], [18], [30, 31, 18], [18, 32]] [(16, .int .i64 (n : Int)), (8, .pointer (some ⟨qp, 0, none⟩)), (7, .pointer (some ⟨qa, 0, none⟩)), (10, .int .i64 (t : Int)), (15, .int .i64 (k : Int)), (12, .slice (some ⟨sb, so, none⟩) 40 c9)] (fun W _ => Below wr.heap.size wr W) (p19Phi (.agg #[.int .i64 (ga.S : Int), .int .i64 (ga.C : Int), .int .i64 (ga.H : Int), .slice aN an ac, .slice (some ⟨ab, 0, none⟩) ga.S ag]) qp qa i1 ab ff sb so c9 40 ga.S d1 ag n t c hn k) (fun _ _ _ => True) (by kernel_rfl) (by kernel_rfl) rfl (by kernel_rfl) ?_ ?_ ⟨fun _ => 0, (Below.refl _ _).drew, fun i _ => trivial⟩ ?_ ?_
            · intro z hz
              simp only [List.mem_cons, List.mem_nil_iff, or_false] at hz
              rcases hz with rfl | rfl | rfl | rfl | rfl | rfl
              all_goals exact ⟨by kernel_rfl, rfl⟩
            · intro i v W γ hi h
              rcases i with _ | _ | _ | _ | _ | _ | _ | _ | _ | _ | _ | _ | _ | _ | _ | _ | _ | _ | _ | _ | _ | _ | _ | _ | _ | _ | _ | _ | _ | _ | _ | _ | _ | _ | i
              all_goals first | exact h | (simp at hi)
            · refine ⟨?_, ?_, ?_, ?_, ?_, ?_, ?_, ?_, ?_, ?_, ?_, ?_, ?_, ?_, ?_, ?_, ?_, ?_, ?_, ?_, ?_, ?_, ?_, ?_, ?_, ?_, ?_, ?_, ?_, ?_, ?_, ?_, ?_, ?_, trivial⟩
              all_goals
                intro a9 W γ ev hcc hff hfx hR hψ hpre
                simp only [List.mem_cons, List.mem_nil_iff, or_false, forall_eq, forall_eq_or_imp] at hfx
                obtain ⟨f0, f1, f2, f3, f4, f5⟩ := hfx
                have HR := Lib.hid hR
                clear hR
              · refine ⟨fun hg K hK => ?_, trivial⟩
                clear hg
                clear hpre hψ
                go_simp
                exact hK _ _ γ HR.out (fun _ _ _ _ h => h) (fun _ _ _ h => h) rfl
              · refine ⟨fun hg K hK => ?_, trivial⟩
                clear hg
                have q0 : ev (.tmp 86) = _ := hpre 0 (by decide)
                clear hpre hψ
                go_simp
                exact hK _ _ γ HR.out (fun _ _ _ _ h => h) (fun _ _ _ h => h) rfl
              · refine ⟨fun hg K hK => ?_, trivial⟩
                clear hg
                have q0 : ev (.tmp 87) = _ := hpre 1 (by decide)
                clear hpre hψ
                go_simp
                exact hK _ _ γ HR.out (fun _ _ _ _ h => h) (fun _ _ _ h => h) rfl
              · refine ⟨fun hg K hK => ?_, fun hg => (hg (hpre 2 (by decide))).elim⟩
                clear hg
                clear hpre hψ
                go_simp
                exact hK _ _ γ HR.out (fun _ _ _ _ h => h) (fun _ _ _ h => h) rfl
              · refine ⟨fun hg K hK => ?_, fun hg => (hg (hpre 2 (by decide))).elim⟩
                clear hg
                have q0 : ev (.tmp 89) = _ := hpre 3 (by decide)
                have hbk := HQPW.out.below (show Below wr.heap.size wr W from HR.out) HQPW.out.lt
                have hzg := hbk.lt
                have e0 := hbk.cell 0
                simp only [List.getElem?_toArray, List.getElem?_cons_zero, List.getElem?_cons_succ] at e0
                clear hbk
                clear hpre hψ
                go_simp
                exact hK _ _ γ HR.out (fun _ _ _ _ h => h) (fun _ _ _ h => h) rfl
              · refine ⟨fun hg K hK => ?_, fun hg => (hg (hpre 2 (by decide))).elim⟩
                clear hg
                clear hpre hψ
                go_simp
                exact hK _ _ γ HR.out (fun _ _ _ _ h => h) (fun _ _ _ h => h) rfl
              · refine ⟨fun hg K hK => ?_, fun hg => (hg (hpre 2 (by decide))).elim⟩
                clear hg
                have q0 : ev (.tmp 90) = _ := hpre 4 (by decide)
                have q1 : ev (.tmp 91) = _ := hpre 5 (by decide)
                clear hpre hψ
                go_simp
                exact hK _ _ γ HR.out (fun _ _ _ _ h => h) (fun _ _ _ h => h) rfl
              · refine ⟨fun hg K hK => ?_, fun hg => (hg (hpre 2 (by decide))).elim⟩
                clear hg
                have q0 : ev (.tmp 92) = _ := hpre 6 (by decide)
                have hca := ((show Below wr.heap.size wr W from HR.out).cell (p := ⟨i1, n, none⟩) HCI.out.1).trans HCI.out.2
                have hza : i1 < W.heap.size := block_of_cell hca
                clear hpre hψ
                go_simp
                exact hK _ _ γ HR.out (fun _ _ _ _ h => h) (fun _ _ _ h => h) rfl
              · refine ⟨fun hg K hK => ?_, fun hg => (hg (hpre 2 (by decide))).elim⟩
                clear hg
                have q0 : ev (.tmp 93) = _ := hpre 7 (by decide)
                clear hpre hψ
                go_simp
                exact hK _ _ γ HR.out (fun _ _ _ _ h => h) (fun _ _ _ h => h) rfl
              · refine ⟨fun hg K hK => ?_, trivial⟩
                clear hg
                have q0 : ev (.tmp 88) = _ := hpre 2 (by decide)
                have q1 : ev (.tmp 94) = _ := hpre 8 (by decide)
                clear hpre hψ
                go_simp
                exact hK _ _ γ HR.out (fun _ _ _ _ h => h) (fun _ _ _ h => h) rfl
              · refine ⟨fun hg K hK => ?_, trivial⟩
                clear hg
                have q0 : ev (.tmp 95) = _ := hpre 9 (by decide)
                clear hpre hψ
                go_simp
                exact hK _ _ γ HR.out (fun _ _ _ _ h => h) (fun _ _ _ h => h) rfl
              · refine ⟨fun hg K hK => ?_, fun hg => (hg (hpre 10 (by decide))).elim⟩
                clear hg
                clear hpre hψ
                go_simp
                exact hK _ _ γ HR.out (fun _ _ _ _ h => h) (fun _ _ _ h => h) rfl
              · refine ⟨fun hg K hK => ?_, fun hg => (hg (hpre 10 (by decide))).elim⟩
                clear hg
                have q0 : ev (.tmp 97) = _ := hpre 11 (by decide)
                have hbk := HQAW.out.below (show Below wr.heap.size wr W from HR.out) HQAW.out.lt
                have hzg := hbk.lt
                have e4 := hbk.cell 4
                simp only [List.getElem?_toArray, List.getElem?_cons_zero, List.getElem?_cons_succ] at e4
                clear hbk
                clear hpre hψ
                go_simp
                exact hK _ _ γ HR.out (fun _ _ _ _ h => h) (fun _ _ _ h => h) rfl
              · refine ⟨fun hg K hK => ?_, fun hg => (hg (hpre 10 (by decide))).elim⟩
                clear hg
                clear hpre hψ
                go_simp
                exact hK _ _ γ HR.out (fun _ _ _ _ h => h) (fun _ _ _ h => h) rfl
              · refine ⟨fun hg K hK => ?_, fun hg => (hg (hpre 10 (by decide))).elim⟩
                clear hg
                have q0 : ev (.tmp 98) = _ := hpre 12 (by decide)
                have q1 : ev (.tmp 99) = _ := hpre 13 (by decide)
                clear hpre hψ
                go_simp
                exact hK _ _ γ HR.out (fun _ _ _ _ h => h) (fun _ _ _ h => h) rfl
              · refine ⟨fun hg K hK => ?_, fun hg => (hg (hpre 10 (by decide))).elim⟩
                clear hg
                have q0 : ev (.tmp 100) = _ := hpre 14 (by decide)
                have hca := ((show Below wr.heap.size wr W from HR.out).cell (p := ⟨ab, n, none⟩) HCG.out.1).trans HCG.out.2
                have hza : ab < W.heap.size := block_of_cell hca
                clear hpre hψ
                go_simp
                exact hK _ _ γ HR.out (fun _ _ _ _ h => h) (fun _ _ _ h => h) rfl
              · refine ⟨fun hg K hK => ?_, fun hg => (hg (hpre 10 (by decide))).elim⟩
                clear hg
                have q0 : ev (.tmp 101) = _ := hpre 15 (by decide)
                clear hpre hψ
                go_simp
                exact hK _ _ γ HR.out (fun _ _ _ _ h => h) (fun _ _ _ h => h) rfl
              · refine ⟨fun hg K hK => ?_, trivial⟩
                clear hg
                have q0 : ev (.tmp 96) = _ := hpre 10 (by decide)
                have q1 : ev (.tmp 102) = _ := hpre 16 (by decide)
                clear hpre hψ
                go_simp
                exact hK _ _ γ HR.out (fun _ _ _ _ h => h) (fun _ _ _ h => h) rfl
              · refine ⟨fun hg K hK => ?_, trivial⟩
                clear hg
                have q0 : ev (.tmp 103) = _ := hpre 17 (by decide)
                clear hpre hψ
                go_simp
                exact hK _ _ γ HR.out (fun _ _ _ _ h => h) (fun _ _ _ h => h) rfl
              · refine ⟨fun hg K hK => ?_, fun hg => (hg (hpre 18 (by decide))).elim⟩
                clear hg
                have hbk := HQAW.out.below (show Below wr.heap.size wr W from HR.out) HQAW.out.lt
                have hzg := hbk.lt
                have e0 := hbk.cell 0
                have e1 := hbk.cell 1
                have e2 := hbk.cell 2
                have e3 := hbk.cell 3
                have e4 := hbk.cell 4
                simp only [List.getElem?_toArray, List.getElem?_cons_zero, List.getElem?_cons_succ] at e0 e1 e2 e3 e4
                clear hbk
                clear hpre hψ
                go_simp
                exact hK _ _ γ HR.out (fun _ _ _ _ h => h) (fun _ _ _ h => h) rfl
              · refine ⟨fun hg K hK => ?_, fun hg => (hg (hpre 18 (by decide))).elim⟩
                clear hg
                clear hpre hψ
                go_simp
                exact hK _ _ γ HR.out (fun _ _ _ _ h => h) (fun _ _ _ h => h) rfl
              · refine ⟨fun hg K hK => ?_, fun hg => (hg (hpre 18 (by decide))).elim⟩
                clear hg
                clear hpre hψ
                go_simp
                exact hK _ _ γ HR.out (fun _ _ _ _ h => h) (fun _ _ _ h => h) rfl
              · refine ⟨fun hg K hK => ?_, fun hg => (hg (hpre 18 (by decide))).elim⟩
                clear hg
                have q0 : ev (.tmp 107) = _ := hpre 21 (by decide)
                have hbk := HQPW.out.below (show Below wr.heap.size wr W from HR.out) HQPW.out.lt
                have hzg := hbk.lt
                have e1 := hbk.cell 1
                simp only [List.getElem?_toArray, List.getElem?_cons_zero, List.getElem?_cons_succ] at e1
                clear hbk
                clear hpre hψ
                go_simp
                exact hK _ _ γ HR.out (fun _ _ _ _ h => h) (fun _ _ _ h => h) rfl
              · refine ⟨fun hg K hK => ?_, fun hg => (hg (hpre 18 (by decide))).elim⟩
                clear hg
                clear hpre hψ
                go_simp
                exact hK _ _ γ HR.out (fun _ _ _ _ h => h) (fun _ _ _ h => h) rfl
              · refine ⟨fun hg K hK => ?_, fun hg => (hg (hpre 18 (by decide))).elim⟩
                clear hg
                have q0 : ev (.tmp 108) = _ := hpre 22 (by decide)
                have q1 : ev (.tmp 109) = _ := hpre 23 (by decide)
                clear hpre hψ
                go_simp
                exact hK _ _ γ HR.out (fun _ _ _ _ h => h) (fun _ _ _ h => h) rfl
              · refine ⟨fun hg K hK => ?_, fun hg => (hg (hpre 18 (by decide))).elim⟩
                clear hg
                have q0 : ev (.tmp 110) = _ := hpre 24 (by decide)
                have hca := ((show Below wr.heap.size wr W from HR.out).cell (p := ⟨ff, t, none⟩) HCC.out.1).trans HCC.out.2
                have hza : ff < W.heap.size := block_of_cell hca
                clear hpre hψ
                go_simp
                exact hK _ _ γ HR.out (fun _ _ _ _ h => h) (fun _ _ _ h => h) rfl
              · refine ⟨fun hg K hK => ?_, fun hg => (hg (hpre 18 (by decide))).elim⟩
                clear hg
                clear hpre hψ
                go_simp
                exact hK _ _ γ HR.out (fun _ _ _ _ h => h) (fun _ _ _ h => h) rfl
              · refine ⟨fun hg K hK => ?_, fun hg => (hg (hpre 18 (by decide))).elim⟩
                clear hg
                clear hpre hψ
                go_simp
                exact hK _ _ γ HR.out (fun _ _ _ _ h => h) (fun _ _ _ h => h) rfl
              · refine ⟨fun hg K hK => ?_, fun hg => (hg (hpre 18 (by decide))).elim⟩
                clear hg
                have q0 : ev (.tmp 112) = _ := hpre 26 (by decide)
                have q1 : ev (.tmp 113) = _ := hpre 27 (by decide)
                clear hpre hψ
                go_simp
                exact hK _ _ γ HR.out (fun _ _ _ _ h => h) (fun _ _ _ h => h) rfl
              · refine ⟨fun hg K hK => ?_, fun hg => (hg (hpre 18 (by decide))).elim⟩
                clear hg
                have q0 : ev (.tmp 114) = _ := hpre 28 (by decide)
                have hca := ((show Below wr.heap.size wr W from HR.out).cell (p := ⟨sb, so + k, none⟩) HCL.out.1).trans HCL.out.2
                have hza : sb < W.heap.size := block_of_cell hca
                clear hpre hψ
                go_simp
                exact hK _ _ γ HR.out (fun _ _ _ _ h => h) (fun _ _ _ h => h) rfl
              · refine ⟨fun hg K hK => ?_, fun hg => (hg (hpre 18 (by decide))).elim⟩
                clear hg
                have q0 : ev (.tmp 105) = _ := hpre 19 (by decide)
                have q1 : ev (.tmp 106) = _ := hpre 20 (by decide)
                have q2 : ev (.tmp 111) = _ := hpre 25 (by decide)
                have q3 : ev (.tmp 115) = _ := hpre 29 (by decide)
                have C := Lib.hid (KL.out W (show Below wr.heap.size wr W from HR.out))
                have HRW9 : Hid (Below wr.heap.size wr W) := HR
                clear hpre hψ
                go_simp
                refine C.out.mono ?_
                rintro e9 w5x ⟨x9, rfl, hx9, hB5⟩
                rw [HN1.out] at hx9
                obtain rfl := Option.some.inj hx9
                exact hK _ w5x γ (below3 HRW9.out hB5 (Nat.le_refl _)) (fun j u _ _ h => p19Phi_w h) (fun _ _ _ h => h) rfl
              · refine ⟨fun hg K hK => ?_, fun hg => (hg (hpre 18 (by decide))).elim⟩
                clear hg
                clear hpre hψ
                go_simp
                exact hK _ _ γ HR.out (fun _ _ _ _ h => h) (fun _ _ _ h => h) rfl
              · refine ⟨fun hg K hK => ?_, fun hg => (hg (hpre 18 (by decide))).elim⟩
                clear hg
                have q0 : ev (.tmp 116) = _ := hpre 30 (by decide)
                have q1 : ev (.tmp 117) = _ := hpre 31 (by decide)
                clear hpre hψ
                go_simp
                exact hK _ _ γ HR.out (fun _ _ _ _ h => h) (fun _ _ _ h => h) rfl
              · refine ⟨fun hg K hK => ?_, trivial⟩
                clear hg
                have q0 : ev (.tmp 104) = _ := hpre 18 (by decide)
                have q1 : ev (.tmp 118) = _ := hpre 32 (by decide)
                clear hpre hψ
                go_simp
                exact hK _ _ γ HR.out (fun _ _ _ _ h => h) (fun _ _ _ h => h) rfl
            · intro vs wy γ hvl hR hφ
              have q33 := hφ 33 (by decide)
              have HR := Lib.hid hR
              clear hφ hR
              obtain ⟨y0, y1, y2, y3, y4, y5, y6, y7, vs1, hvl1, rfl⟩ := cut8 (n := 26) hvl
              match vs1, hvl1 with
              | [y8, y9, y10, y11, y12, y13, y14, y15, y16, y17, y18, y19, y20, y21, y22, y23, y24, y25, y26, y27, y28, y29, y30, y31, y32, y33], _ =>
              simp only [List.getD_cons_zero, List.getD_cons_succ] at q33
              obtain rfl : y33 = _ := q33
              have HN : Hid (Below w6.heap.size w6 wy) := Lib.hid (below3 HW.out HR.out (Nat.le_refl _))
              clear HR
              simp [putAll]
              go_wp2
              go_roundw
              case rel => exact ⟨k + 1, by omega, by rw [HLS2.out], by go_num, Lib.hid (by rw [HLS2.out]; exact HNT.out), HN⟩
              case measure => simp [intOf]; omega
          · obtain rfl : k = 40 := by omega
            obtain ⟨wB, hwB⟩ : ∃ z, z = wr := ⟨wr, rfl⟩
            subst hwB
            obtain ⟨t, ht⟩ : ∃ z, z = lsF ga ctl sN (L.take 40) := ⟨_, rfl⟩
            rw [← ht] at HT ⊢
            clear ht
            have hBl := HW.out
            have B6 : Hid (Below w6.heap.size w6 wB) := Lib.hid hBl
            clear hBl
            have KF := Lib.hid (Force_in aN an ac ab 0 ag i1 0 d1 ff 0 ga.S r1 0 ga.S ga inn ctl rnk t 0 0 none [] wB (HA4.out.next' (below3 (below3 B4.out B5.out (Nat.le_refl _)) B6.out (Nat.le_refl _))) OA.out (HI4.out.next (below3 (below3 B4.out B5.out (Nat.le_refl _)) B6.out (Nat.le_refl _))) (HC4.out.next (below3 (below3 B4.out B5.out (Nat.le_refl _)) B6.out (Nat.le_refl _))) (HR4.out.next (below3 (below3 B4.out B5.out (Nat.le_refl _)) B6.out (Nat.le_refl _))) HRT.out HT.out.1 HT.out.2 (Rd.nil _ _ _ _) (fun x h => by simp at h) (by omega))
            have hbk := QA.out.below (below3 (below3 (below3 (below3 B2.out B3.out (Nat.le_refl _)) B4.out (Nat.le_refl _)) B5.out (Nat.le_refl _)) B6.out (Nat.le_refl _)) QA.out.lt
            have p0 := hbk.cell 0
            have p1 := hbk.cell 1
            have p2 := hbk.cell 2
            have p3 := hbk.cell 3
            have p4 := hbk.cell 4
            simp only [List.getElem?_toArray, List.getElem?_cons_zero, List.getElem?_cons_succ] at p0 p1 p2 p3 p4
            have zp := hbk.lt
            clear hbk
            have hbk := QP.out.below (below3 (below3 B4.out B5.out (Nat.le_refl _)) B6.out (Nat.le_refl _)) QP.out.lt
            have o0 := hbk.cell 0
            have o1 := hbk.cell 1
            have o2 := hbk.cell 2
            simp only [List.getElem?_toArray, List.getElem?_cons_zero, List.getElem?_cons_succ] at o0 o1 o2
            have zo := hbk.lt
            clear hbk
            go_wp2_with fail
            refine (KF.out).mono ?_
            rintro e w8 ⟨rfl, hB⟩
            have B7 : Hid (Below wB.heap.size wB w8) := Lib.hid hB
            clear hB
            clear p0 p1 p2 p3 p4 zp o0 o1 o2 zo KF
            go_wp2_with fail
            refine (KA.out _).mono ?_
            rintro e w90 ⟨rfl, hB⟩
            have B8 : Hid (Below w8.heap.size w8 w90) := Lib.hid hB
            clear hB
            go_wp2
            go_ret
            exact ⟨rfl, (below3 (below3 (below3 (below3 (below3 (below3 (below3 (below3 B0.out B1.out (Nat.le_refl _)) B2.out (Nat.le_refl _)) B3.out (Nat.le_refl _)) B4.out (Nat.le_refl _)) B5.out (Nat.le_refl _)) B6.out (Nat.le_refl _)) B7.out (Nat.le_refl _)) B8.out (Nat.le_refl _))⟩
end Go.Proofs.Ytalngalikblgkaa
