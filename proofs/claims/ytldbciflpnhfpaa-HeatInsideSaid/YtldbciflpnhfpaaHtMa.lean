/- law07: temperatures and classes of two lists of numbers (what the laws over halls share). -/
import Derived.Test.YtldbciflpnhfpaaHtFa
import Derived.Test.YtldbciflpnhfpaaHtT
import Derived.Test.YtldbciflpnhfpaaHtO
import Derived.Test.YtldbciflpnhfpaaHtR
import Derived.Test.YtldbciflpnhfpaaHtSo
import Derived.Test.YtldbciflpnhfpaaHtY

set_option linter.unusedSimpArgs false
set_option linter.unusedVariables false
namespace Go.Proofs.Ytldbciflpnhfpaa
open Go.RowKit

def TmOk (n : Nat) (L : List Int) : Prop := L.length = n ∧ ∀ y ∈ L, 12000 ≤ y ∧ y ≤ 27300
def CsOk (n : Nat) (out pump : Int) (L : List Int) : Prop := L.length = n ∧ (∀ y ∈ L, 0 ≤ y ∧ y ≤ 255000) ∧ (10000 ≤ out ∧ out ≤ 35500) ∧ 0 ≤ pump ∧ pump ≤ 2550
structure ClsV where
  (lb hb lc hc : Nat)
  (o1 p1 o2 p2 : Int)
  (La Lb : List Int)
def ClsV.cells (X : ClsV) (n : Nat) : Array Value := #[.slice (some ⟨X.lb, 0, none⟩) n X.lc, .int .i64 (min X.o1 X.o2), .int .i64 (max X.p1 X.p2), .slice (some ⟨X.hb, 0, none⟩) n X.hc, .int .i64 (max X.o1 X.o2), .int .i64 (min X.p1 X.p2)]
structure ClsOk (n : Nat) (W : World) (X : ClsV) : Prop where
  a : CsOk n X.o1 X.p1 X.La
  b : CsOk n X.o2 X.p2 X.Lb
  l : RowW W X.lb 3 encI (some ⟨X.lb, 0, none⟩) (mnL X.La X.Lb)
  h : RowW W X.hb 3 encI (some ⟨X.hb, 0, none⟩) (mxL X.La X.Lb)
theorem ClsOk.next {n : Nat} {W W' : World} {X : ClsV} (c : ClsOk n W X) (hb : Below W.heap.size W W') : ClsOk n W' X := ⟨c.a, c.b, c.l.below9 hb, c.h.below9 hb⟩
theorem ClsOk.apart {n : Nat} {W W' : World} {X : ClsV} {r : Nat} {U : TypeId} {cs : Array Value} (c : ClsOk n W X) (hk : Keep (fun z => z = r) W W') (hr : Blk W r U cs) (hT : 3 ≠ U) : ClsOk n W' X := ⟨c.a, c.b, c.l.apart hk hr hT, c.h.apart hk hr hT⟩
theorem row_of {W : World} {m n c : Nat} {A : Option Addr} {L : List Int} (hl : L.length = n) (ho : W.ownsRow m 3 1 (.slice A n c) n (L.flatMap encI)) : ∃ b, RowW W b 3 encI A L := by
  subst hl
  obtain ⟨A', c', b, e, hr, _⟩ := RowW.of_own ho
  simp only [Value.slice.injEq] at e
  exact ⟨b, by rw [e.1]; exact hr⟩
def mo2Phi (n : Nat) (hv av bv : Value) : Nat → Value → World → (Nat → Nat) → Prop
  | 0, v, _, _ => v = hv
  | 1, v, _, _ => v = av
  | 2, v, W, _ => ∃ (A : Option Addr) (c : Nat) (L : List Int), v = .slice A n c ∧ TmOk n L ∧ Rd W W.heap.size 1 encI A n L
  | 3, v, _, _ => v = hv
  | 4, v, _, _ => v = bv
  | 5, v, W, _ => ∃ (A : Option Addr) (c : Nat) (L : List Int), v = .slice A n c ∧ TmOk n L ∧ Rd W W.heap.size 1 encI A n L
  | 6, v, W, γ => (v = .tuple #[.slice (some ⟨γ 20, 0, none⟩) n (γ 22), .slice (some ⟨γ 21, 0, none⟩) n (γ 23)] ∧ γ 19 = 1) ∧ ∃ La Lb : List Int, TmOk n La ∧ TmOk n Lb ∧ RowW W (γ 20) 3 encI (some ⟨γ 20, 0, none⟩) (mnL La Lb) ∧ RowW W (γ 21) 3 encI (some ⟨γ 21, 0, none⟩) (mxL La Lb)
  | 7, v, _, γ => v = .tuple #[.slice (some ⟨γ 20, 0, none⟩) n (γ 22), .slice (some ⟨γ 21, 0, none⟩) n (γ 23)] ∧ γ 19 = 1
  | 8, v, _, γ => v = .slice (some ⟨γ 20, 0, none⟩) n (γ 22) ∧ γ 19 = 1
  | 9, v, _, γ => v = .slice (some ⟨γ 21, 0, none⟩) n (γ 23) ∧ γ 19 = 1
  | 10, v, _, γ => v = .slice (some ⟨γ 20, 0, none⟩) n (γ 22) ∧ γ 19 = 1
  | 11, v, _, γ => v = .slice (some ⟨γ 21, 0, none⟩) n (γ 23) ∧ γ 19 = 1
  | _, _, _, _ => True
theorem mo2Phi_next {n : Nat} {hv av bv : Value} {j : Nat} {v : Value} {W W' : World} {γ γ' : Nat → Nat} (hb : Below W.heap.size W W') (hg : γ 19 = 0 ∨ γ' = γ) (h : mo2Phi n hv av bv j v W γ) : mo2Phi n hv av bv j v W' γ' := by
  unfold mo2Phi at h ⊢
  split at h
  all_goals first | exact h | trivial | skip
  · obtain ⟨A, c, L, e, h1, h2⟩ := h; exact ⟨A, c, L, e, h1, h2.next hb⟩
  · obtain ⟨A, c, L, e, h1, h2⟩ := h; exact ⟨A, c, L, e, h1, h2.next hb⟩
  all_goals
    rcases hg with hg | rfl
    · first | (have h9 := h.2; rw [hg] at h9; exact absurd h9 (by decide)) | (have h9 := h.1.2; rw [hg] at h9; exact absurd h9 (by decide))
    · first | exact h | (obtain ⟨e, La, Lb, h1, h2, h3, h4⟩ := h; exact ⟨e, La, Lb, h1, h2, h3.below9 hb, h4.below9 hb⟩)
def mo2Psi (i : Nat) (_ : World) (γ : Nat → Nat) : Prop := i = 6 → γ 19 = 0
def mo3Phi (X0 : World) (n : Nat) (hv av bv : Value) : Nat → Value → World → (Nat → Nat) → Prop
  | 0, v, _, _ => v = hv
  | 1, v, _, _ => v = av
  | 2, v, W, _ => ∃ (A : Option Addr) (b c : Nat) (out pump : Int) (L : List Int), v = .agg #[.slice A n c, .int .i64 out, .int .i64 pump] ∧ CsOk n out pump L ∧ RowW W b 3 encI A L
  | 3, v, _, _ => v = hv
  | 4, v, _, _ => v = bv
  | 5, v, W, _ => ∃ (A : Option Addr) (b c : Nat) (out pump : Int) (L : List Int), v = .agg #[.slice A n c, .int .i64 out, .int .i64 pump] ∧ CsOk n out pump L ∧ RowW W b 3 encI A L
  | 6, v, W, _ => ∃ X : ClsV, v = .agg (X.cells n) ∧ ClsOk n W X
  | 7, v, W, γ => v = .pointer (some ⟨γ 30, 0, none⟩) ∧ X0.heap.size ≤ γ 30 ∧ (γ 20 = 0 → Blk W (γ 30) 37 #[.slice none 0 0, .int .i64 0, .int .i64 0, .slice none 0 0, .int .i64 0, .int .i64 0])
  | 8, _, W, γ => ∃ X : ClsV, Blk W (γ 30) 37 (X.cells n) ∧ ClsOk n W X
  | _, _, _, _ => True
theorem mo3Phi_next {X0 : World} {n : Nat} {hv av bv : Value} {j : Nat} {v : Value} {W W' : World} {γ γ' : Nat → Nat} (hb : Below W.heap.size W W') (hg : (j = 7 ∨ j = 8) → γ' 30 = γ 30 ∧ γ' 20 = γ 20) (h : mo3Phi X0 n hv av bv j v W γ) : mo3Phi X0 n hv av bv j v W' γ' := by
  unfold mo3Phi at h ⊢
  split at h
  all_goals first | exact h | trivial | skip
  · obtain ⟨A, b, c, o, p, L, e, h1, h2⟩ := h; exact ⟨A, b, c, o, p, L, e, h1, h2.below9 hb⟩
  · obtain ⟨A, b, c, o, p, L, e, h1, h2⟩ := h; exact ⟨A, b, c, o, p, L, e, h1, h2.below9 hb⟩
  · obtain ⟨X, e, h1⟩ := h; exact ⟨X, e, h1.next hb⟩
  · obtain ⟨e, h1, h2⟩ := h
    obtain ⟨g1, g2⟩ := hg (Or.inl rfl)
    rw [g1, g2]
    exact ⟨e, h1, fun z => (h2 z).below hb (h2 z).lt⟩
  · obtain ⟨X, h1, h2⟩ := h
    obtain ⟨g1, g2⟩ := hg (Or.inr rfl)
    rw [g1]
    exact ⟨X, h1.below hb h1.lt, h2.next hb⟩
theorem mo3Phi_store {X0 : World} {n : Nat} {hv av bv : Value} {j : Nat} {v : Value} {W W' : World} {γ γ' : Nat → Nat} {r : Nat} {cs : Array Value} (hw : Below W.heap.size W W ∧ W.heap.size ≤ W'.heap.size) (hk : Keep (fun z => z = r) W W') (hr : Blk W r 37 cs) (hg : γ' 30 = γ 30 ∧ γ' 20 ≠ 0) (h8 : j ≠ 8) (h : mo3Phi X0 n hv av bv j v W γ) : mo3Phi X0 n hv av bv j v W' γ' := by
  unfold mo3Phi at h ⊢
  split at h
  all_goals first | exact h | trivial | exact absurd rfl h8 | skip
  · obtain ⟨A, b, c, o, p, L, e, h1, h2⟩ := h; exact ⟨A, b, c, o, p, L, e, h1, h2.apart hk hr (by decide)⟩
  · obtain ⟨A, b, c, o, p, L, e, h1, h2⟩ := h; exact ⟨A, b, c, o, p, L, e, h1, h2.apart hk hr (by decide)⟩
  · obtain ⟨X, e, h1⟩ := h; exact ⟨X, e, h1.apart hk hr (by decide)⟩
  · obtain ⟨e, h1, h2⟩ := h
    rw [hg.1]
    exact ⟨e, h1, fun z => absurd z hg.2⟩
def mo3Psi (i : Nat) (_ : World) (γ : Nat → Nat) : Prop := (i = 8 → γ 20 = 0)
theorem mnF_bd {a b : List Int} {n : Nat} {lo hi : Int} (ha : a.length = n) (hb : b.length = n) (h1 : ∀ y ∈ a, lo ≤ y ∧ y ≤ hi) (h2 : ∀ y ∈ b, lo ≤ y ∧ y ≤ hi) {i : Nat} (hn : i < n) : (lo ≤ mnF a b i ∧ mnF a b i ≤ hi) ∧ lo ≤ mxF a b i ∧ mxF a b i ≤ hi := by
  have k1 := h1 (a.getD i 0) (by rw [List.getD_eq_getElem?_getD, List.getElem?_eq_getElem (by omega)]; exact List.getElem_mem _)
  have k2 := h2 (b.getD i 0) (by rw [List.getD_eq_getElem?_getD, List.getElem?_eq_getElem (by omega)]; exact List.getElem_mem _)
  unfold mnF mxF
  omega
theorem mnL_bd {a b : List Int} {n : Nat} {lo hi : Int} (ha : a.length = n) (hb : b.length = n) (h1 : ∀ y ∈ a, lo ≤ y ∧ y ≤ hi) (h2 : ∀ y ∈ b, lo ≤ y ∧ y ≤ hi) : (∀ y ∈ mnL a b, lo ≤ y ∧ y ≤ hi) ∧ ∀ y ∈ mxL a b, lo ≤ y ∧ y ≤ hi := by
  refine ⟨fun y hy => ?_, fun y hy => ?_⟩
  · obtain ⟨i, hi9, rfl⟩ := List.mem_map.1 hy
    exact (mnF_bd ha hb h1 h2 (by rw [← ha]; exact List.mem_range.1 hi9)).1
  · obtain ⟨i, hi9, rfl⟩ := List.mem_map.1 hy
    exact (mnF_bd ha hb h1 h2 (by rw [← ha]; exact List.mem_range.1 hi9)).2
theorem mn_le_mx (a b : List Int) (i : Nat) : (mnL a b).getD i 0 ≤ (mxL a b).getD i 0 := by
  by_cases hi : i < a.length
  · rw [List.getD_eq_getElem?_getD, List.getD_eq_getElem?_getD, mnL_get hi, mxL_get hi]
    show mnF a b i ≤ mxF a b i
    unfold mnF mxF
    omega
  · rw [List.getD_eq_getElem?_getD, List.getD_eq_getElem?_getD, List.getElem?_eq_none (by rw [mnL_len]; omega), List.getElem?_eq_none (by rw [mxL_len]; omega)]
    exact Int.le_refl _
theorem getD_nonneg {l : List Int} {lo hi : Int} (hlo : 0 ≤ lo) (h : ∀ y ∈ l, lo ≤ y ∧ y ≤ hi) (i : Nat) : 0 ≤ l.getD i 0 := by
  rw [List.getD_eq_getElem?_getD]
  by_cases hi9 : i < l.length
  · rw [List.getElem?_eq_getElem hi9]
    have := h _ (List.getElem_mem hi9)
    show 0 ≤ l[i]
    omega
  · rw [List.getElem?_eq_none (by omega)]; exact Int.le_refl _
theorem nxL_below {h : Hl} (ok : HlOk h) {t u l m : List Int} {o o' p q : Int} (hp : 0 ≤ p ∧ p ≤ 100000) (hq : 0 ≤ q ∧ q ≤ 100000) (ho : 0 ≤ o) (hpq : q ≤ p) (hoo : o ≤ o') (ht : ∀ i, 0 ≤ t.getD i 0) (hl : ∀ i, 0 ≤ l.getD i 0) (htu : ∀ i, t.getD i 0 ≤ u.getD i 0) (hlm : ∀ i, l.getD i 0 ≤ m.getD i 0) : leB (nxL h t l o p) (nxL h u m o' q) = true := by
  refine leB_yes fun i hi => ?_
  rw [nxL_len] at hi
  rw [List.getD_eq_getElem?_getD, List.getD_eq_getElem?_getD, nxL_get hi, nxL_get hi]
  exact nxV_mono ok hp hq ho hpq hoo ht hl htu hlm hi
end Go.Proofs.Ytldbciflpnhfpaa
