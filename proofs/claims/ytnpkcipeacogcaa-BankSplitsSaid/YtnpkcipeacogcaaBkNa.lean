/- Nothing is lacking where it never becomes dark. -/
import Derived.Test.YtnpkcipeacogcaaBkWe

set_option linter.unusedSimpArgs false
set_option linter.unusedVariables false
namespace Go.Proofs.Ytnpkcipeacogcaa
open Go.RowKit

theorem left_is {B x : Int} {p : Ply} (hx : 0 ≤ x) (hc : ∀ c ∈ p.cs, CelOk c) (he : ∀ e ∈ p.es, EngOk B e) : leftOf p x = max 0 (x - mostP p) := by
  have h1 : (drawL x p.es).2 = min x (0 + sumS p.es) := draw_all he hx
  have h2 := sumS_nn he
  have h3 := sumA_nn hc
  unfold mostP
  unfold leftOf needOf
  have h4 : (giveL (x - (drawL x p.es).2) p.cs).2 = max 0 (x - (drawL x p.es).2 - sumA p.cs) := give_all hc (by rw [h1]; omega)
  rw [h4, h1]
  omega
theorem any_go {T t x : Int} {p : Ply} (h : PlyOk T p) (hx : 0 ≤ x) (ho : okP t p x = true) : anyP t p x = goP t p x := by
  have hm := of_decide_eq_true ho
  have h1 := left_zero (p := readyP t p) hx h.cs h.ready hm
  unfold anyP goP
  rw [h1, Int.add_zero]
  rfl
theorem any_ge : ∀ {l : List Int} {T t : Int} {p : Ply}, PlyOk T p → (∀ x ∈ l, 0 ≤ x ∧ x ≤ 1000000) → p.lacking ≤ (anyL t p l).lacking := by
  intro l
  induction l with
  | nil => intro T t p _ _; exact Int.le_refl _
  | cons x l ih =>
    intro T t p h hx
    have hx0 := hx x (List.mem_cons_self ..)
    have h1 := ih (t := t + 1) (h.anyway (t := t) hx0.1 hx0.2) (fun y hy => hx y (List.mem_cons_of_mem _ hy))
    have h2 := (leftOf_bd (p := readyP t p) hx0.1 h.cs h.ready).1
    have h3 : (anyP t p x).lacking = p.lacking + leftOf (readyP t p) x := rfl
    rw [anyL]
    omega
theorem any_eq : ∀ {l : List Int} {T t : Int} {p : Ply}, PlyOk T p → (∀ x ∈ l, 0 ≤ x ∧ x ≤ 1000000) → ((anyL t p l).lacking = p.lacking ↔ okL t p l) := by
  intro l
  induction l with
  | nil => intro T t p _ _; exact ⟨fun _ => trivial, fun _ => rfl⟩
  | cons x l ih =>
    intro T t p h hx
    have hx0 := hx x (List.mem_cons_self ..)
    have hxl : ∀ y ∈ l, 0 ≤ y ∧ y ≤ 1000000 := fun y hy => hx y (List.mem_cons_of_mem _ hy)
    by_cases ho : okP t p x = true
    · rw [anyL, any_go h hx0.1 ho, show p.lacking = (goP t p x).lacking from rfl, ih (h.go (t := t) hx0.1 hx0.2) hxl]
      exact ⟨fun h1 => ⟨ho, h1⟩, fun h1 => h1.2⟩
    · refine ⟨fun h1 => ?_, fun h1 => absurd h1.1 ho⟩
      exfalso
      have h2 := any_ge (t := t + 1) (h.anyway (t := t) hx0.1 hx0.2) hxl
      have h3 : (anyP t p x).lacking = p.lacking + leftOf (readyP t p) x := rfl
      have h4 := left_is (p := readyP t p) hx0.1 h.cs h.ready
      have h5 : ¬ x ≤ mostP (readyP t p) := fun hle => ho (decide_eq_true hle)
      rw [anyL] at h1
      omega
/-- Nothing is lacking just where it never becomes dark. -/
theorem lack_dark {bs : List Bat} {gs : List Gen} {l : List Spn} {fs : List Int} (ok : ArgsOk bs gs l) (okf : FailsOk gs fs) : lackOf bs gs l fs = 0 ↔ (runOf bs gs l fs).dark = -1 := by
  have h0 := ply0_ok ok.bat ok.gen (okf.bd ok.gen)
  have h1 := any_eq (t := 0) h0 (secsL_bd ok.spn)
  unfold lackOf runOf
  rw [show (0 : Int) = (ply0 bs gs fs).lacking from rfl] at h1 ⊢
  rw [h1]
  constructor
  · intro h2
    rw [runL_all _ _ _ h2]
    have hdk : ∀ (l : List Int) (t : Int) (p : Ply), (goL t p l).dark = p.dark := by
      intro l
      induction l with
      | nil => intro t p; rfl
      | cons x l ih => intro t p; rw [goL, ih]; rfl
    rw [hdk]
    rfl
  · intro h2
    rcases ok_or (secsL l) 0 (ply0 bs gs fs) with h3 | ⟨l1, x, l2, hl, h3, h4⟩
    · exact h3
    · exfalso
      have h2 : (runL 0 (ply0 bs gs fs) (secsL l)).dark = -1 := h2
      rw [hl, runL_dark l1 l2 x 0 _ h3 h4] at h2
      have : (darkP (0 + (l1.length : Int)) (goL 0 (ply0 bs gs fs) l1)).dark = 0 + (l1.length : Int) := rfl
      omega
end Go.Proofs.Ytnpkcipeacogcaa
