/- law06: the example's values. -/
import Derived.Test.YtnpkcipeacogcaaBkY

set_option linter.unusedSimpArgs false
set_option linter.unusedVariables false
namespace Go.Proofs.Ytnpkcipeacogcaa
open Go.RowKit

def exB : List Bat := [⟨1000, 1000, 100, 10⟩]
def exG : List Gen := [⟨100, 20, 5, 2, 2⟩]
def exL : List Spn := [⟨60, 100⟩]
theorem ex_ok : ArgsOk exB exG exL := by
  refine ⟨by decide, by decide, by decide, fun b hb => ?_, fun g hg => ?_, fun s hs => ?_, by decide +kernel⟩
  · simp only [exB, List.mem_cons, List.mem_nil_iff, or_false] at hb; subst hb
    constructor <;> decide
  · simp only [exG, List.mem_cons, List.mem_nil_iff, or_false] at hg; subst hg
    constructor <;> decide
  · simp only [exL, List.mem_cons, List.mem_nil_iff, or_false] at hs; subst hs
    constructor <;> decide
theorem ex_okH : ArgsOk exB exG (holdL 100) := by
  refine ⟨by decide, by decide, by decide, ex_ok.bat, ex_ok.gen, fun s hs => ?_, by rw [holdL_secs, List.length_replicate]; decide⟩
  simp only [holdL, List.mem_cons, List.mem_nil_iff, or_false] at hs
  rcases hs with rfl | rfl <;> constructor <;> decide
theorem ex_d0 : (runL 0 (ply0 exB exG [0]) (secsL exL)).dark = -1 := by decide +kernel
theorem ex_e0 : energies (runL 0 (ply0 exB exG [0]) (secsL exL)) = [300] := by decide +kernel
theorem ex_c0 : (runL 0 (ply0 exB exG [0]) (secsL exL)).cs.length = 1 := by decide +kernel
theorem ex_d1 : (runL 0 (ply0 exB exG [1]) (secsL exL)).dark = 10 := by decide +kernel
theorem ex_k0 : lackOf exB exG exL [0] = 0 := by decide +kernel
theorem ex_k1 : lackOf exB exG exL [1] = 400 := by decide +kernel
theorem ex_secs : secsL exL = List.replicate 60 100 := by decide +kernel
theorem ex_fl {ts : List Int} (h : Fl exG ts) (hs : sumI ts ≤ 1) : ts = [0] ∨ ts = [1] := by
  cases h with
  | @cons _ _ t ts t1 t2 t3 =>
    cases t3
    simp only [sumI] at hs
    rcases (show t = 0 ∨ t = 1 by omega) with rfl | rfl
    · exact Or.inl rfl
    · exact Or.inr rfl
theorem ex_f0 : Fl exG [0] := .cons (by decide) (by decide) .nil
theorem ex_f1 : Fl exG [1] := .cons (by decide) (by decide) .nil
theorem runL_dark_ge : ∀ (l : List Int) (t : Int) (p : Ply), p.dark = -1 → (runL t p l).dark = -1 ∨ t ≤ (runL t p l).dark := by
  intro l
  induction l with
  | nil => intro t p h; exact Or.inl h
  | cons a l ih =>
    intro t p h
    simp only [runL]
    split
    · rcases ih (t + 1) (goP t p a) h with h1 | h1
      · exact Or.inl h1
      · exact Or.inr (by omega)
    · exact Or.inr (Int.le_refl _)
theorem okL_of {l : List Int} {p : Ply} (h : (runL 0 p l).dark = -1) : okL 0 p l := by
  rcases ok_or l 0 p with h1 | ⟨l1, x, l2, rfl, h2, h3⟩
  · exact h1
  · rw [runL_dark l1 l2 x 0 p h2 h3] at h
    have : (darkP (0 + (l1.length : Int)) (goL 0 p l1)).dark = 0 + (l1.length : Int) := rfl
    omega
/-- The worst list is [1]. -/
theorem ex_worst {fs : List Int} (h : Fl exG fs) (hs : sumI fs ≤ 1) (hw : ∀ ts, Fl exG ts → sumI ts ≤ 1 → ¬ earlierP (runOf exB exG exL ts).dark (runOf exB exG exL fs).dark) : fs = [1] := by
  rcases ex_fl h hs with rfl | rfl
  · refine absurd ?_ (hw [1] ex_f1 (by decide))
    unfold runOf
    rw [ex_d0, ex_d1]
    decide
  · rfl
theorem ex_least {m : Int} (h : LeEnd exB exG exL 1 m) : m = 400 := by
  have h1 := h.1 [1] ex_f1 (by decide)
  rw [ex_k1] at h1
  rcases h.2 with h2 | ⟨ts, t1, t2, t3⟩
  · omega
  · rcases ex_fl t1 t2 with rfl | rfl
    · rw [ex_k0] at t3; omega
    · rw [ex_k1] at t3; omega
theorem ex_h1 : (runOf exB exG (holdL 100) [1]).dark = 10 := by
  unfold runOf
  rw [holdL_secs, show (4000 : Nat) = 10 + (1 + 3989) by rfl, ← List.replicate_append_replicate, show List.replicate (1 + 3989) (100 : Int) = 100 :: List.replicate 3989 100 by rw [Nat.add_comm]; rfl]
  rw [runL_dark (List.replicate 10 100) _ 100 0 _ (okL_of (by decide +kernel)) (by decide +kernel)]
  decide +kernel
theorem ex_h0 : (runOf exB exG (holdL 100) [0]).dark = -1 ∨ 60 ≤ (runOf exB exG (holdL 100) [0]).dark := by
  unfold runOf
  have hk : okL 0 (ply0 exB exG [0]) (List.replicate 60 100) := okL_of (by rw [← ex_secs]; exact ex_d0)
  rw [holdL_secs, show (4000 : Nat) = 60 + 3940 by rfl, ← List.replicate_append_replicate, runL_ok _ _ _ _ hk]
  have hd : (goL 0 (ply0 exB exG [0]) (List.replicate 60 100)).dark = -1 := by rw [← runL_all _ _ _ hk, ← ex_secs]; exact ex_d0
  have h := runL_dark_ge (List.replicate 3940 100) (0 + ((List.replicate 60 (100 : Int)).length : Int)) _ hd
  rw [List.length_replicate] at h ⊢
  exact h.imp id (fun e => by omega)
theorem ex_hold {m : Int} (h : HoldEnd exB exG 100 1 m) : m = 10 := by
  obtain ⟨fs, h1, h2, h3, h4⟩ := h
  rcases ex_fl h1 h2 with rfl | rfl
  · refine absurd ?_ (h3 [1] ex_f1 (by decide))
    rw [ex_h1]
    rcases ex_h0 with h5 | h5
    · exact ⟨by decide, Or.inl h5⟩
    · exact ⟨by decide, Or.inr (by omega)⟩
  · rw [ex_h1] at h4
    simpa using h4
end Go.Proofs.Ytnpkcipeacogcaa
