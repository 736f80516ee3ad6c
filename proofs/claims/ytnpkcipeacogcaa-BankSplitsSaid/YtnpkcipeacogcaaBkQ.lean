/- Lists of fails, one after the other: plain. -/
import Derived.Test.YtnpkcipeacogcaaBkJ

set_option linter.unusedSimpArgs false
set_option linter.unusedVariables false
namespace Go.Proofs.Ytnpkcipeacogcaa
open Go.RowKit

def sumI : List Int → Int
  | [] => 0
  | x :: l => x + sumI l
theorem sumI_append (a b : List Int) : sumI (a ++ b) = sumI a + sumI b := by
  induction a with
  | nil => simp [sumI]
  | cons x a ih => simp only [List.cons_append, sumI, ih]; omega
theorem sumI_take {l : List Int} {k : Nat} {x : Int} (h : l[k]? = some x) : sumI (l.take (k + 1)) = sumI (l.take k) + x := by
  rw [take_at h, sumI_append]
  simp [sumI]
def zer (l : List Int) : List Int := List.replicate l.length 0
/-- The next list of fails whose sum is at most b. -/
def advL : List Gen → List Int → Int → Option (List Int)
  | g :: gs, f :: fs, b => match advL gs fs (b - f) with
    | some r => some (f :: r)
    | none => if f < g.tries ∧ f < b then some ((f + 1) :: zer fs) else none
  | _, _, _ => none
/-- The place of a list in the order. -/
def rnk : List Gen → List Int → Int
  | _ :: gs, f :: fs => f * cntL gs + rnk gs fs
  | _, _ => 0
/-- A list of fails of generators. -/
inductive Fl : List Gen → List Int → Prop
  | nil : Fl [] []
  | cons {g : Gen} {gs : List Gen} {f : Int} {fs : List Int} : 0 ≤ f → f ≤ g.tries → Fl gs fs → Fl (g :: gs) (f :: fs)
theorem Fl.length {gs : List Gen} {fs : List Int} (h : Fl gs fs) : fs.length = gs.length := by
  induction h with
  | nil => rfl
  | cons _ _ _ ih => simp [ih]
theorem Fl.ok {gs : List Gen} {fs : List Int} (h : Fl gs fs) : FailsOk gs fs := by
  induction h with
  | nil => exact ⟨rfl, fun i g f h => by simp at h⟩
  | cons h1 h2 h3 ih =>
    refine ⟨by simp [ih.1], fun i g f hg hf => ?_⟩
    cases i with
    | zero =>
      simp only [List.getElem?_cons_zero, Option.some.injEq] at hg hf
      subst hg hf
      exact ⟨h1, h2⟩
    | succ i => exact ih.2 i g f (by simpa using hg) (by simpa using hf)
theorem Fl.of_ok : ∀ {gs : List Gen} {fs : List Int}, FailsOk gs fs → Fl gs fs := by
  intro gs
  induction gs with
  | nil => intro fs h; have := h.1; simp at this; subst this; exact .nil
  | cons g gs ih =>
    intro fs h
    cases fs with
    | nil => have := h.1; simp at this
    | cons f fs =>
      obtain ⟨h1, h2⟩ := h.2 0 g f rfl rfl
      exact .cons h1 h2 (ih ⟨by have := h.1; simpa using this, fun i g' f' hg hf => h.2 (i + 1) g' f' (by simpa using hg) (by simpa using hf)⟩)
theorem Fl.sum {gs : List Gen} {fs : List Int} (h : Fl gs fs) : 0 ≤ sumI fs := by
  induction h with
  | nil => simp [sumI]
  | cons _ _ _ ih => simp only [sumI]; omega
theorem sumI_zer (l : List Int) : sumI (zer l) = 0 := by
  unfold zer
  induction l with
  | nil => rfl
  | cons x l ih => simp only [List.length_cons, List.replicate_succ, sumI, ih]; omega
theorem Fl.zer {gs : List Gen} {fs : List Int} (h : Fl gs fs) : Fl gs (zer fs) := by
  induction h with
  | nil => exact .nil
  | cons h1 h2 _ ih => exact .cons (Int.le_refl _) (by omega) ih
theorem Fl.zeros : ∀ {gs : List Gen}, (∀ g ∈ gs, GenOk g) → Fl gs (List.replicate gs.length 0) := by
  intro gs
  induction gs with
  | nil => intro _; exact .nil
  | cons g gs ih => intro h; exact .cons (Int.le_refl _) (by have := (h g (List.mem_cons_self ..)).t0; omega) (ih fun x hx => h x (List.mem_cons_of_mem _ hx))
theorem rnk_zer : ∀ (gs : List Gen) (n : Nat), rnk gs (List.replicate n 0) = 0 := by
  intro gs
  induction gs with
  | nil => intro n; cases n <;> rfl
  | cons g gs ih =>
    intro n
    cases n with
    | zero => rfl
    | succ n => simp only [List.replicate_succ, rnk, ih]; omega
theorem rnk_bd {gs : List Gen} {fs : List Int} (hg : ∀ g ∈ gs, GenOk g) (h : Fl gs fs) : 0 ≤ rnk gs fs ∧ rnk gs fs < cntL gs := by
  induction h with
  | nil => simp [rnk, cntL]
  | @cons g gs f fs h1 h2 h3 ih =>
    obtain ⟨k1, k2⟩ := ih (fun x hx => hg x (List.mem_cons_of_mem _ hx))
    simp only [rnk, cntL]
    have m1 : 0 ≤ f * cntL gs := Int.mul_nonneg h1 (by omega)
    have m2 : f * cntL gs ≤ g.tries * cntL gs := Int.mul_le_mul_of_nonneg_right h2 (by omega)
    rw [Int.add_mul]
    omega
theorem mul_step {a b c : Int} (h : a < b) (hc : 0 ≤ c) : a * c + c ≤ b * c := by
  have : (a + 1) * c ≤ b * c := Int.mul_le_mul_of_nonneg_right (by omega) hc
  rw [Int.add_mul] at this
  omega
theorem rnk_inj {gs : List Gen} {fs : List Int} (hg : ∀ g ∈ gs, GenOk g) (h : Fl gs fs) : ∀ {ts : List Int}, Fl gs ts → rnk gs fs = rnk gs ts → fs = ts := by
  induction h with
  | nil => intro ts ht _; cases ht; rfl
  | @cons g gs f fs h1 h2 h3 ih =>
    intro ts ht e
    cases ht with
    | @cons _ _ t ts t1 t2 t3 =>
      have hg' : ∀ x ∈ gs, GenOk x := fun x hx => hg x (List.mem_cons_of_mem _ hx)
      obtain ⟨k1, k2⟩ := rnk_bd hg' h3
      obtain ⟨l1, l2⟩ := rnk_bd hg' t3
      simp only [rnk] at e
      have hft : f = t := by
        rcases Int.lt_trichotomy f t with hlt | heq | hlt
        · have := mul_step hlt (c := cntL gs) (by omega); omega
        · exact heq
        · have := mul_step hlt (c := cntL gs) (by omega); omega
      subst hft
      rw [ih hg' t3 (by omega)]
theorem advL_none' {gs : List Gen} {fs : List Int} (hg : ∀ g ∈ gs, GenOk g) (h : Fl gs fs) : ∀ {b : Int}, advL gs fs b = none → ∀ ts, Fl gs ts → sumI ts ≤ b → ¬ rnk gs fs < rnk gs ts := by
  induction h with
  | nil => intro b _ ts ht _; cases ht; simp [rnk]
  | @cons g gs f fs h1 h2 h3 ih =>
    intro b hr ts ht hts hlt
    have hg' : ∀ x ∈ gs, GenOk x := fun x hx => hg x (List.mem_cons_of_mem _ hx)
    obtain ⟨k1, k2⟩ := rnk_bd hg' h3
    simp only [advL] at hr
    cases ha : advL gs fs (b - f) with
    | some r' => rw [ha] at hr; cases hr
    | none =>
      rw [ha] at hr
      simp only at hr
      split at hr
      · cases hr
      · rename_i hc
        cases ht with
        | @cons _ _ t ts t1 t2 t3 =>
          simp only [rnk, sumI] at hlt hts
          obtain ⟨m1, m2⟩ := rnk_bd hg' t3
          have hsum := t3.sum
          rcases Int.lt_trichotomy f t with h | heq | h
          · exact hc ⟨by omega, by omega⟩
          · subst heq
            exact ih hg' ha ts t3 (by omega) (by omega)
          · have := mul_step h (c := cntL gs) (by omega); omega
/-- The next list is the least of those behind. -/
theorem advL_some {gs : List Gen} {fs : List Int} (hg : ∀ g ∈ gs, GenOk g) (h : Fl gs fs) : ∀ {b : Int} {r : List Int}, sumI fs ≤ b → advL gs fs b = some r → Fl gs r ∧ sumI r ≤ b ∧ rnk gs fs < rnk gs r ∧ ∀ ts, Fl gs ts → sumI ts ≤ b → rnk gs fs < rnk gs ts → rnk gs r ≤ rnk gs ts := by
  induction h with
  | nil => intro b r _ h; simp [advL] at h
  | @cons g gs f fs h1 h2 h3 ih =>
    intro b r hs hr
    have hg' : ∀ x ∈ gs, GenOk x := fun x hx => hg x (List.mem_cons_of_mem _ hx)
    obtain ⟨k1, k2⟩ := rnk_bd hg' h3
    simp only [sumI] at hs
    simp only [advL] at hr
    cases ha : advL gs fs (b - f) with
    | some r' =>
      rw [ha] at hr
      simp only [Option.some.injEq] at hr
      subst hr
      obtain ⟨q1, q2, q3, q4⟩ := ih hg' (by omega) ha
      obtain ⟨l1, l2⟩ := rnk_bd hg' q1
      refine ⟨.cons h1 h2 q1, by simp only [sumI]; omega, by simp only [rnk]; omega, fun ts ht hts hlt => ?_⟩
      cases ht with
      | @cons _ _ t ts t1 t2 t3 =>
        simp only [rnk, sumI] at hlt hts ⊢
        obtain ⟨m1, m2⟩ := rnk_bd hg' t3
        rcases Int.lt_trichotomy f t with h | heq | h
        · have := mul_step h (c := cntL gs) (by omega); omega
        · subst heq
          have := q4 ts t3 (by omega) (by omega)
          omega
        · have := mul_step h (c := cntL gs) (by omega); omega
    | none =>
      rw [ha] at hr
      simp only at hr
      split at hr
      · rename_i hc
        simp only [Option.some.injEq] at hr
        subst hr
        have hz := h3.zer
        have ez : rnk gs (zer fs) = 0 := rnk_zer gs fs.length
        refine ⟨.cons (by omega) (by omega) hz, by simp only [sumI, sumI_zer]; omega, ?_, fun ts ht hts hlt => ?_⟩
        · simp only [rnk, ez]
          rw [Int.add_mul]
          omega
        · cases ht with
          | @cons _ _ t ts t1 t2 t3 =>
            simp only [rnk, sumI, ez] at hlt hts ⊢
            obtain ⟨m1, m2⟩ := rnk_bd hg' t3
            rcases Int.lt_trichotomy f t with h | heq | h
            · have := mul_step h (c := cntL gs) (by omega)
              rw [Int.add_mul]
              omega
            · subst heq
              exfalso
              exact (advL_none' hg' h3 (b := b - f) ha ts t3 (by omega)) (by omega)
            · have := mul_step h (c := cntL gs) (by omega); omega
      · cases hr
/-- The search from the tail: what lies behind place k has no next one. -/
theorem advL_at {gs : List Gen} {fs : List Int} (h : Fl gs fs) : ∀ {b : Int} {k : Nat} {g : Gen} {f : Int}, gs[k]? = some g → fs[k]? = some f → advL (gs.drop (k + 1)) (fs.drop (k + 1)) (b - sumI (fs.take (k + 1))) = none →
    advL gs fs b = (if f < g.tries ∧ sumI (fs.take (k + 1)) < b then some (fs.take k ++ (f + 1) :: zer (fs.drop (k + 1))) else advL gs fs b) ∧ ((¬ (f < g.tries ∧ sumI (fs.take (k + 1)) < b)) → advL (gs.drop k) (fs.drop k) (b - sumI (fs.take k)) = none) := by
  induction h with
  | nil => intro b k g f hg; simp at hg
  | @cons g0 gs f0 fs h1 h2 h3 ih =>
    intro b k g f hg hf hn
    cases k with
    | zero =>
      simp only [List.getElem?_cons_zero, Option.some.injEq] at hg hf
      subst hg hf
      simp only [List.drop_succ_cons, List.drop_zero, List.take_succ_cons, List.take_zero, sumI] at hn
      rw [show b - (f0 + 0) = b - f0 by omega] at hn
      constructor
      · split
        · rename_i hc
          simp only [advL, hn]
          rw [if_pos ⟨hc.1, by simp only [List.take_succ_cons, List.take_zero, sumI] at hc; omega⟩]
          simp
        · rfl
      · intro hc
        simp only [List.take_succ_cons, List.take_zero, sumI, List.drop_zero] at hc ⊢
        simp only [advL]
        rw [show b - 0 - f0 = b - f0 by omega, hn]
        rw [if_neg (fun h => hc ⟨h.1, by omega⟩)]
    | succ k =>
      have hg' : gs[k]? = some g := by simpa using hg
      have hf' : fs[k]? = some f := by simpa using hf
      simp only [List.drop_succ_cons, List.take_succ_cons, sumI] at hn
      rw [show b - (f0 + sumI (fs.take (k + 1))) = (b - f0) - sumI (fs.take (k + 1)) by omega] at hn
      obtain ⟨i1, i2⟩ := ih (b := b - f0) hg' hf' hn
      constructor
      · split
        · rename_i hc
          simp only [List.take_succ_cons, sumI] at hc
          rw [if_pos ⟨hc.1, by omega⟩] at i1
          simp only [advL, i1]
          simp
        · rfl
      · intro hc
        simp only [List.take_succ_cons, sumI] at hc
        have := i2 (fun h => hc ⟨h.1, by omega⟩)
        simp only [List.drop_succ_cons, List.take_succ_cons, sumI]
        rw [show b - (f0 + sumI (fs.take k)) = b - f0 - sumI (fs.take k) by omega]
        exact this
theorem advL_none {gs : List Gen} {fs : List Int} (hg : ∀ g ∈ gs, GenOk g) (h : Fl gs fs) {b : Int} (hn : advL gs fs b = none) (ts : List Int) (ht : Fl gs ts) (hts : sumI ts ≤ b) : rnk gs ts ≤ rnk gs fs := by
  have := advL_none' hg h hn ts ht hts
  omega
/-- What has been seen, and where the search stands. -/
structure Seen (gs : List Gen) (b : Int) (ys : List (List Int)) (cur : List Int) : Prop where
  fl : Fl gs cur
  sm : sumI cur ≤ b
  ok : ∀ y ∈ ys, Fl gs y ∧ sumI y ≤ b
  all : ∀ ts, Fl gs ts → sumI ts ≤ b → ts ∈ ys ∨ rnk gs cur ≤ rnk gs ts
theorem Seen.start {gs : List Gen} {b : Int} (hg : ∀ g ∈ gs, GenOk g) (hb : 0 ≤ b) : Seen gs b [] (List.replicate gs.length 0) := by
  refine ⟨Fl.zeros hg, ?_, fun y hy => by simp at hy, fun ts ht _ => Or.inr ?_⟩
  · have := sumI_zer (List.replicate gs.length 0)
    unfold zer at this
    rw [List.length_replicate] at this
    omega
  · rw [rnk_zer]
    exact (rnk_bd hg ht).1
theorem Seen.step {gs : List Gen} {b : Int} {ys : List (List Int)} {cur r : List Int} (hg : ∀ g ∈ gs, GenOk g) (h : Seen gs b ys cur) (hr : advL gs cur b = some r) : Seen gs b (ys ++ [cur]) r ∧ rnk gs cur < rnk gs r := by
  obtain ⟨q1, q2, q3, q4⟩ := advL_some hg h.fl h.sm hr
  refine ⟨⟨q1, q2, fun y hy => ?_, fun ts ht hts => ?_⟩, q3⟩
  · rcases List.mem_append.1 hy with hy | hy
    · exact h.ok y hy
    · rw [List.mem_singleton.1 hy]; exact ⟨h.fl, h.sm⟩
  · rcases h.all ts ht hts with h1 | h1
    · exact Or.inl (List.mem_append_left _ h1)
    · by_cases e : rnk gs cur = rnk gs ts
      · exact Or.inl (List.mem_append_right _ (by rw [rnk_inj hg h.fl ht e]; exact List.mem_singleton.2 rfl))
      · exact Or.inr (q4 ts ht hts (by omega))
/-- All lists of fails whose sum is at most b. -/
def AllOf (gs : List Gen) (b : Int) (ys : List (List Int)) : Prop := (∀ y ∈ ys, Fl gs y ∧ sumI y ≤ b) ∧ ∀ ts, Fl gs ts → sumI ts ≤ b → ts ∈ ys
theorem Seen.end_ {gs : List Gen} {b : Int} {ys : List (List Int)} {cur : List Int} (hg : ∀ g ∈ gs, GenOk g) (h : Seen gs b ys cur) (hr : advL gs cur b = none) : AllOf gs b (ys ++ [cur]) := by
  refine ⟨fun y hy => ?_, fun ts ht hts => ?_⟩
  · rcases List.mem_append.1 hy with hy | hy
    · exact h.ok y hy
    · rw [List.mem_singleton.1 hy]; exact ⟨h.fl, h.sm⟩
  · rcases h.all ts ht hts with h1 | h1
    · exact List.mem_append_left _ h1
    · have h2 := advL_none hg h.fl hr ts ht hts
      rw [rnk_inj hg h.fl ht (by omega)]
      exact List.mem_append_right _ (List.mem_singleton.2 rfl)
end Go.Proofs.Ytnpkcipeacogcaa
