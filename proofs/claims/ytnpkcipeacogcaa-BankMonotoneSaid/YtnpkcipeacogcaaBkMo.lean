/- More energy, a smaller load, fewer fails: plain facts. -/
import Derived.Test.YtnpkcipeacogcaaBkNa

set_option linter.unusedSimpArgs false
set_option linter.unusedVariables false
namespace Go.Proofs.Ytnpkcipeacogcaa
open Go.RowKit

/-- A list of numbers that are nowhere greater, one by one. -/
def LeL : List Int → List Int → Prop
  | [], [] => True
  | a :: l, b :: m => a ≤ b ∧ LeL l m
  | _, _ => False
theorem LeL.refl : ∀ (l : List Int), LeL l l := by
  intro l
  induction l with
  | nil => trivial
  | cons a l ih => exact ⟨Int.le_refl _, ih⟩
theorem LeL.len : ∀ {l m : List Int}, LeL l m → l.length = m.length := by
  intro l
  induction l with
  | nil => intro m h; cases m with
    | nil => rfl
    | cons => exact h.elim
  | cons a l ih => intro m h; cases m with
    | nil => exact h.elim
    | cons b m => simp only [List.length_cons, ih h.2]
theorem LeL.at_ : ∀ {l m : List Int}, LeL l m → ∀ {i : Nat} {a : Int}, l[i]? = some a → ∃ b, m[i]? = some b ∧ a ≤ b := by
  intro l
  induction l with
  | nil => intro m h i a ha; simp at ha
  | cons x l ih => intro m h; cases m with
    | nil => exact h.elim
    | cons y m =>
      intro i a ha
      cases i with
      | zero => simp at ha; subst ha; exact ⟨y, rfl, h.1⟩
      | succ i => simp at ha; obtain ⟨b, h1, h2⟩ := ih h.2 ha; exact ⟨b, by simpa using h1, h2⟩
theorem LeL.append : ∀ {l m l' m' : List Int}, LeL l m → LeL l' m' → LeL (l ++ l') (m ++ m') := by
  intro l
  induction l with
  | nil => intro m l' m' h k; cases m with
    | nil => exact k
    | cons => exact h.elim
  | cons a l ih => intro m l' m' h k; cases m with
    | nil => exact h.elim
    | cons b m => exact ⟨h.1, ih h.2 k⟩
theorem LeL.rep {a b : Int} (h : a ≤ b) : ∀ (n : Nat), LeL (List.replicate n a) (List.replicate n b) := by
  intro n
  induction n with
  | zero => trivial
  | succ n ih => exact ⟨h, ih⟩
/-- A battery that has no more. -/
def CelLe (c d : Cel) : Prop := d.bat.full = c.bat.full ∧ d.bat.power = c.bat.power ∧ d.bat.charge = c.bat.charge ∧ c.held ≤ d.held
def CelsLe : List Cel → List Cel → Prop
  | [], [] => True
  | c :: cs, d :: ds => CelLe c d ∧ CelsLe cs ds
  | _, _ => False
/-- It runs never later. -/
def SinceLe (a b : Int) : Prop := a = -1 ∨ (b ≠ -1 ∧ b ≤ a)
def EngLe (c d : Eng) : Prop := d.gen = c.gen ∧ SinceLe c.since d.since
def EngsLe : List Eng → List Eng → Prop
  | [], [] => True
  | c :: cs, d :: ds => EngLe c d ∧ EngsLe cs ds
  | _, _ => False
def PlyLe (p q : Ply) : Prop := CelsLe p.cs q.cs ∧ EngsLe p.es q.es
theorem CelsLe.sumA : ∀ {cs ds : List Cel}, CelsLe cs ds → Go.Proofs.Ytnpkcipeacogcaa.sumA cs ≤ Go.Proofs.Ytnpkcipeacogcaa.sumA ds := by
  intro cs
  induction cs with
  | nil => intro ds h; cases ds with
    | nil => exact Int.le_refl _
    | cons => exact h.elim
  | cons c cs ih => intro ds h; cases ds with
    | nil => exact h.elim
    | cons d ds =>
      obtain ⟨⟨h1, h2, h3, h4⟩, h5⟩ := h
      have := ih h5
      simp only [Go.Proofs.Ytnpkcipeacogcaa.sumA, Cel.able, h2]
      omega
theorem spareAt_le {t a b : Int} {g : Gen} (hg : GenOk g) (h : SinceLe a b) : spareAt t g a ≤ spareAt t g b := by
  have h0 := spareAt_bd (t := t) (s := b) hg (fun _ => by omega)
  unfold SinceLe at h
  have hr := hg.r0
  by_cases h1 : a = -1
  · have : spareAt t g a = 0 := by unfold spareAt; rw [if_pos h1]
    omega
  · obtain ⟨h2, h3⟩ := h.resolve_left h1
    by_cases h4 : t < a
    · have : spareAt t g a = 0 := by unfold spareAt; rw [if_neg h1, if_pos h4]
      omega
    · unfold spareAt
      rw [if_neg h1, if_neg h4, if_neg h2, if_neg (by omega)]
      have : g.ramp * (t - a + 1) ≤ g.ramp * (t - b + 1) := Int.mul_le_mul_of_nonneg_left (by omega) hr
      omega
theorem EngsLe.ready {t : Int} : ∀ {es fs : List Eng}, EngsLe es fs → (∀ e ∈ es, GenOk e.gen) → EngsLe (readyL t es) (readyL t fs) ∧ sumS (readyL t es) ≤ sumS (readyL t fs) := by
  intro es
  induction es with
  | nil => intro fs h _; cases fs with
    | nil => exact ⟨trivial, Int.le_refl _⟩
    | cons => exact h.elim
  | cons e es ih => intro fs h hg; cases fs with
    | nil => exact h.elim
    | cons f fs =>
      obtain ⟨⟨h1, h2⟩, h3⟩ := h
      obtain ⟨i1, i2⟩ := ih h3 (fun z hz => hg z (List.mem_cons_of_mem _ hz))
      have h4 := spareAt_le (t := t) (hg e (List.mem_cons_self ..)) h2
      refine ⟨⟨⟨h1, h2⟩, i1⟩, ?_⟩
      simp only [readyL, List.map_cons, sumS, Eng.ready, h1] at i2 ⊢
      omega
/-- The generators stay what they are. -/
theorem acc_since {m : Int} : ∀ (es : List Eng) (g : Int) (fs : List Eng), EngsLe fs es → EngsLe fs (accL (drawF m) g es).1 := by
  intro es
  induction es with
  | nil => intro g fs h; exact h
  | cons e es ih => intro g fs h; cases fs with
    | nil => exact h.elim
    | cons f fs => exact ⟨h.1, ih _ _ h.2⟩
theorem acc_since' {m : Int} : ∀ (es : List Eng) (g : Int) (fs : List Eng), EngsLe es fs → EngsLe (accL (drawF m) g es).1 fs := by
  intro es
  induction es with
  | nil => intro g fs h; exact h
  | cons e es ih => intro g fs h; cases fs with
    | nil => exact h.elim
    | cons f fs => exact ⟨h.1, ih _ _ h.2⟩
theorem charge_since : ∀ (cs : List Cel) (es fs : List Eng), EngsLe fs es → EngsLe fs (accL chargeF es cs).2 := by
  intro cs
  induction cs with
  | nil => intro es fs h; exact h
  | cons c cs ih => intro es fs h; exact ih _ _ (acc_since _ _ _ h)
theorem charge_since' : ∀ (cs : List Cel) (es fs : List Eng), EngsLe es fs → EngsLe (accL chargeF es cs).2 fs := by
  intro cs
  induction cs with
  | nil => intro es fs h; exact h
  | cons c cs ih => intro es fs h; exact ih _ _ (acc_since' _ _ _ h)
theorem draw_rest {m : Int} : ∀ (es : List Eng) (g : Int), sumS (accL (drawF m) g es).1 = sumS es - ((accL (drawF m) g es).2 - g) := by
  intro es
  induction es with
  | nil => intro g; simp only [accL, sumS]; omega
  | cons e es ih =>
    intro g
    have h := ih (drawF m g e).2
    simp only [accL, sumS, h]
    show (e.spare - min e.spare (m - g)) + _ = _
    show _ + (_ - ((accL (drawF m) (g + min e.spare (m - g)) es).2 - (g + min e.spare (m - g)))) = _ + _ - ((accL (drawF m) (g + min e.spare (m - g)) es).2 - g)
    omega
theorem give_le : ∀ {cs ds : List Cel} {n m : Int}, CelsLe cs ds → (∀ c ∈ cs, CelOk c) → (∀ c ∈ ds, CelOk c) → 0 ≤ m → m ≤ n → CelsLe (accL giveF n cs).1 (accL giveF m ds).1 := by
  intro cs
  induction cs with
  | nil => intro ds n m h _ _ _ _; cases ds with
    | nil => trivial
    | cons => exact h.elim
  | cons c cs ih => intro ds n m h hc hd h0 h1; cases ds with
    | nil => exact h.elim
    | cons d ds =>
      obtain ⟨⟨e1, e2, e3, e4⟩, h5⟩ := h
      have a1 := hc c (List.mem_cons_self ..)
      have a2 := hd d (List.mem_cons_self ..)
      have b1 := a1.h0
      have b2 := a1.bat.p0
      have b3 := a2.h0
      simp only [accL]
      refine ⟨⟨e1, e2, e3, ?_⟩, ih h5 (fun z hz => hc z (List.mem_cons_of_mem _ hz)) (fun z hz => hd z (List.mem_cons_of_mem _ hz)) ?_ ?_⟩
      all_goals (simp only [giveF, Cel.able, e2]; omega)
theorem charge_le {B : Int} : ∀ {cs ds : List Cel} {es fs : List Eng}, CelsLe cs ds → (∀ c ∈ cs, CelOk c) → (∀ c ∈ ds, CelOk c) → (∀ e ∈ es, EngOk B e) → (∀ e ∈ fs, EngOk B e) → sumS es ≤ sumS fs → CelsLe (accL chargeF es cs).1 (accL chargeF fs ds).1 := by
  intro cs
  induction cs with
  | nil => intro ds es fs h _ _ _ _ _; cases ds with
    | nil => trivial
    | cons => exact h.elim
  | cons c cs ih => intro ds es fs h hc hd he hf hs; cases ds with
    | nil => exact h.elim
    | cons d ds =>
      obtain ⟨⟨e1, e2, e3, e4⟩, h5⟩ := h
      have a1 := hc c (List.mem_cons_self ..)
      have a2 := hd d (List.mem_cons_self ..)
      have r1 := Cel.room_bd a1
      have r2 := Cel.room_bd a2
      have d1 : (drawL c.room es).2 = min c.room (0 + sumS es) := draw_all he r1.1
      have d2 : (drawL d.room fs).2 = min d.room (0 + sumS fs) := draw_all hf r2.1
      have d3 : sumS (drawL c.room es).1 = sumS es - ((drawL c.room es).2 - 0) := draw_rest es 0
      have d4 : sumS (drawL d.room fs).1 = sumS fs - ((drawL d.room fs).2 - 0) := draw_rest fs 0
      have s1 := sumS_nn he
      have s2 := sumS_nn hf
      have hrc : c.room = min c.bat.charge (c.bat.full - c.held) := rfl
      have hrd : d.room = min d.bat.charge (d.bat.full - d.held) := rfl
      rw [e1, e3] at hrd
      simp only [accL]
      refine ⟨⟨e1, e2, e3, ?_⟩, ih h5 (fun z hz => hc z (List.mem_cons_of_mem _ hz)) (fun z hz => hd z (List.mem_cons_of_mem _ hz)) (drawL_ok r1.1 he).1 (drawL_ok r2.1 hf).1 ?_⟩
      · show c.held + (drawL c.room es).2 ≤ d.held + (drawL d.room fs).2
        omega
      · show sumS (drawL c.room es).1 ≤ sumS (drawL d.room fs).1
        omega
theorem serve_le {B x y : Int} {p q : Ply} (h : PlyLe p q) (hs : sumS p.es ≤ sumS q.es) (hx : y ≤ x) (hy : 0 ≤ y) (hpc : ∀ c ∈ p.cs, CelOk c) (hqc : ∀ c ∈ q.cs, CelOk c) (hpe : ∀ e ∈ p.es, EngOk B e) (hqe : ∀ e ∈ q.es, EngOk B e) : PlyLe (serveP p x) (serveP q y) := by
  have d1 : (drawL x p.es).2 = min x (0 + sumS p.es) := draw_all hpe (by omega)
  have d2 : (drawL y q.es).2 = min y (0 + sumS q.es) := draw_all hqe (by omega)
  have d3 : sumS (drawL x p.es).1 = sumS p.es - ((drawL x p.es).2 - 0) := draw_rest p.es 0
  have d4 : sumS (drawL y q.es).1 = sumS q.es - ((drawL y q.es).2 - 0) := draw_rest q.es 0
  have s1 := sumS_nn hpe
  have s2 := sumS_nn hqe
  have n0 : 0 ≤ needOf q.es y := by unfold needOf; omega
  have n1 : needOf q.es y ≤ needOf p.es x := by unfold needOf; omega
  have g := give_le h.1 hpc hqc n0 n1
  refine ⟨charge_le (B := B) g (giveL_ok (by omega) hpc).1 (giveL_ok n0 hqc).1 (drawL_ok (by omega) hpe).1 (drawL_ok hy hqe).1 (by omega), ?_⟩
  exact charge_since _ _ _ (charge_since' _ _ _ (acc_since _ _ _ (acc_since' _ _ _ h.2)))
theorem go_le {T t x y : Int} {p q : Ply} (h : PlyLe p q) (op : PlyOk T p) (oq : PlyOk T q) (hx : y ≤ x) (hy : 0 ≤ y) : PlyLe (goP t p x) (goP t q y) ∧ (okP t p x = true → okP t q y = true) := by
  obtain ⟨r1, r2⟩ := h.2.ready (t := t) (fun e he => (op.es e he).1.gen)
  have ha := h.1.sumA
  refine ⟨serve_le (p := readyP t p) (q := readyP t q) ⟨h.1, r1⟩ r2 hx hy op.cs oq.cs op.ready oq.ready, fun ho => ?_⟩
  have h1 : x ≤ sumS (readyL t p.es) + sumA p.cs := of_decide_eq_true ho
  exact decide_eq_true (show y ≤ sumS (readyL t q.es) + sumA q.cs by omega)
theorem CelsLe.en : ∀ {cs ds : List Cel}, CelsLe cs ds → LeL (cs.map Cel.held) (ds.map Cel.held) := by
  intro cs
  induction cs with
  | nil => intro ds h; cases ds with
    | nil => trivial
    | cons => exact h.elim
  | cons c cs ih => intro ds h; cases ds with
    | nil => exact h.elim
    | cons d ds => exact ⟨h.1.2.2.2, ih h.2⟩
/-- Rows of a trace that are nowhere greater, as far as there are any. -/
def RowsLe (r s : List (List Int)) : Prop := ∀ (i : Nat) (a : List Int), r[i]? = some a → ∃ b, s[i]? = some b ∧ LeL a b
/-- More energy, a smaller load and generators that run not later: it is dark not earlier, and no battery has less. -/
theorem run_le : ∀ {l m : List Int} {T t : Int} {p q : Ply}, 0 ≤ t → PlyLe p q → PlyOk T p → PlyOk T q → LeL m l → (∀ x ∈ l, 0 ≤ x ∧ x ≤ 1000000) → (∀ x ∈ m, 0 ≤ x ∧ x ≤ 1000000) → p.dark = -1 → q.dark = -1 →
    ((runL t q m).dark < 0 ∨ (0 ≤ (runL t p l).dark ∧ (runL t p l).dark ≤ (runL t q m).dark)) ∧ RowsLe (traceL t p l) (traceL t q m) := by
  intro l
  induction l with
  | nil =>
    intro m T t p q _ _ _ _ hl _ _ hp hq
    cases m with
    | nil => exact ⟨Or.inl (by show q.dark < 0; omega), fun i a ha => by simp [traceL] at ha⟩
    | cons => exact hl.elim
  | cons x l ih =>
    intro m T t p q ht h op oq hl hx hy hp hq
    cases m with
    | nil => exact hl.elim
    | cons y m =>
      have hx0 := hx x (List.mem_cons_self ..)
      have hy0 := hy y (List.mem_cons_self ..)
      obtain ⟨g1, g2⟩ := go_le (t := t) h op oq hl.1 hy0.1
      by_cases ho : okP t p x = true
      · have i := ih (t := t + 1) (by omega) g1 (op.go (t := t) hx0.1 hx0.2) (oq.go (t := t) hy0.1 hy0.2) hl.2 (fun z hz => hx z (List.mem_cons_of_mem _ hz)) (fun z hz => hy z (List.mem_cons_of_mem _ hz)) hp hq
        simp only [runL, traceL, if_pos ho, if_pos (g2 ho)]
        refine ⟨i.1, fun j a ha => ?_⟩
        cases j with
        | zero => simp at ha; subst ha; exact ⟨_, rfl, g1.1.en⟩
        | succ j => simp at ha; obtain ⟨b, b1, b2⟩ := i.2 j a ha; exact ⟨b, by simpa using b1, b2⟩
      · simp only [runL, traceL, if_neg ho]
        refine ⟨?_, fun i a ha => by simp at ha⟩
        have hd : (darkP t p).dark = t := rfl
        rw [hd]
        have hdk : ∀ (l : List Int) (s : Int) (p : Ply), p.dark = -1 → s ≥ t → (runL s p l).dark < 0 ∨ t ≤ (runL s p l).dark := by
          intro l
          induction l with
          | nil => intro s p hp hs; left; show p.dark < 0; omega
          | cons z l ihl =>
            intro s p hp hs
            simp only [runL]
            split
            · exact ihl _ _ hp (by omega)
            · right; exact hs
        rcases hdk (y :: m) t q hq (Int.le_refl _) with h1 | h1
        · exact Or.inl h1
        · exact Or.inr ⟨ht, h1⟩
end Go.Proofs.Ytnpkcipeacogcaa
