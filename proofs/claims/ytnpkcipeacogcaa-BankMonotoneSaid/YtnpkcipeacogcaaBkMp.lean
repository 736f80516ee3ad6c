/- What BankMonotone makes of a bank, a load and a list of fails: plain facts. -/
import Derived.Test.YtnpkcipeacogcaaBkMo
import Derived.Test.YtnpkcipeacogcaaBkNb

set_option linter.unusedSimpArgs false
set_option linter.unusedVariables false
namespace Go.Proofs.Ytnpkcipeacogcaa
open Go.RowKit

/-- What the law makes of a battery, a span, a number of fails, with numbers that may be too few. -/
def moreB (m : Int) (b : Bat) : Bat := { b with energy := b.energy + ((b.full - b.energy) * m).tdiv 255 }
def lessS (m : Int) (s : Spn) : Spn := { s with power := s.power - (s.power * m).tdiv 255 }
def fewI (m f : Int) : Int := f - m.tmod (f + 1)
def zipF {α : Type} (g : Int → α → α) : List Int → α → α × List Int
  | [], a => (a, [])
  | m :: ms, a => (g m a, ms)
theorem zip_st {α : Type} {g : Int → α → α} : ∀ (l : List α) (ms : List Int) (k : Nat), k ≤ l.length → accSt (zipF g) ms l k = ms.drop k := by
  intro l ms k
  unfold accSt
  induction k generalizing l ms with
  | zero => intro _; simp [accL]
  | succ k ih =>
    intro hk
    cases l with
    | nil => simp at hk
    | cons a l =>
      cases ms with
      | nil =>
        have := ih l [] (by simpa using hk)
        simp only [List.take_succ_cons, accL, zipF, List.drop_nil] at this ⊢
        exact this
      | cons m ms =>
        have := ih l ms (by simpa using hk)
        simp only [List.take_succ_cons, accL, zipF, List.drop_succ_cons] at this ⊢
        exact this
/-- A turn of the loop: with a number, and without. -/
theorem zip_yes {α : Type} {g : Int → α → α} {l : List α} {ms : List Int} {k : Nat} {a : α} {m : Int} (h : l[k]? = some a) (hm : ms[k]? = some m) : accTo (zipF g) ms l (k + 1) = (accTo (zipF g) ms l k).set k (g m a) := by
  have hk : k < l.length := (List.getElem?_eq_some_iff.1 h).1
  rw [accTo_succ h, zip_st l ms k (by omega)]
  rw [drop_at hm]
  rfl
theorem zip_no {α : Type} {g : Int → α → α} {l : List α} {ms : List Int} {k : Nat} (hk : k < l.length) (hm : ms.length ≤ k) : accTo (zipF g) ms l (k + 1) = accTo (zipF g) ms l k := by
  have h : l[k]? = some l[k] := List.getElem?_eq_getElem hk
  rw [accTo_succ h, zip_st l ms k (by omega), List.drop_eq_nil_of_le hm]
  show (accTo (zipF g) ms l k).set k l[k] = _
  have h2 := accTo_at (f := zipF g) (s := ms) h
  obtain ⟨hk2, h3⟩ := List.getElem?_eq_some_iff.1 h2
  refine List.ext_getElem? fun i => ?_
  rw [List.getElem?_set]
  split
  · rename_i e; subst e; exact h2.symm
  · rfl
theorem zip_all {α : Type} {g : Int → α → α} {P : α → Prop} (hg : ∀ m a, 0 ≤ m ∧ m ≤ 255 → P a → P (g m a)) : ∀ {l : List α} {ms : List Int}, U8s ms → (∀ a ∈ l, P a) → ∀ a ∈ (accL (zipF g) ms l).1, P a := by
  intro l
  induction l with
  | nil => intro ms _ _ a ha; simp [accL] at ha
  | cons a l ih =>
    intro ms hu hl b hb
    have hl' : ∀ z ∈ l, P z := fun z hz => hl z (List.mem_cons_of_mem _ hz)
    have ha := hl a (List.mem_cons_self ..)
    cases ms with
    | nil =>
      rcases List.mem_cons.1 hb with rfl | hb
      · exact ha
      · exact ih hu hl' b hb
    | cons m ms =>
      rcases List.mem_cons.1 hb with rfl | hb
      · exact hg m a (hu m (List.mem_cons_self ..)) ha
      · exact ih (fun z hz => hu z (List.mem_cons_of_mem _ hz)) hl' b hb
theorem moreB_ok {m : Int} {b : Bat} (hm : 0 ≤ m ∧ m ≤ 255) (h : MdBat b) : MdBat (moreB m b) := by
  obtain ⟨⟨h1, h2, h3, h4, h5, h6, h7⟩, h8, h9, h10⟩ := h
  have := md_en (f := b.full - b.energy) (by omega) hm.1 hm.2
  exact ⟨⟨by simp only [moreB]; omega, by simp only [moreB]; omega, h3, h4, h5, h6, h7⟩, h8, h9, h10⟩
theorem lessS_ok {m : Int} {s : Spn} (hm : 0 ≤ m ∧ m ≤ 255) (h : LdOk s) : LdOk (lessS m s) := by
  obtain ⟨h1, h2, h3, h4⟩ := h
  have := md_en (f := s.power) h3 hm.1 hm.2
  exact ⟨h1, h2, by simp only [lessS]; omega, by simp only [lessS]; omega⟩
theorem more_le : ∀ {bs : List Bat} {ms : List Int}, U8s ms → (∀ b ∈ bs, MdBat b) → CelsLe (bs.map cel0) ((accL (zipF moreB) ms bs).1.map cel0) := by
  intro bs
  induction bs with
  | nil => intro ms _ _; trivial
  | cons b bs ih =>
    intro ms hu hb
    have hb' : ∀ z ∈ bs, MdBat z := fun z hz => hb z (List.mem_cons_of_mem _ hz)
    cases ms with
    | nil => exact ⟨⟨rfl, rfl, rfl, Int.le_refl _⟩, ih hu hb'⟩
    | cons m ms =>
      have hm := hu m (List.mem_cons_self ..)
      obtain ⟨⟨h1, h2, h3, h4, h5, h6, h7⟩, _⟩ := hb b (List.mem_cons_self ..)
      have := md_en (f := b.full - b.energy) (by omega) hm.1 hm.2
      refine ⟨⟨rfl, rfl, rfl, ?_⟩, ih (fun z hz => hu z (List.mem_cons_of_mem _ hz)) hb'⟩
      show b.energy ≤ b.energy + _
      omega
theorem less_le : ∀ {L : List Spn} {ms : List Int}, U8s ms → (∀ s ∈ L, LdOk s) → LeL (secsL (accL (zipF lessS) ms L).1) (secsL L) := by
  intro L
  induction L with
  | nil => intro ms _ _; trivial
  | cons s L ih =>
    intro ms hu hl
    have hl' : ∀ z ∈ L, LdOk z := fun z hz => hl z (List.mem_cons_of_mem _ hz)
    cases ms with
    | nil => exact LeL.append (LeL.refl _) (ih hu hl')
    | cons m ms =>
      have hm := hu m (List.mem_cons_self ..)
      obtain ⟨h1, h2, h3, h4⟩ := hl s (List.mem_cons_self ..)
      have := md_en (f := s.power) h3 hm.1 hm.2
      exact LeL.append (LeL.rep (show s.power - (s.power * m).tdiv 255 ≤ s.power by omega) _) (ih (fun z hz => hu z (List.mem_cons_of_mem _ hz)) hl')
theorem startOf_le {g : Gen} {f h : Int} (hg : GenOk g) (h0 : 0 ≤ h) (h1 : h ≤ f) (h2 : f ≤ g.tries) : SinceLe (startOf g f) (startOf g h) := by
  unfold SinceLe startOf
  by_cases e : f = g.tries
  · left; rw [if_pos e]
  · right
    rw [if_neg e, if_neg (by omega)]
    have d0 := hg.d0
    have q0 := hg.q0
    have k1 : (h + 1) * g.delay ≤ (f + 1) * g.delay := Int.mul_le_mul_of_nonneg_right (by omega) d0
    have k2 : h * g.pause ≤ f * g.pause := Int.mul_le_mul_of_nonneg_right h1 q0
    have k3 : 0 ≤ (h + 1) * g.delay := Int.mul_nonneg (by omega) d0
    have k4 : 0 ≤ h * g.pause := Int.mul_nonneg h0 q0
    omega
theorem few_le : ∀ {gs : List Gen} {fs ms : List Int}, U8s ms → (∀ g ∈ gs, GenOk g) → FailsOk gs fs → EngsLe (engs0 gs fs) (engs0 gs (accL (zipF fewI) ms fs).1) ∧ FailsOk gs (accL (zipF fewI) ms fs).1 := by
  intro gs
  induction gs with
  | nil =>
    intro fs ms _ _ h
    have : fs = [] := List.eq_nil_of_length_eq_zero h.1
    subst this
    exact ⟨trivial, rfl, fun i g f hg => by simp at hg⟩
  | cons g gs ih =>
    intro fs ms hu hg h
    cases fs with
    | nil => exact absurd h.1 (by simp)
    | cons f fs =>
      have hf := h.2 0 g f rfl rfl
      have hgo := hg g (List.mem_cons_self ..)
      have hg' : ∀ z ∈ gs, GenOk z := fun z hz => hg z (List.mem_cons_of_mem _ hz)
      have h' : FailsOk gs fs := ⟨by simpa using h.1, fun i g' f' a b => h.2 (i + 1) g' f' (by simpa using a) (by simpa using b)⟩
      have key : ∀ (x : Int) (l : List Int), 0 ≤ x → x ≤ f → EngsLe (engs0 gs fs) (engs0 gs l) → FailsOk gs l → EngsLe (engs0 (g :: gs) (f :: fs)) (engs0 (g :: gs) (x :: l)) ∧ FailsOk (g :: gs) (x :: l) := by
        intro x l hx0 hx1 k1 k2
        refine ⟨⟨⟨rfl, startOf_le hgo hx0 hx1 hf.2⟩, k1⟩, by simpa using k2.1, fun i g' f' a b => ?_⟩
        cases i with
        | zero => simp at a b; subst a b; exact ⟨hx0, by omega⟩
        | succ i => exact k2.2 i g' f' (by simpa using a) (by simpa using b)
      cases ms with
      | nil =>
        obtain ⟨i1, i2⟩ := ih hu hg' h'
        exact key f _ hf.1 (Int.le_refl _) i1 i2
      | cons m ms =>
        obtain ⟨i1, i2⟩ := ih (fun z hz => hu z (List.mem_cons_of_mem _ hz)) hg' h'
        have hm := tmod_bd (n := f + 1) (hu m (List.mem_cons_self ..)).1 (by omega)
        exact key (fewI m f) _ (by unfold fewI; omega) (by unfold fewI; omega) i1 i2
/-- BankMonotone on plain data. -/
theorem mono_is {bs cs : List Bat} {gs : List Gen} {L M : List Spn} {fs hs : List Int} (ok : ArgsOk bs gs L) (ok2 : ArgsOk cs gs M) (okf : FailsOk gs fs) (okh : FailsOk gs hs) (h1 : CelsLe (bs.map cel0) (cs.map cel0)) (h2 : LeL (secsL M) (secsL L)) (h3 : EngsLe (engs0 gs fs) (engs0 gs hs)) :
    laterP (runOf cs gs M hs).dark (runOf bs gs L fs).dark ∧ RowsLe (traceL 0 (ply0 bs gs fs) (secsL L)) (traceL 0 (ply0 cs gs hs) (secsL M)) :=
  run_le (Int.le_refl 0) ⟨h1, h3⟩ (ply0_ok ok.bat ok.gen (okf.bd ok.gen)) (ply0_ok ok2.bat ok.gen (okh.bd ok.gen)) h2 (secsL_bd ok.spn) (secsL_bd ok2.spn) rfl rfl
theorem RowsLe.len {r s : List (List Int)} (h : RowsLe r s) : r.length ≤ s.length := by
  refine Nat.le_of_not_lt fun hlt => ?_
  obtain ⟨b, hb, _⟩ := h s.length r[s.length] (List.getElem?_eq_getElem hlt)
  simp at hb
theorem accL_len {α : Type} {g : Int → α → α} (ms : List Int) (l : List α) : (accL (zipF g) ms l).1.length = l.length := accL_length l ms
end Go.Proofs.Ytnpkcipeacogcaa
