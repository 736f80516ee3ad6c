/- Marks that spread over links: so many rounds as there are buses reach all that can be reached. -/
import Derived.Test.YtnngdcidopaabaaGreatDoorConn

set_option linter.unusedSimpArgs false
set_option linter.unusedVariables false
namespace Go.Proofs.YtnngdcidopaabaaGreatDoor

/-- Is a bus marked? -/
def mk (W : List Bool) (i : Nat) : Bool := W[i]?.getD false
/-- One link: if one end is marked, both are. -/
def relax1 (W : List Bool) (a b : Nat) : List Bool := if mk W a || mk W b then (W.set a true).set b true else W
/-- The first k links, those that q names. -/
def relaxTo {B : Nat} (q : Nat → Lnk → Bool) (L : List (LnkOf B)) (W : List Bool) : Nat → List Bool
  | 0 => W
  | k + 1 => match L[k]? with
    | some x => if q k x.1 then relax1 (relaxTo q L W k) x.1.a.toNat x.1.b.toNat else relaxTo q L W k
    | none => relaxTo q L W k
def rounds {B : Nat} (q : Nat → Lnk → Bool) (L : List (LnkOf B)) (m : Nat) (W : List Bool) : Nat → List Bool
  | 0 => W
  | n + 1 => relaxTo q L (rounds q L m W n) m
theorem mk_set (W : List Bool) (a i : Nat) (ha : a < W.length) : mk (W.set a true) i = (mk W i || decide (a = i)) := by
  unfold mk
  rw [List.getElem?_set]
  by_cases h : a = i
  · subst h
    simp [ha]
  · simp [h]
theorem relax1_length (W : List Bool) (a b : Nat) : (relax1 W a b).length = W.length := by
  unfold relax1
  split <;> simp
theorem relaxTo_length {B : Nat} (q : Nat → Lnk → Bool) (L : List (LnkOf B)) (W : List Bool) (k : Nat) : (relaxTo q L W k).length = W.length := by
  induction k with
  | zero => rfl
  | succ k ih =>
    unfold relaxTo
    split
    · split
      · rw [relax1_length, ih]
      · exact ih
    · exact ih
theorem rounds_length {B : Nat} (q : Nat → Lnk → Bool) (L : List (LnkOf B)) (m : Nat) (W : List Bool) (n : Nat) : (rounds q L m W n).length = W.length := by
  induction n with
  | zero => rfl
  | succ n ih => rw [rounds, relaxTo_length, ih]
theorem mk_relax1 (W : List Bool) (a b i : Nat) (ha : a < W.length) (hb : b < W.length) : mk (relax1 W a b) i = (mk W i || (mk W a || mk W b) && (decide (a = i) || decide (b = i))) := by
  unfold relax1
  split
  · rename_i h
    rw [mk_set _ _ _ (by simpa using hb), mk_set _ _ _ ha, h]
    simp [Bool.or_assoc]
  · rename_i h
    have h : (mk W a || mk W b) = false := by simpa using h
    simp [h]
/-- What is written if just one end was marked. -/
theorem relax1_ne (W : List Bool) (a b : Nat) (ha : a < W.length) (hb : b < W.length) : relax1 W a b = if mk W a != mk W b then (W.set a true).set b true else W := by
  unfold relax1
  cases h1 : mk W a <;> cases h2 : mk W b <;> simp
  apply List.ext_getElem?
  intro i
  rw [List.getElem?_set, List.getElem?_set]
  unfold mk at h1 h2
  rw [List.getElem?_eq_getElem ha] at h1
  rw [List.getElem?_eq_getElem hb] at h2
  simp only [Option.getD_some] at h1 h2
  split
  · rename_i e
    subst e
    simp [hb, h2]
  · split
    · rename_i e
      subst e
      simp [ha, h1]
    · rfl
/-- One list of marks is within another. -/
def Within (W V : List Bool) : Prop := ∀ i, mk W i = true → mk V i = true
theorem Within.refl (W : List Bool) : Within W W := fun _ h => h
theorem Within.trans {U V W : List Bool} (h : Within U V) (k : Within V W) : Within U W := fun i hi => k i (h i hi)
theorem relax1_within (W : List Bool) (a b : Nat) (ha : a < W.length) (hb : b < W.length) : Within W (relax1 W a b) := fun i hi => by
  rw [mk_relax1 W a b i ha hb, hi]
  rfl
theorem ends {B : Nat} {L : List (LnkOf B)} {k : Nat} {x : LnkOf B} (_ : L[k]? = some x) : x.1.a.toNat < B ∧ x.1.b.toNat < B := by
  obtain ⟨⟨h1, h2⟩, h3, h4⟩ := x.2
  omega
theorem relaxTo_within {B : Nat} (q : Nat → Lnk → Bool) (L : List (LnkOf B)) (W : List Bool) (hW : W.length = B) (k : Nat) : Within W (relaxTo q L W k) := by
  induction k with
  | zero => exact Within.refl _
  | succ k ih =>
    unfold relaxTo
    split
    · rename_i x hx
      obtain ⟨h1, h2⟩ := ends hx
      split
      · exact ih.trans (relax1_within _ _ _ (by rw [relaxTo_length, hW]; exact h1) (by rw [relaxTo_length, hW]; exact h2))
      · exact ih
    · exact ih
theorem relaxTo_mono {B : Nat} (q : Nat → Lnk → Bool) (L : List (LnkOf B)) (W : List Bool) (hW : W.length = B) (k j : Nat) (hk : k ≤ j) : Within (relaxTo q L W k) (relaxTo q L W j) := by
  induction j with
  | zero =>
    obtain rfl : k = 0 := by omega
    exact Within.refl _
  | succ j ih =>
    rcases Nat.lt_or_ge j k with h | h
    · obtain rfl : k = j + 1 := by omega
      exact Within.refl _
    · refine (ih h).trans ?_
      conv => rhs; unfold relaxTo
      split
      · rename_i x hx
        obtain ⟨h1, h2⟩ := ends hx
        split
        · exact relax1_within _ _ _ (by rw [relaxTo_length, hW]; exact h1) (by rw [relaxTo_length, hW]; exact h2)
        · exact Within.refl _
      · exact Within.refl _
/-- No link that q names leads out of the marks. -/
def Shut {B : Nat} (q : Nat → Lnk → Bool) (L : List (LnkOf B)) (m : Nat) (W : List Bool) : Prop := ∀ (k : Nat) (x : LnkOf B), k < m → L[k]? = some x → q k x.1 = true → mk W x.1.a.toNat = mk W x.1.b.toNat
theorem relaxTo_shut {B : Nat} {q : Nat → Lnk → Bool} {L : List (LnkOf B)} {m : Nat} {W : List Bool} (hW : W.length = B) (h : Shut q L m W) : ∀ k, k ≤ m → relaxTo q L W k = W := by
  intro k
  induction k with
  | zero => intro _; rfl
  | succ k ih =>
    intro hk
    unfold relaxTo
    split
    · rename_i x hx
      obtain ⟨h1, h2⟩ := ends hx
      split
      · rename_i hq
        rw [ih (by omega), relax1_ne W _ _ (by omega) (by omega), h k x (by omega) hx hq]
        simp
      · exact ih (by omega)
    · exact ih (by omega)
theorem same_marks {W V : List Bool} (hl : W.length = V.length) (h : ∀ i, mk W i = mk V i) : W = V := by
  apply List.ext_getElem hl
  intro i h1 h2
  have := h i
  unfold mk at this
  rw [List.getElem?_eq_getElem h1, List.getElem?_eq_getElem h2] at this
  simpa using this
/-- If a round changes nothing, the marks are shut. -/
theorem shut_of_same {B : Nat} {q : Nat → Lnk → Bool} {L : List (LnkOf B)} {m : Nat} {W : List Bool} (hW : W.length = B) (h : relaxTo q L W m = W) : Shut q L m W := by
  intro k x hk hx hq
  obtain ⟨h1, h2⟩ := ends hx
  have hkW : relaxTo q L W k = W := by
    refine (same_marks (by rw [relaxTo_length]) fun i => ?_)
    have a1 := relaxTo_within q L W hW k i
    have a2 := relaxTo_mono q L W hW k m (by omega) i
    rw [h] at a2
    cases e1 : mk W i <;> cases e2 : mk (relaxTo q L W k) i <;> simp_all
  have hk1 : Within (relaxTo q L W (k + 1)) W := by
    have := relaxTo_mono q L W hW (k + 1) m (by omega)
    rwa [h] at this
  unfold relaxTo at hk1
  rw [hx] at hk1
  simp only [hq, if_true] at hk1
  rw [hkW] at hk1
  have b1 := hk1 x.1.a.toNat
  have b2 := hk1 x.1.b.toNat
  rw [mk_relax1 _ _ _ _ (by omega) (by omega)] at b1 b2
  cases e1 : mk W x.1.a.toNat <;> cases e2 : mk W x.1.b.toNat <;> simp_all
/-- How many are marked. -/
def marked (W : List Bool) : Nat := W.countP id
theorem marked_le (W : List Bool) : marked W ≤ W.length := List.countP_le_length
theorem marked_lt : ∀ {W V : List Bool}, W.length = V.length → (∀ i, mk W i = true → mk V i = true) → W ≠ V → marked W < marked V
  | [], [], _, _, h => absurd rfl h
  | [], _ :: _, h, _, _ => by simp at h
  | _ :: _, [], h, _, _ => by simp at h
  | a :: W, b :: V, hl, h, hne => by
    have h0 := h 0
    have ht : ∀ i, mk W i = true → mk V i = true := fun i hi => by
      have := h (i + 1)
      simpa [mk] using this (by simpa [mk] using hi)
    simp only [List.length_cons, Nat.add_right_cancel_iff] at hl
    unfold marked
    simp only [List.countP_cons]
    by_cases e : W = V
    · subst e
      have hab : a ≠ b := fun e => hne (by rw [e])
      cases a <;> cases b <;> simp_all [mk]
    · have ih := marked_lt hl ht e
      unfold marked at ih
      cases a <;> cases b <;> simp_all [mk] <;> omega
theorem rounds_or {B : Nat} (q : Nat → Lnk → Bool) (L : List (LnkOf B)) (m : Nat) (W : List Bool) (hW : W.length = B) (n : Nat) : Shut q L m (rounds q L m W n) ∨ marked W + n ≤ marked (rounds q L m W n) := by
  induction n with
  | zero => exact .inr (Nat.le_refl _)
  | succ n ih =>
    have hl : (rounds q L m W n).length = B := by rw [rounds_length, hW]
    rcases ih with h | h
    · left
      rw [rounds, relaxTo_shut hl h m (Nat.le_refl _)]
      exact h
    · by_cases e : rounds q L m W n = relaxTo q L (rounds q L m W n) m
      · left
        rw [rounds, ← e]
        exact shut_of_same hl e.symm
      · right
        have := marked_lt (by rw [relaxTo_length]) (relaxTo_within q L _ hl m) e
        rw [rounds]
        omega
theorem all_marked : ∀ {W : List Bool}, W.length ≤ marked W → ∀ i, i < W.length → mk W i = true
  | [], _, i, hi => by simp at hi
  | a :: W, h, i, hi => by
    have hle := marked_le W
    unfold marked at h hle
    simp only [List.countP_cons, List.length_cons] at h
    cases a
    · simp at h
      omega
    · cases i with
      | zero => rfl
      | succ i =>
        have := all_marked (W := W) (by unfold marked; simp at h; omega) i (by simpa using hi)
        simpa [mk] using this
/-- As many rounds as there are buses shut the marks. -/
theorem rounds_shut {B : Nat} (q : Nat → Lnk → Bool) (L : List (LnkOf B)) (m : Nat) (W : List Bool) (hW : W.length = B) : Shut q L m (rounds q L m W B) := by
  rcases rounds_or q L m W hW B with h | h
  · exact h
  · intro k x _ hx _
    obtain ⟨h1, h2⟩ := ends hx
    have hl : (rounds q L m W B).length = B := by rw [rounds_length, hW]
    rw [all_marked (by omega) _ (by omega), all_marked (by omega) _ (by omega)]
theorem rounds_within {B : Nat} (q : Nat → Lnk → Bool) (L : List (LnkOf B)) (m : Nat) (W : List Bool) (hW : W.length = B) (n : Nat) : Within W (rounds q L m W n) := by
  induction n with
  | zero => exact Within.refl _
  | succ n ih => exact ih.trans (relaxTo_within q L _ (by rw [rounds_length, hW]) m)
/-- A property that holds of the marks and goes over links holds of all that gets marked. -/
theorem rounds_keeps {B : Nat} {q : Nat → Lnk → Bool} {L : List (LnkOf B)} {m : Nat} {W : List Bool} (hW : W.length = B) (P : Nat → Prop) (h0 : ∀ i, mk W i = true → P i)
    (hs : ∀ (k : Nat) (x : LnkOf B), k < m → L[k]? = some x → q k x.1 = true → (P x.1.a.toNat ↔ P x.1.b.toNat)) (n : Nat) : ∀ i, mk (rounds q L m W n) i = true → P i := by
  have step : ∀ (V : List Bool), V.length = B → (∀ i, mk V i = true → P i) → ∀ k, k ≤ m → ∀ i, mk (relaxTo q L V k) i = true → P i := by
    intro V hV h k
    induction k with
    | zero => intro _; exact h
    | succ k ih =>
      intro hk i hi
      have ih := ih (by omega)
      unfold relaxTo at hi
      split at hi
      · rename_i x hx
        obtain ⟨h1, h2⟩ := ends hx
        split at hi
        · rename_i hq
          rw [mk_relax1 _ _ _ _ (by rw [relaxTo_length, hV]; exact h1) (by rw [relaxTo_length, hV]; exact h2)] at hi
          have hsx := hs k x (by omega) hx hq
          simp only [Bool.or_eq_true, Bool.and_eq_true, decide_eq_true_eq] at hi
          rcases hi with hi | ⟨h3 | h3, rfl | rfl⟩
          · exact ih i hi
          · exact ih _ h3
          · exact hsx.1 (ih _ h3)
          · exact hsx.2 (ih _ h3)
          · exact ih _ h3
        · exact ih i hi
      · exact ih i hi
  induction n with
  | zero => exact h0
  | succ n ih => exact step _ (by rw [rounds_length, hW]) ih m (Nat.le_refl _)
/-- Over shut marks all that is joined is marked alike. -/
theorem shut_joined {B : Nat} {s : Stt} {L : List (LnkOf B)} {m : Nat} {W : List Bool} (h : Shut (conds s) L m W) {i j : Nat} (hj : Joined (condTo s L m) i j) : mk W i = mk W j := by
  induction hj with
  | base e => rw [e]
  | link hx =>
    obtain ⟨k, h1, h2, h3⟩ := (mem_condTo s L m _).1 hx
    exact h k _ h1 h2 h3
  | symm _ ih => exact ih.symm
  | trans _ _ ih1 ih2 => exact ih1.trans ih2
/-- WHAT THE ROUNDS MARK: what is joined to what was marked. -/
theorem rounds_iff {B : Nat} (s : Stt) (L : List (LnkOf B)) (m : Nat) (W : List Bool) (hW : W.length = B) (i : Nat) : mk (rounds (conds s) L m W B) i = true ↔ ∃ j, mk W j = true ∧ Joined (condTo s L m) j i := by
  constructor
  · refine rounds_keeps hW (fun i => ∃ j, mk W j = true ∧ Joined (condTo s L m) j i) (fun i hi => ⟨i, hi, .base rfl⟩) (fun k x hk hx hq => ?_) B i
    have hl : Joined (condTo s L m) x.1.a.toNat x.1.b.toNat := .link ((mem_condTo s L m x).2 ⟨k, hk, hx, hq⟩)
    exact ⟨fun ⟨j, h1, h2⟩ => ⟨j, h1, h2.trans hl⟩, fun ⟨j, h1, h2⟩ => ⟨j, h1, h2.trans hl.symm⟩⟩
  · rintro ⟨j, h1, h2⟩
    rw [← shut_joined (rounds_shut (conds s) L m W hW) h2]
    exact rounds_within _ _ _ _ hW B j h1
end Go.Proofs.YtnngdcidopaabaaGreatDoor
