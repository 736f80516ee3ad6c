/- The law's joined, of what hangs together. Nothing here walks. -/
import Derived.Test.YtcidcadopeokoaaDoorJoined
namespace Go.Proofs.YtcidcadopeokoaaDoor
open Go.RowKit
theorem mk_put (W : List Bool) (a i : Nat) : mk (W.set a true) i = (mk W i || (decide (a = i) && decide (a < W.length))) := by
  unfold mk
  rw [List.getElem?_set]
  by_cases h : a = i
  · subst h
    by_cases hl : a < W.length
    · simp [hl]
    · simp [hl]
  · simp [h]
theorem mk_noB (B i : Nat) : mk (noB B) i = false := by
  unfold mk noB
  rw [List.getElem?_replicate]
  split <;> rfl
theorem mk_inTo (B : Nat) (l : List Int) (k i : Nat) : mk (inTo B l k) i = true ↔ i < B ∧ ∃ x ∈ l.take k, x.toNat = i := by
  unfold inTo
  have h : ∀ (l : List Int) (W : List Bool), mk (l.foldl (fun W b => W.set b.toNat true) W) i = true ↔ mk W i = true ∨ (i < W.length ∧ ∃ x ∈ l, x.toNat = i) := by
    intro l
    induction l with
    | nil => intro W; simp
    | cons a l ih =>
      intro W
      rw [List.foldl_cons, ih, mk_put]
      simp only [List.length_set, Bool.or_eq_true, Bool.and_eq_true, decide_eq_true_eq, List.mem_cons, exists_eq_or_imp]
      constructor
      · rintro ((h | ⟨rfl, h⟩) | ⟨h1, h2⟩)
        · exact .inl h
        · exact .inr ⟨h, .inl rfl⟩
        · exact .inr ⟨h1, .inr h2⟩
      · rintro (h | ⟨h1, rfl | h2⟩)
        · exact .inl (.inl h)
        · exact .inl (.inr ⟨rfl, h1⟩)
        · exact .inr ⟨h1, h2⟩
  rw [h, mk_noB]
  simp [noB]
theorem marked_put : ∀ (W : List Bool) (a : Nat), marked (W.set a true) ≤ marked W + 1
  | [], a => by simp [marked]
  | b :: W, 0 => by simp only [List.set_cons_zero, marked, List.countP_cons]; cases b <;> simp
  | b :: W, a + 1 => by
    have := marked_put W a
    unfold marked at this
    simp only [List.set_cons_succ, marked, List.countP_cons]
    omega
theorem marked_inTo (B : Nat) (l : List Int) (k : Nat) : marked (inTo B l k) ≤ k := by
  have h : ∀ (l : List Int) (W : List Bool), marked (l.foldl (fun W b => W.set b.toNat true) W) ≤ marked W + l.length := by
    intro l
    induction l with
    | nil => intro W; simp
    | cons a l ih =>
      intro W
      have h1 := ih (W.set a.toNat true)
      have h2 := marked_put W a.toNat
      rw [List.foldl_cons, List.length_cons]
      omega
  have h1 := h (l.take k) (noB B)
  have h2 : marked (noB B) = 0 := by simp [marked, noB, List.countP_replicate]
  have h3 : (l.take k).length ≤ k := by rw [List.length_take]; omega
  unfold inTo
  omega
theorem marked_mono {W V : List Bool} (hl : W.length = V.length) (h : ∀ i, mk W i = true → mk V i = true) : marked W ≤ marked V := by
  by_cases e : W = V
  · rw [e]
    exact Nat.le_refl _
  · exact Nat.le_of_lt (marked_lt hl h e)
/-- ONE ISLAND: a list that hangs together and is shut under the links is joined in the law's sense. -/
theorem joined_true {B : Nat} (s : Stt) (L : List (LnkOf B)) (m : Nat) (l : List Int) (hn : 0 < l.length) (hr : ∀ x ∈ l, 0 ≤ x ∧ x < B)
    (hj : ∀ x ∈ l, Joined (condTo s L m) (l.headD 0).toNat x.toNat) (hcl : ∀ x ∈ l, ∀ i : Nat, Joined (condTo s L m) x.toNat i → (i : Int) ∈ l) : joinedB s L m l = true := by
  have hhd : l.headD 0 ∈ l := by cases l with | nil => simp at hn | cons a l => simp
  obtain ⟨h, hh⟩ : ∃ h, (l.headD 0).toNat = h := ⟨_, rfl⟩
  have hh1 : (h : Int) ∈ l := by rw [← hh, Int.toNat_of_nonneg (hr _ hhd).1]; exact hhd
  have hhB : h < B := by have := hr _ hh1; omega
  have hin : ∀ i : Nat, mk (inTo B l l.length) i = true ↔ (i : Int) ∈ l := by
    intro i
    rw [mk_inTo, List.take_length]
    constructor
    · rintro ⟨_, x, hx, rfl⟩
      rw [Int.toNat_of_nonneg (hr x hx).1]
      exact hx
    · intro hi
      have := hr _ hi
      exact ⟨by omega, _, hi, by simp⟩
  unfold joinedB seenAll
  rw [hh, List.all_eq_true]
  have hW : ((noB B).set h true).length = B := by simp [noB]
  have hmh : mk ((noB B).set h true) h = true := by rw [mk_put]; simp [noB, hhB]
  obtain ⟨W, eW⟩ : ∃ W, (noB B).set h true = W := ⟨_, rfl⟩
  have hW1 : 1 ≤ marked W := by
    have hne : noB B ≠ W := fun e => by rw [eW, ← e, mk_noB] at hmh; cases hmh
    have := marked_lt (by rw [← eW]; simp) (fun i hi => by rw [mk_noB] at hi; cases hi) hne
    omega
  have hWi : ∀ i, mk W i = true → (i : Int) ∈ l := by
    intro i hi
    rw [← eW, mk_put, mk_noB] at hi
    simp only [Bool.false_or, Bool.and_eq_true, decide_eq_true_eq] at hi
    rw [← hi.1]
    exact hh1
  rw [eW] at hW hmh ⊢
  have hkeep := rounds_keeps (q := withinQ s (inTo B l l.length)) (L := L) (m := m) hW (fun i => (i : Int) ∈ l) hWi (fun k x _ _ hq => by
    unfold withinQ at hq
    simp only [Bool.and_eq_true] at hq
    exact ⟨fun _ => (hin _).1 hq.2, fun _ => (hin _).1 hq.1.2⟩) l.length
  have hshut : Shut (withinQ s (inTo B l l.length)) L m (rounds (withinQ s (inTo B l l.length)) L m W l.length) := by
    rcases rounds_or (withinQ s (inTo B l l.length)) L m W hW l.length with h1 | h1
    · exact h1
    · have h2 := marked_mono (V := inTo B l l.length) (by rw [rounds_length, hW, inTo_length]) (fun i hi => (hin i).2 (hkeep i hi))
      have h3 := marked_inTo B l l.length
      omega
  have hmark : mk (rounds (withinQ s (inTo B l l.length)) L m W l.length) h = true := rounds_within _ _ _ _ hW _ _ hmh
  generalize rounds (withinQ s (inTo B l l.length)) L m W l.length = V at *
  have hall : ∀ {i j : Nat}, Joined (condTo s L m) i j → (i : Int) ∈ l → (j : Int) ∈ l ∧ mk V i = mk V j := by
    intro i j hij
    have hc : ∀ {i j : Nat}, Joined (condTo s L m) i j → (i : Int) ∈ l → (j : Int) ∈ l := fun h1 h2 => hcl _ h2 _ (by simpa using h1)
    induction hij with
    | base e => intro hi; rw [← e]; exact ⟨hi, rfl⟩
    | link hx =>
      intro hi
      have hb := hc (.link hx) hi
      obtain ⟨k, h1, h2, h3⟩ := (mem_condTo s L m _).1 hx
      refine ⟨hb, hshut k _ h1 h2 ?_⟩
      unfold withinQ
      rw [h3, (hin _).2 hi, (hin _).2 hb]
      rfl
    | symm h1 ih =>
      intro hi
      have hb := hc (.symm h1) hi
      exact ⟨hb, (ih hb).2.symm⟩
    | trans h1 h2 ih1 ih2 =>
      intro hi
      obtain ⟨a1, a2⟩ := ih1 hi
      obtain ⟨b1, b2⟩ := ih2 a1
      exact ⟨b1, a2.trans b2⟩
  intro x hx
  have h1 := hj x hx
  rw [hh] at h1
  rw [← (hall h1 hh1).2]
  exact hmark
end Go.Proofs.YtcidcadopeokoaaDoor
