/- keep, plain: the certificate of Solve is right; what is right has the safe set. -/
import Derived.Test.YtalngalikblgkaaKpVc
import Derived.Test.YtalngalikblgkaaKpJ

set_option linter.unusedSimpArgs false
set_option linter.unusedVariables false
namespace Go.Proofs.Ytalngalikblgkaa
open Go.RowKit

theorem foldset_getD {S : Nat} (f : Fin S → Int) (pre : List (Fin S)) (l : List Int) (s : Fin S) (hs : s.val < l.length) : (pre.foldl (fun l x => l.set x.val (f x)) l).getD s.val 0 = if s ∈ pre then f s else l.getD s.val 0 := by
  induction pre generalizing l with
  | nil => simp
  | cons x pre ih =>
    rw [List.foldl_cons, ih _ (by rw [List.length_set]; exact hs)]
    by_cases h : s ∈ pre
    · rw [if_pos h, if_pos (List.mem_cons_of_mem _ h)]
    · rw [if_neg h]
      by_cases h2 : s = x
      · subst h2
        rw [if_pos (List.mem_cons_self ..), List.getD_eq_getElem?_getD, List.getElem?_set_self hs]
        rfl
      · rw [if_neg (by simp [h, h2]), List.getD_eq_getElem?_getD, List.getD_eq_getElem?_getD, List.getElem?_set_ne (fun e => h2 (Fin.ext e.symm))]
theorem rk0_getD (g : Gm) {s : Nat} (hs : s < g.S) : (itR g 0).2.getD s 0 = if g.good.getD s false = true then -1 else 0 := by
  show (rkTo g.S (stTo g.S g.good g.S)).getD s 0 = _
  unfold rkTo
  have h := foldset_getD (fun _ => (-1 : Int)) (stTo g.S g.good g.S) (List.replicate g.S 0) ⟨s, hs⟩ (by simp [hs])
  rw [h]
  have hm := stTo_mem (S := g.S) (inn := g.good) (k := g.S) ⟨s, hs⟩
  by_cases hg : g.good.getD s false = true
  · rw [if_pos (hm.2 ⟨hs, hg⟩), if_pos hg]
  · rw [if_neg (fun h => hg (hm.1 h).2), if_neg hg, List.getD_eq_getElem?_getD]
    simp [hs]
theorem ctL_getD (g : Gm) (inn : List Bool) {s : Nat} (hs : s < g.S) : (ctL g inn).getD s 0 = if inn.getD s false = true then leastK g inn s else -1 := by
  unfold ctL ctTo
  have h := foldset_getD (fun x => leastK g inn x.val) (stTo g.S inn g.S) (List.replicate g.S (-1)) ⟨s, hs⟩ (by simp [hs])
  rw [h]
  have hm := stTo_mem (S := g.S) (inn := inn) (k := g.S) ⟨s, hs⟩
  by_cases hg : inn.getD s false = true
  · rw [if_pos (hm.2 ⟨hs, hg⟩), if_pos hg]
  · rw [if_neg (fun h => hg (hm.1 h).2), if_neg hg, List.getD_eq_getElem?_getD]
    simp [hs]
theorem setR_getD (l : List Int) (k s : Nat) (r : Int) (hs : s < l.length) : (l.set k r).getD s 0 = if k = s then r else l.getD s 0 := by
  rw [List.getD_eq_getElem?_getD, List.getD_eq_getElem?_getD, List.getElem?_set]
  by_cases h : k = s
  · subst h
    rw [if_pos rfl, if_pos hs, if_pos rfl]
    rfl
  · rw [if_neg h, if_neg h]
theorem outR_getD (st : List Int) (rnk : List Int) (r : Int) (s : Nat) (hst : ∀ x ∈ st, 0 ≤ x) (hs : s < rnk.length) : (outR rnk st r).getD s 0 = if (s : Int) ∈ st then r else rnk.getD s 0 := by
  induction st generalizing rnk with
  | nil => simp [outR]
  | cons x st ih =>
    have h0 := hst x (List.mem_cons_self ..)
    have h1 := ih (rnk.set x.toNat r) (fun y hy => hst y (List.mem_cons_of_mem _ hy)) (by rw [List.length_set]; exact hs)
    show (outR (rnk.set x.toNat r) st r).getD s 0 = _
    rw [h1, setR_getD _ _ _ _ hs]
    by_cases h : (s : Int) ∈ st
    · rw [if_pos h, if_pos (List.mem_cons_of_mem _ h)]
    · rw [if_neg h]
      by_cases h2 : x.toNat = s
      · rw [if_pos h2, if_pos (by rw [show (s : Int) = x by omega]; exact List.mem_cons_self ..)]
      · rw [if_neg h2, if_neg (fun hm => by rcases List.mem_cons.1 hm with h3 | h3; omega; exact h h3)]
theorem not_true {b : Bool} (h : ¬ b = true) : b = false := by cases b <;> simp_all
/-- What the ranks behind k rounds say. -/
def RkI (g : Gm) (k : Nat) : Prop := ∀ s < g.S, ((itR g k).1.getD s false = true → (itR g k).2.getD s 0 = -1) ∧ ((itR g k).1.getD s false = false → (0 ≤ (itR g k).2.getD s 0 ∧ (itR g k).2.getD s 0 ≤ k) ∧ ((itR g k).2.getD s 0 = 0 → g.good.getD s false = false) ∧ (1 ≤ (itR g k).2.getD s 0 → ∀ u < g.C, ∃ x ∈ subL g s u, x = -1 ∨ ∃ t : Nat, x = (t : Int) ∧ (itR g k).1.getD t false = false ∧ (itR g k).2.getD t 0 < (itR g k).2.getD s 0))
theorem rkI_all {g : Gm} (ok : GmOk g) (k : Nat) : RkI g k := by
  induction k with
  | zero =>
    intro s hs
    rw [rk0_getD g hs]
    refine ⟨fun h => if_pos h, fun h => ?_⟩
    have h' : g.good.getD s false = false := h
    rw [if_neg (by rw [h']; decide)]
    exact ⟨⟨by omega, by omega⟩, fun _ => h', fun h => absurd h (by omega)⟩
  | succ k ih =>
    have hin : ∀ t, (itR g (k + 1)).1.getD t false = ((itR g k).1.getD t false && !((lostL g (itR g k).1).contains (t : Int))) := fun t => outI_getD _ _ _ (fun x hx => (lostL_bd hx).1)
    have hrk : ∀ t < g.S, (itR g (k + 1)).2.getD t 0 = if (t : Int) ∈ lostL g (itR g k).1 then (k : Int) + 1 else (itR g k).2.getD t 0 := fun t ht => outR_getD _ _ _ _ (fun x hx => (lostL_bd hx).1) (by rw [(itR_len g ok k).2]; exact ht)
    -- what was out stays so
    have hout : ∀ t < g.S, (itR g k).1.getD t false = false → (itR g (k + 1)).1.getD t false = false ∧ (itR g (k + 1)).2.getD t 0 = (itR g k).2.getD t 0 := fun t ht h => by
      refine ⟨by rw [hin, h]; rfl, ?_⟩
      rw [hrk t ht, if_neg]
      intro hm
      have := ((lostL_mem ht).1 hm).1
      rw [h] at this
      cases this
    intro s hs
    obtain ⟨i1, i2⟩ := ih s hs
    by_cases hm : (s : Int) ∈ lostL g (itR g k).1
    · have e1 : (itR g (k + 1)).1.getD s false = false := by
        rw [hin, List.contains_iff_mem.2 hm]
        simp
      have e2 : (itR g (k + 1)).2.getD s 0 = (k : Int) + 1 := by rw [hrk s hs, if_pos hm]
      rw [e1, e2]
      refine ⟨fun h => (by cases h), fun _ => ⟨⟨by omega, by push_cast; omega⟩, fun h => (by omega), fun _ u hu => ?_⟩⟩
      have hk : keepB g (itR g k).1 s u = false := not_true (fun h => leastF_ne (p := keepB g (itR g k).1 s) hu h ((lostL_mem hs).1 hm).2)
      obtain ⟨x, hx, hxi⟩ := List.all_eq_false.1 (show (subL g s u).all (isInB (itR g k).1) = false from hk)
      refine ⟨x, hx, ?_⟩
      have hb := sub_bd ok hx
      by_cases hx1 : x = -1
      · exact Or.inl hx1
      · obtain ⟨t, rfl⟩ : ∃ t : Nat, x = (t : Int) := ⟨x.toNat, by omega⟩
        rw [isInB_nat] at hxi
        have ht : t < g.S := by omega
        have h0 := not_true hxi
        obtain ⟨o1, o2⟩ := hout t ht h0
        refine Or.inr ⟨t, rfl, o1, ?_⟩
        rw [o2]
        have := ((ih t ht).2 h0).1.2
        omega
    · have e1 : (itR g (k + 1)).1.getD s false = (itR g k).1.getD s false := by
        rw [hin, not_true (fun h => hm (List.contains_iff_mem.1 h))]
        simp
      have e2 : (itR g (k + 1)).2.getD s 0 = (itR g k).2.getD s 0 := by rw [hrk s hs, if_neg hm]
      rw [e1, e2]
      refine ⟨i1, fun h => ?_⟩
      obtain ⟨⟨j1, j2⟩, j3, j4⟩ := i2 h
      refine ⟨⟨j1, by push_cast; omega⟩, j3, fun h1 u hu => ?_⟩
      obtain ⟨x, hx, h5⟩ := j4 h1 u hu
      refine ⟨x, hx, ?_⟩
      rcases h5 with h5 | ⟨t, rfl, h6, h7⟩
      · exact Or.inl h5
      · have hb := sub_bd ok hx
        obtain ⟨o1, o2⟩ := hout t (by omega) h6
        exact Or.inr ⟨t, rfl, o1, by rw [o2]; exact h7⟩
/-- The certificate of Solve is right. -/
theorem solved_right {g : Gm} (ok : GmOk g) {k : Nat} (h : Solved g k) : rightB g (itR g k).1 (ctL g (itR g k).1) (itR g k).2 = true := by
  refine rightB_yes fun s hs => ?_
  obtain ⟨i1, i2⟩ := rkI_all ok k s hs
  unfold rightF
  rw [ctL_getD g _ hs]
  by_cases hi : (itR g k).1.getD s false = true
  · rw [if_pos hi, if_pos hi, it_good g k s hi, i1 hi]
    have hl : leastK g (itR g k).1 s ≠ -1 := fun e => by
      have := (lostL_mem hs).2 ⟨hi, e⟩
      rw [h.1] at this
      cases this
    obtain ⟨u, hu, hk, e⟩ := leastF_ex hl
    have e' : leastK g (itR g k).1 s = (u : Int) := e
    rw [e', Int.toNat_natCast, hk, inB_yes (by omega)]
    rfl
  · have hi' := not_true hi
    obtain ⟨⟨j1, j2⟩, j3, j4⟩ := i2 hi'
    rw [if_neg hi, if_neg hi, if_pos ⟨rfl, j1⟩]
    by_cases hr : (itR g k).2.getD s 0 = 0
    · rw [if_pos hr, j3 hr]
      rfl
    · rw [if_neg hr, decide_eq_true_eq]
      refine leastF_no fun u hu => ?_
      obtain ⟨x, hx, h5⟩ := j4 (by omega) u hu
      unfold delayB
      rw [List.all_eq_false]
      refine ⟨x, hx, ?_⟩
      rcases h5 with rfl | ⟨t, rfl, h6, h7⟩
      · unfold delB rankB
        rw [show isInB (itR g k).1 (-1) = false from rfl, if_pos rfl, decide_eq_false (by omega)]
        decide
      · unfold delB rankB
        rw [isInB_nat, h6, if_neg (by omega), Int.toNat_natCast, decide_eq_false (by omega)]
        decide
theorem right_kept {g : Gm} {inn : List Bool} {ctl rnk : List Int} (ok : GmOk g) (h : rightB g inn ctl rnk = true) : KeptS g (fun s => inn.getD s false = true) := by
  intro s hs hi
  have h1 := rightB_iff.1 h s hs
  unfold rightF at h1
  rw [if_pos hi] at h1
  simp only [Bool.and_eq_true, decide_eq_true_eq] at h1
  obtain ⟨hg, hc, hk, _⟩ := h1
  have hc2 := inB_iff.1 hc
  refine ⟨hg, (ctl.getD s 0).toNat, by omega, fun x hx => ?_⟩
  have h2 := (List.all_eq_true.1 (show (subL g s (ctl.getD s 0).toNat).all (isInB inn) = true from hk)) x hx
  have hb := sub_bd ok hx
  by_cases hx1 : x = -1
  · rw [hx1] at h2
    cases h2
  · obtain ⟨t, rfl⟩ : ∃ t : Nat, x = (t : Int) := ⟨x.toNat, by omega⟩
    rw [isInB_nat] at h2
    exact ⟨t, rfl, h2⟩
/-- No kept set has a state that is not in: by its rank. -/
theorem right_out {g : Gm} {inn : List Bool} {ctl rnk : List Int} (ok : GmOk g) (h : rightB g inn ctl rnk = true) {X : Nat → Prop} (hX : KeptS g X) : ∀ (n s : Nat), s < g.S → inn.getD s false = false → (rnk.getD s 0).toNat ≤ n → ¬ X s := by
  intro n
  induction n with
  | zero =>
    intro s hs hi hn hx
    have h1 := rightB_iff.1 h s hs
    unfold rightF at h1
    rw [if_neg (by rw [hi]; decide)] at h1
    split at h1
    · rename_i hc
      rw [if_pos (by omega), Bool.not_eq_true'] at h1
      rw [(hX s hs hx).1] at h1
      cases h1
    · cases h1
  | succ n ih =>
    intro s hs hi hn hx
    have h1 := rightB_iff.1 h s hs
    unfold rightF at h1
    rw [if_neg (by rw [hi]; decide)] at h1
    split at h1
    · rename_i hc
      split at h1
      · rw [Bool.not_eq_true', (hX s hs hx).1] at h1
        cases h1
      · rename_i hr
        rw [decide_eq_true_eq] at h1
        obtain ⟨u, hu, hk⟩ := (hX s hs hx).2
        refine leastF_ne (p := delayB g inn rnk s) hu ?_ h1
        unfold delayB
        rw [List.all_eq_true]
        intro x hxx
        obtain ⟨t, rfl, ht⟩ := hk x hxx
        have hb := sub_bd ok hxx
        unfold delB rankB
        rw [isInB_nat, if_neg (by omega), Int.toNat_natCast]
        by_cases hit : inn.getD t false = true
        · rw [hit]; rfl
        · rw [not_true hit, Bool.false_or, decide_eq_true_eq]
          refine Int.not_lt.1 fun hlt => ih t (by omega) (not_true hit) (by omega) ht
    · cases h1
/-- What is right has the safe set. -/
theorem right_safe {g : Gm} {inn : List Bool} {ctl rnk : List Int} (ok : GmOk g) (h : rightB g inn ctl rnk = true) {k : Nat} (hk : Solved g k) : ∀ s < g.S, inn.getD s false = (itR g k).1.getD s false := by
  intro s hs
  by_cases hi : inn.getD s false = true
  · rw [hi, kept_in ok (right_kept ok h) k s hs hi]
  · have hi' := not_true hi
    rw [hi']
    exact (not_true (right_out ok h (safe_kept ok hk) _ s hs hi' (Nat.le_refl _))).symm
end Go.Proofs.Ytalngalikblgkaa
