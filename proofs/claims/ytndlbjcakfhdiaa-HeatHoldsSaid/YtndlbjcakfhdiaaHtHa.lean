/- heat: what settles, what is held: plain facts. -/
import Derived.Test.YtndlbjcakfhdiaaHtIb
import Derived.Test.YtndlbjcakfhdiaaHtIn
import Derived.Test.YtndlbjcakfhdiaaHtMa

set_option linter.unusedSimpArgs false
set_option linter.unusedVariables false
namespace Go.Proofs.Ytndlbjcakfhdiaa
open Go.RowKit

theorem leB_le {a b : List Int} (h : leB a b = true) {i : Nat} (hi : i < a.length) : a.getD i 0 ≤ b.getD i 0 := of_decide_eq_true (List.all_eq_true.1 h i (List.mem_range.2 hi))
theorem leB_refl (a : List Int) : leB a a = true := leB_yes fun _ _ => Int.le_refl _
theorem nxL_getD {h : Hl} {t l : List Int} {o p : Int} {i : Nat} : (nxL h t l o p).getD i 0 = if i < h.rooms.length then nxV h t l o p i else 0 := by
  rw [List.getD_eq_getElem?_getD]
  split
  · rw [nxL_get (by assumption)]; rfl
  · rw [List.getElem?_eq_none (by rw [nxL_len]; omega)]; rfl
section
variable {h : Hl} (ok : HlOk h) {l m : List Int} {o o' p q : Int} (hp : 0 ≤ p ∧ p ≤ 100000) (hq : 0 ≤ q ∧ q ≤ 100000) (ho : 0 ≤ o) (hpq : q ≤ p) (hoo : o ≤ o') (hl : ∀ i, 0 ≤ l.getD i 0) (hlm : ∀ i, l.getD i 0 ≤ m.getD i 0)
include ok hp hq ho hpq hoo hl hlm
theorem nxL_le {t u : List Int} (ht : ∀ i, 0 ≤ t.getD i 0) (htu : ∀ i, t.getD i 0 ≤ u.getD i 0) (i : Nat) : 0 ≤ (nxL h t l o p).getD i 0 ∧ (nxL h t l o p).getD i 0 ≤ (nxL h u m o' q).getD i 0 := by
  rw [nxL_getD, nxL_getD]
  split
  · exact ⟨(nxV_bd ok hp ho ht hl (by assumption)).1, nxV_mono ok hp hq ho hpq hoo ht hl htu hlm (by assumption)⟩
  · exact ⟨Int.le_refl _, Int.le_refl _⟩
theorem itL_mono {t u : List Int} (ht : ∀ i, 0 ≤ t.getD i 0) (htu : ∀ i, t.getD i 0 ≤ u.getD i 0) : ∀ (k i : Nat), 0 ≤ (itL h l o p t k).getD i 0 ∧ (itL h l o p t k).getD i 0 ≤ (itL h m o' q u k).getD i 0 := by
  intro k
  induction k with
  | zero => exact fun i => ⟨ht i, htu i⟩
  | succ k ih => exact fun i => nxL_le ok hp hq ho hpq hoo hl hlm (fun i => (ih i).1) (fun i => (ih i).2) i
end
theorem itL_fix {h : Hl} {l : List Int} {o p : Int} {t : List Int} {k : Nat} (hf : itL h l o p t (k + 1) = itL h l o p t k) : ∀ d, itL h l o p t (k + d) = itL h l o p t k := by
  intro d
  induction d with
  | zero => rfl
  | succ d ih =>
    show nxL h (itL h l o p t (k + d)) l o p = _
    rw [ih]
    exact hf
theorem settled_le {h : Hl} (ok : HlOk h) {l m : List Int} {o o' p q : Int} (hp : 0 ≤ p ∧ p ≤ 100000) (hq : 0 ≤ q ∧ q ≤ 100000) (ho : 0 ≤ o) (hpq : q ≤ p) (hoo : o ≤ o') (hl : ∀ i, 0 ≤ l.getD i 0) (hlm : ∀ i, l.getD i 0 ≤ m.getD i 0) {t u : List Int} (ht : ∀ i, 0 ≤ t.getD i 0) (htu : ∀ i, t.getD i 0 ≤ u.getD i 0) {a b : Nat} (ha : itL h l o p t (a + 1) = itL h l o p t a) (hb : itL h m o' q u (b + 1) = itL h m o' q u b) (i : Nat) : (itL h l o p t a).getD i 0 ≤ (itL h m o' q u b).getD i 0 := by
  rw [← itL_fix ha b, ← itL_fix hb a, Nat.add_comm b a]
  exact (itL_mono ok hp hq ho hpq hoo hl hlm ht htu (a + b) i).2
/-- The temperatures between those of a box. -/
def btF (low high at9 : List Int) (i : Nat) : Int := if i < at9.length then low.getD i 0 + ((high.getD i 0 - low.getD i 0) * at9.getD i 0).tdiv 255 else low.getD i 0
theorem btF_bd {low high at9 : List Int} (h : ∀ i, low.getD i 0 ≤ high.getD i 0) (hu : U8s at9) (i : Nat) : low.getD i 0 ≤ btF low high at9 i ∧ btF low high at9 i ≤ high.getD i 0 := by
  unfold btF
  split
  · rename_i hi
    refine mid_bd (h i) ?_
    rw [List.getD_eq_getElem?_getD, List.getElem?_eq_getElem hi]
    have := hu _ (List.getElem_mem hi)
    show 0 ≤ at9[i] ∧ at9[i] < 256
    omega
  · exact ⟨Int.le_refl _, h i⟩
theorem smL_same {f : Nat → Int} {a : List Int} {n k : Nat} (h : f k = a.getD k 0) : smL f a n (k + 1) = smL f a n k := by
  unfold smL
  apply List.map_congr_left
  intro i _
  by_cases h1 : i < k
  · rw [if_pos h1, if_pos (by omega)]
  · by_cases h2 : i = k
    · subst h2
      rw [if_pos (by omega), if_neg h1, h]
    · rw [if_neg h1, if_neg (by omega)]
def btL (low high at9 : List Int) (n : Nat) : List Int := (List.range n).map (btF low high at9)
theorem btL_getD {low high at9 : List Int} {n i : Nat} (hi : i < n) : (btL low high at9 n).getD i 0 = btF low high at9 i := by
  rw [List.getD_eq_getElem?_getD]
  simp [btL, hi]
theorem getD_out {l : List Int} {n i : Nat} (h : l.length = n) (hi : n ≤ i) : l.getD i 0 = 0 := by
  rw [List.getD_eq_getElem?_getD, List.getElem?_eq_none (by omega)]; rfl
theorem held_mid {h : Hl} (ok : HlOk h) {n : Nat} (hn : h.rooms.length = n) {La Lb L9 low high S : List Int} {o1 o2 o9 p1 p2 p9 : Int} (h1 : 0 ≤ p1 ∧ p1 ≤ 100000) (h2 : 0 ≤ p2 ∧ p2 ≤ 100000) (ho : 0 ≤ o1) (hpa : p9 ≤ p1) (hpb : p2 ≤ p9) (hoa : o1 ≤ o9) (hob : o9 ≤ o2) (hl : ∀ i, 0 ≤ La.getD i 0) (hla : ∀ i, La.getD i 0 ≤ L9.getD i 0) (hlb : ∀ i, L9.getD i 0 ≤ Lb.getD i 0) (ht : ∀ i, 0 ≤ low.getD i 0) (hta : ∀ i, low.getD i 0 ≤ S.getD i 0) (htb : ∀ i, S.getD i 0 ≤ high.getD i 0) (nl : low.length = n) (k1 : leB low (nxL h low La o1 p1) = true) (k2 : leB (nxL h high Lb o2 p2) high = true) : leB low (nxL h S L9 o9 p9) = true ∧ leB (nxL h S L9 o9 p9) high = true := by
  have h9 : 0 ≤ p9 ∧ p9 ≤ 100000 := by omega
  refine ⟨leB_yes fun i hi => ?_, leB_yes fun i hi => ?_⟩
  · have e1 := leB_le k1 hi
    have e2 := (nxL_le ok h1 h9 ho hpa hoa hl hla ht hta i).2
    omega
  · rw [nxL_len] at hi
    have e1 := leB_le k2 (i := i) (by rw [nxL_len]; exact hi)
    have e2 := (nxL_le ok h9 h2 (by omega) hpb hob (fun i => by have := hl i; have := hla i; omega) hlb (fun i => by have := ht i; have := hta i; omega) htb i).2
    omega
theorem getD_le_of {La Lb L9 : List Int} {n : Nat} (h1 : La.length = n) (h2 : Lb.length = n) (h9 : L9.length = n) (h : ∀ (i : Nat) (x y q : Int), La[i]? = some x → Lb[i]? = some y → L9[i]? = some q → x ≤ q ∧ q ≤ y) (i : Nat) : La.getD i 0 ≤ L9.getD i 0 ∧ L9.getD i 0 ≤ Lb.getD i 0 := by
  by_cases hi : i < n
  · have := h i _ _ _ (List.getElem?_eq_getElem (by omega)) (List.getElem?_eq_getElem (by omega)) (List.getElem?_eq_getElem (by omega))
    rw [List.getD_eq_getElem?_getD, List.getD_eq_getElem?_getD, List.getD_eq_getElem?_getD, List.getElem?_eq_getElem (by omega), List.getElem?_eq_getElem (by omega), List.getElem?_eq_getElem (by omega)]
    exact this
  · rw [getD_out h1 (by omega), getD_out h2 (by omega), getD_out h9 (by omega)]
    exact ⟨Int.le_refl _, Int.le_refl _⟩
end Go.Proofs.Ytndlbjcakfhdiaa
