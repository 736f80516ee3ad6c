/- heat: what settles, what is held: plain facts. -/
import Derived.Test.YtldbciflpnhfpaaHtIb
import Derived.Test.YtldbciflpnhfpaaHtIn
import Derived.Test.YtldbciflpnhfpaaHtMa
import Derived.Test.YtldbciflpnhfpaaHtSl
import Derived.Test.YtldbciflpnhfpaaHtNb
import Derived.Test.YtldbciflpnhfpaaHtW

set_option linter.unusedSimpArgs false
set_option linter.unusedVariables false
namespace Go.Proofs.Ytldbciflpnhfpaa
open Go.RowKit

theorem leB_le {a b : List Int} (h : leB a b = true) {i : Nat} (hi : i < a.length) : a.getD i 0 ≤ b.getD i 0 := of_decide_eq_true (List.all_eq_true.1 h i (List.mem_range.2 hi))
theorem leB_refl (a : List Int) : leB a a = true := leB_yes fun _ _ => Int.le_refl _
theorem nxL_getD {h : Hl} {t l : List Int} {o p : Int} {i : Nat} : (nxL h t l o p).getD i 0 = if i < h.rooms.length then nxV h t l o p i else 0 := by
  rw [List.getD_eq_getElem?_getD]
  split
  · rw [nxL_get (by assumption)]; rfl
  · rw [List.getElem?_eq_none (by rw [nxL_len]; omega)]; rfl
section
variable {h : Hl} (ok : HlOk h) {l m : List Int} {o o' p q : Int} (hp : 0 ≤ p ∧ p ≤ 100000) (hq : 0 ≤ q ∧ q ≤ 100000) (ho : 0 ≤ o) (hpq : q ≤ p) (hoo : o ≤ o') (hl : ∀ i, 0 ≤ l.getD i 0) (hlm : ∀ i, l.getD i 0 ≤ m.getD i 0)
include ok hp hq ho hpq hoo hl hlm
theorem nxL_le {t u : List Int} (ht : ∀ i, 0 ≤ t.getD i 0) (htu : ∀ i, t.getD i 0 ≤ u.getD i 0) (i : Nat) : 0 ≤ (nxL h t l o p).getD i 0 ∧ (nxL h t l o p).getD i 0 ≤ (nxL h u m o' q).getD i 0 := by
  rw [nxL_getD, nxL_getD]
  split
  · exact ⟨(nxV_bd ok hp ho ht hl (by assumption)).1, nxV_mono ok hp hq ho hpq hoo ht hl htu hlm (by assumption)⟩
  · exact ⟨Int.le_refl _, Int.le_refl _⟩
theorem itL_mono {t u : List Int} (ht : ∀ i, 0 ≤ t.getD i 0) (htu : ∀ i, t.getD i 0 ≤ u.getD i 0) : ∀ (k i : Nat), 0 ≤ (itL h l o p t k).getD i 0 ∧ (itL h l o p t k).getD i 0 ≤ (itL h m o' q u k).getD i 0 := by
  intro k
  induction k with
  | zero => exact fun i => ⟨ht i, htu i⟩
  | succ k ih => exact fun i => nxL_le ok hp hq ho hpq hoo hl hlm (fun i => (ih i).1) (fun i => (ih i).2) i
end
theorem itL_fix {h : Hl} {l : List Int} {o p : Int} {t : List Int} {k : Nat} (hf : itL h l o p t (k + 1) = itL h l o p t k) : ∀ d, itL h l o p t (k + d) = itL h l o p t k := by
  intro d
  induction d with
  | zero => rfl
  | succ d ih =>
    show nxL h (itL h l o p t (k + d)) l o p = _
    rw [ih]
    exact hf
theorem settled_le {h : Hl} (ok : HlOk h) {l m : List Int} {o o' p q : Int} (hp : 0 ≤ p ∧ p ≤ 100000) (hq : 0 ≤ q ∧ q ≤ 100000) (ho : 0 ≤ o) (hpq : q ≤ p) (hoo : o ≤ o') (hl : ∀ i, 0 ≤ l.getD i 0) (hlm : ∀ i, l.getD i 0 ≤ m.getD i 0) {t u : List Int} (ht : ∀ i, 0 ≤ t.getD i 0) (htu : ∀ i, t.getD i 0 ≤ u.getD i 0) {a b : Nat} (ha : itL h l o p t (a + 1) = itL h l o p t a) (hb : itL h m o' q u (b + 1) = itL h m o' q u b) (i : Nat) : (itL h l o p t a).getD i 0 ≤ (itL h m o' q u b).getD i 0 := by
  rw [← itL_fix ha b, ← itL_fix hb a, Nat.add_comm b a]
  exact (itL_mono ok hp hq ho hpq hoo hl hlm ht htu (a + b) i).2
/-- The temperatures between those of a box. -/
def btF (low high at9 : List Int) (i : Nat) : Int := if i < at9.length then low.getD i 0 + ((high.getD i 0 - low.getD i 0) * at9.getD i 0).tdiv 255 else low.getD i 0
theorem btF_bd {low high at9 : List Int} (h : ∀ i, low.getD i 0 ≤ high.getD i 0) (hu : U8s at9) (i : Nat) : low.getD i 0 ≤ btF low high at9 i ∧ btF low high at9 i ≤ high.getD i 0 := by
  unfold btF
  split
  · rename_i hi
    refine mid_bd (h i) ?_
    rw [List.getD_eq_getElem?_getD, List.getElem?_eq_getElem hi]
    have := hu _ (List.getElem_mem hi)
    show 0 ≤ at9[i] ∧ at9[i] < 256
    omega
  · exact ⟨Int.le_refl _, h i⟩
theorem smL_same {f : Nat → Int} {a : List Int} {n k : Nat} (h : f k = a.getD k 0) : smL f a n (k + 1) = smL f a n k := by
  unfold smL
  apply List.map_congr_left
  intro i _
  by_cases h1 : i < k
  · rw [if_pos h1, if_pos (by omega)]
  · by_cases h2 : i = k
    · subst h2
      rw [if_pos (by omega), if_neg h1, h]
    · rw [if_neg h1, if_neg (by omega)]
def btL (low high at9 : List Int) (n : Nat) : List Int := (List.range n).map (btF low high at9)
theorem btL_getD {low high at9 : List Int} {n i : Nat} (hi : i < n) : (btL low high at9 n).getD i 0 = btF low high at9 i := by
  rw [List.getD_eq_getElem?_getD]
  simp [btL, hi]
theorem getD_out {l : List Int} {n i : Nat} (h : l.length = n) (hi : n ≤ i) : l.getD i 0 = 0 := by
  rw [List.getD_eq_getElem?_getD, List.getElem?_eq_none (by omega)]; rfl
theorem held_mid {h : Hl} (ok : HlOk h) {n : Nat} (hn : h.rooms.length = n) {La Lb L9 low high S : List Int} {o1 o2 o9 p1 p2 p9 : Int} (h1 : 0 ≤ p1 ∧ p1 ≤ 100000) (h2 : 0 ≤ p2 ∧ p2 ≤ 100000) (ho : 0 ≤ o1) (hpa : p9 ≤ p1) (hpb : p2 ≤ p9) (hoa : o1 ≤ o9) (hob : o9 ≤ o2) (hl : ∀ i, 0 ≤ La.getD i 0) (hla : ∀ i, La.getD i 0 ≤ L9.getD i 0) (hlb : ∀ i, L9.getD i 0 ≤ Lb.getD i 0) (ht : ∀ i, 0 ≤ low.getD i 0) (hta : ∀ i, low.getD i 0 ≤ S.getD i 0) (htb : ∀ i, S.getD i 0 ≤ high.getD i 0) (nl : low.length = n) (k1 : leB low (nxL h low La o1 p1) = true) (k2 : leB (nxL h high Lb o2 p2) high = true) : leB low (nxL h S L9 o9 p9) = true ∧ leB (nxL h S L9 o9 p9) high = true := by
  have h9 : 0 ≤ p9 ∧ p9 ≤ 100000 := by omega
  refine ⟨leB_yes fun i hi => ?_, leB_yes fun i hi => ?_⟩
  · have e1 := leB_le k1 hi
    have e2 := (nxL_le ok h1 h9 ho hpa hoa hl hla ht hta i).2
    omega
  · rw [nxL_len] at hi
    have e1 := leB_le k2 (i := i) (by rw [nxL_len]; exact hi)
    have e2 := (nxL_le ok h9 h2 (by omega) hpb hob (fun i => by have := hl i; have := hla i; omega) hlb (fun i => by have := ht i; have := hta i; omega) htb i).2
    omega
theorem getD_le_of {La Lb L9 : List Int} {n : Nat} (h1 : La.length = n) (h2 : Lb.length = n) (h9 : L9.length = n) (h : ∀ (i : Nat) (x y q : Int), La[i]? = some x → Lb[i]? = some y → L9[i]? = some q → x ≤ q ∧ q ≤ y) (i : Nat) : La.getD i 0 ≤ L9.getD i 0 ∧ L9.getD i 0 ≤ Lb.getD i 0 := by
  by_cases hi : i < n
  · have := h i _ _ _ (List.getElem?_eq_getElem (by omega)) (List.getElem?_eq_getElem (by omega)) (List.getElem?_eq_getElem (by omega))
    rw [List.getD_eq_getElem?_getD, List.getD_eq_getElem?_getD, List.getD_eq_getElem?_getD, List.getElem?_eq_getElem (by omega), List.getElem?_eq_getElem (by omega), List.getElem?_eq_getElem (by omega)]
    exact this
  · rw [getD_out h1 (by omega), getD_out h2 (by omega), getD_out h9 (by omega)]
    exact ⟨Int.le_refl _, Int.le_refl _⟩
end Go.Proofs.Ytldbciflpnhfpaa

/- law07: HeatHolds: what its regions' operations give. -/

set_option linter.unusedSimpArgs false
set_option linter.unusedVariables false
namespace Go.Proofs.Ytldbciflpnhfpaa
open Go.RowKit

theorem mul_in {x y u : Int} (h : (0 ≤ x ∧ x ≤ y ∧ y ≤ 1000000) ∧ 0 ≤ u ∧ u ≤ 255) : 0 ≤ (y - x) * u ∧ (y - x) * u ≤ 255000000 := by
  have h1 : 0 ≤ (y - x) * u := Int.mul_nonneg (by omega) h.2.1
  have h2 : (y - x) * u ≤ 1000000 * 255 := Int.mul_le_mul (by omega) (by omega) h.2.1 (by omega)
  omega
theorem div_in {x y u : Int} (h : (0 ≤ x ∧ x ≤ y ∧ y ≤ 1000000) ∧ 0 ≤ u ∧ u ≤ 255) : 0 ≤ ((y - x) * u).tdiv 255 ∧ ((y - x) * u).tdiv 255 ≤ 1000000 := by
  have h1 := mul_in h
  rw [Int.tdiv_eq_ediv_of_nonneg h1.1]
  omega
def hhPhi (sb hb ho hk lb lo lk ab ao rn sc hc lc n6 c6 k : Nat) (x y u : Int) : Nat → Value → World → (Nat → Nat) → Prop
  | 0, v, _, _ => v = .slice (some ⟨sb, 0, none⟩) rn sc
  | 1, v, _, _ => v = .int .i64 (k : Int)
  | 2, v, _, _ => v = .pointer (some ⟨sb, k, none⟩)
  | 3, v, _, _ => v = .int .i64 x
  | 4, v, _, _ => v = .slice (some ⟨hb, ho, none⟩) rn hc
  | 5, v, _, _ => v = .int .i64 (k : Int)
  | 6, v, _, _ => v = .pointer (some ⟨hb, hk, none⟩)
  | 7, v, _, _ => v = .int .i64 y
  | 8, v, _, _ => v = .slice (some ⟨lb, lo, none⟩) rn lc
  | 9, v, _, _ => v = .int .i64 (k : Int)
  | 10, v, _, _ => v = .pointer (some ⟨lb, lk, none⟩)
  | 11, v, _, _ => v = .int .i64 x
  | 12, v, _, _ => v = .int .i64 (y - x)
  | 13, v, _, _ => v = .slice (some ⟨ab, ao, none⟩) n6 c6
  | 14, v, _, _ => v = .int .i64 (k : Int)
  | 15, v, _, _ => v = .pointer (some ⟨ab, ao + k, none⟩)
  | 16, v, _, _ => v = .int .u8 u
  | 17, v, _, _ => v = .int .i64 u
  | 18, v, _, _ => v = .int .i64 ((y - x) * u)
  | 19, v, _, _ => v = .int .i64 (((y - x) * u).tdiv 255)
  | 20, v, _, _ => v = .int .i64 (x + ((y - x) * u).tdiv 255)
  | 21, v, _, _ => v = .pointer (some ⟨sb, k, none⟩)
  | 22, _, _, γ => γ 1 ≠ 0
  | _, _, _, _ => True
theorem hhPhi_w {sb hb ho hk lb lo lk ab ao rn sc hc lc n6 c6 k : Nat} {x y u : Int} {j : Nat} {v : Value} {W W' : World} {γ γ' : Nat → Nat} (h22 : j ≠ 22) (h : hhPhi sb hb ho hk lb lo lk ab ao rn sc hc lc n6 c6 k x y u j v W γ) : hhPhi sb hb ho hk lb lo lk ab ao rn sc hc lc n6 c6 k x y u j v W' γ' := by
  unfold hhPhi at h ⊢
  split at h <;> first | exact h | exact absurd rfl h22 | trivial
/-- A case of the class. -/
def MidOk (n : Nat) (KL KH : List Int) (ol pl oh ph o p : Int) (L : List Int) : Prop :=
  (∀ y ∈ L, 0 ≤ y ∧ y ≤ 10000000) ∧ (∀ i, KL.getD i 0 ≤ L.getD i 0 ∧ L.getD i 0 ≤ KH.getD i 0) ∧ ((ol ≤ o ∧ o ≤ oh) ∧ 0 ≤ o ∧ o ≤ 1000000) ∧ (ph ≤ p ∧ p ≤ pl) ∧ 0 ≤ p ∧ p ≤ 100000
def KK (rn : Nat) (KL KH : List Int) (ol pl oh ph : Int) : Prop := (KL.length = rn ∧ KH.length = rn) ∧ (∀ y ∈ KL, 0 ≤ y ∧ y ≤ 255000) ∧ (∀ y ∈ KH, 0 ≤ y ∧ y ≤ 255000) ∧ (∀ i, 0 ≤ KL.getD i 0) ∧ (∀ i, KL.getD i 0 ≤ KH.getD i 0) ∧ ((0 ≤ ol ∧ ol ≤ 1000000) ∧ (0 ≤ pl ∧ pl ≤ 100000) ∧ (0 ≤ oh ∧ oh ≤ 1000000) ∧ (0 ≤ ph ∧ ph ≤ 100000) ∧ ol ≤ oh ∧ ph ≤ pl)
def TT (rn : Nat) (TL TH : List Int) : Prop := (TL.length = rn ∧ TH.length = rn) ∧ (∀ y ∈ TL, 0 ≤ y ∧ y ≤ 1000000) ∧ (∀ y ∈ TH, 0 ≤ y ∧ y ≤ 1000000) ∧ (∀ i, 0 ≤ TL.getD i 0) ∧ (∀ i, TL.getD i 0 ≤ TH.getD i 0)
theorem getD_of {l : List Int} {i : Nat} {x : Int} (h : l[i]? = some x) : l.getD i 0 = x := by rw [List.getD_eq_getElem?_getD, h]; rfl
theorem in_bd {rn : Nat} {KL KH : List Int} {ol pl oh ph : Int} (k : KK rn KL KH ol pl oh ph) : ∀ (i : Nat) (x y : Int), KL[i]? = some x → KH[i]? = some y → 0 ≤ x ∧ x ≤ y ∧ y ≤ 1000000 := by
  intro i x y hx hy
  have h1 := k.2.2.2.1 i
  have h2 := k.2.2.2.2.1 i
  have h3 := k.2.2.1 y (List.mem_of_getElem? hy)
  rw [getD_of hx] at h1 h2
  rw [getD_of hy] at h2
  omega
theorem mid_ok {rn : Nat} {KL KH L : List Int} {ol pl oh ph o p : Int} (hl : L.length = rn) (k : KK rn KL KH ol pl oh ph) (hb : ∀ (i : Nat) (x y q : Int), KL[i]? = some x → KH[i]? = some y → L[i]? = some q → x ≤ q ∧ q ≤ y) (hop : (ol ≤ o ∧ o ≤ oh) ∧ ph ≤ p ∧ p ≤ pl) : MidOk rn KL KH ol pl oh ph o p L := by
  have hle := getD_le_of k.1.1 k.1.2 hl hb
  obtain ⟨k1, k2, k3, k4, k5, k6⟩ := k
  refine ⟨fun y hy => ?_, hle, ⟨hop.1, by omega⟩, hop.2, by omega⟩
  obtain ⟨i, hi, e⟩ := List.getElem_of_mem hy
  have h1 := hle i
  have h2 := k4 i
  have h3 : KH.getD i 0 ≤ 255000 := by
    rw [List.getD_eq_getElem?_getD, List.getElem?_eq_getElem (by omega)]
    exact (k3 _ (List.getElem_mem _)).2
  have h9 : L.getD i 0 = y := getD_of (by rw [← e]; exact List.getElem?_eq_getElem hi)
  rw [h9] at h1
  omega
theorem btL_le {rn : Nat} {TL TH l6 : List Int} (t : TT rn TL TH) (u : U8s l6) (i : Nat) : TL.getD i 0 ≤ (btL TL TH l6 rn).getD i 0 ∧ (btL TL TH l6 rn).getD i 0 ≤ TH.getD i 0 := by
  by_cases hi : i < rn
  · rw [btL_getD hi]
    exact btF_bd t.2.2.2.2 u i
  · rw [getD_out t.1.1 (by omega), getD_out t.1.2 (by omega), getD_out (n := rn) (by simp [btL]) (by omega)]
    exact ⟨Int.le_refl _, Int.le_refl _⟩
theorem btL_bd {rn : Nat} {TL TH l6 : List Int} (t : TT rn TL TH) (u : U8s l6) : ∀ y ∈ btL TL TH l6 rn, 0 ≤ y ∧ y ≤ 1000000 := by
  intro y hy
  obtain ⟨i, hi, e⟩ := List.getElem_of_mem hy
  have hi2 : i < rn := by simpa [btL] using hi
  have h1 := btL_le t u i
  have h2 := t.2.2.2.1 i
  have h3 : TH.getD i 0 ≤ 1000000 := by
    rw [List.getD_eq_getElem?_getD, List.getElem?_eq_getElem (by have := t.1.2; omega)]
    exact (t.2.2.1 _ (List.getElem_mem _)).2
  have h9 : (btL TL TH l6 rn).getD i 0 = y := getD_of (by rw [← e]; exact List.getElem?_eq_getElem hi)
  rw [h9] at h1
  omega
theorem hold_end {h : Hl} (ok : HlOk h) {rn : Nat} (hn : h.rooms.length = rn) {TL TH l6 KL KH L : List Int} {ol pl oh ph o p : Int} (t : TT rn TL TH) (u : U8s l6) (k : KK rn KL KH ol pl oh ph) (m : MidOk rn KL KH ol pl oh ph o p L) (s : leB TL (nxL h TL KL ol pl) = true ∧ leB (nxL h TH KH oh ph) TH = true) : leB TL (nxL h (btL TL TH l6 rn) L o p) = true ∧ leB (nxL h (btL TL TH l6 rn) L o p) TH = true := by
  obtain ⟨k1, k2, k3, k4, k5, k6⟩ := k
  exact held_mid ok hn k6.2.1 k6.2.2.2.1 k6.1.1 m.2.2.2.1.2 m.2.2.2.1.1 m.2.2.1.1.1 m.2.2.1.1.2 k4 (fun i => (m.2.1 i).1) (fun i => (m.2.1 i).2) t.2.2.2.1 (fun i => (btL_le t u i).1) (fun i => (btL_le t u i).2) t.1.1 s.1 s.2
theorem settled_ok {h : Hl} (ok : HlOk h) {rn : Nat} (hn : h.rooms.length = rn) {TL TH KL KH : List Int} {ol pl oh ph : Int} (t : TT rn TL TH) (k : KK rn KL KH ol pl oh ph) {a b : Nat} (ha : itL h KL ol pl TL (a + 1) = itL h KL ol pl TL a) (hb : itL h KH oh ph TH (b + 1) = itL h KH oh ph TH b) : TT rn (itL h KL ol pl TL a) (itL h KH oh ph TH b) := by
  obtain ⟨k1, k2, k3, k4, k5, k6⟩ := k
  have e1 := itL_ok ok (l := KL) (out := ol) (pump := pl) (by rw [t.1.1, hn]) t.2.1 (fun y hy => by have := k2 y hy; omega) k6.1.1 k6.2.1 a
  have e2 := itL_ok ok (l := KH) (out := oh) (pump := ph) (by rw [t.1.2, hn]) t.2.2.1 (fun y hy => by have := k3 y hy; omega) k6.2.2.1.1 k6.2.2.2.1 b
  exact ⟨⟨by rw [e1.1, hn], by rw [e2.1, hn]⟩, e1.2, e2.2, fun i => (itL_mono ok k6.2.1 k6.2.2.2.1 k6.1.1 k6.2.2.2.2.2 k6.2.2.2.2.1 k4 k5 t.2.2.2.1 t.2.2.2.2 a i).1, settled_le ok k6.2.1 k6.2.2.2.1 k6.1.1 k6.2.2.2.2.2 k6.2.2.2.2.1 k4 k5 t.2.2.2.1 t.2.2.2.2 ha hb⟩
def hmPhi (h : Hl) (rn : Nat) (hv sv kv av : Value) (S KL KH : List Int) (ol pl oh ph : Int) : Nat → Value → World → (Nat → Nat) → Prop
  | 0, v, _, _ => v = hv
  | 1, v, _, _ => v = sv
  | 2, v, _, _ => v = kv
  | 3, v, _, _ => v = av
  | 4, v, W, _ => ∃ (A : Option Addr) (c : Nat) (o p : Int) (L : List Int), v = .agg #[.slice A rn c, .int .i64 o, .int .i64 p] ∧ Rd W W.heap.size 1 encI A rn L ∧ MidOk rn KL KH ol pl oh ph o p L
  | 5, v, W, _ => ∃ (xb : Nat) (o p : Int) (L : List Int), v = .tuple #[.slice (some ⟨xb, 0, none⟩) rn rn, .int .i64 0] ∧ MidOk rn KL KH ol pl oh ph o p L ∧ Blk W xb 3 (intsA (nxL h S L o p))
  | 6, v, W, _ => ∃ (xb : Nat) (o p : Int) (L : List Int), v = .tuple #[.slice (some ⟨xb, 0, none⟩) rn rn, .int .i64 0] ∧ MidOk rn KL KH ol pl oh ph o p L ∧ Blk W xb 3 (intsA (nxL h S L o p))
  | 7, v, W, _ => ∃ (xb : Nat) (o p : Int) (L : List Int), v = .slice (some ⟨xb, 0, none⟩) rn rn ∧ MidOk rn KL KH ol pl oh ph o p L ∧ Blk W xb 3 (intsA (nxL h S L o p))
  | 8, v, _, _ => v = .int .i64 0
  | 9, v, W, _ => ∃ (xb : Nat) (o p : Int) (L : List Int), v = .slice (some ⟨xb, 0, none⟩) rn rn ∧ MidOk rn KL KH ol pl oh ph o p L ∧ Blk W xb 3 (intsA (nxL h S L o p))
  | 10, v, _, _ => v = .int .i64 0
  | _, _, _, _ => True
theorem hmPhi_next {h : Hl} {rn : Nat} {hv sv kv av : Value} {S KL KH : List Int} {ol pl oh ph : Int} {j : Nat} {v : Value} {W W' : World} {γ : Nat → Nat} (hb : Below W.heap.size W W') (h9 : hmPhi h rn hv sv kv av S KL KH ol pl oh ph j v W γ) : hmPhi h rn hv sv kv av S KL KH ol pl oh ph j v W' γ := by
  unfold hmPhi at h9 ⊢
  split at h9
  all_goals first | exact h9 | trivial | skip
  · obtain ⟨A, c, o, p, L, e, h1, h2⟩ := h9; exact ⟨A, c, o, p, L, e, h1.next hb, h2⟩
  all_goals obtain ⟨xb, o, p, L, e, h1, h2⟩ := h9; exact ⟨xb, o, p, L, e, h1, h2.below hb h2.lt⟩
end Go.Proofs.Ytldbciflpnhfpaa
