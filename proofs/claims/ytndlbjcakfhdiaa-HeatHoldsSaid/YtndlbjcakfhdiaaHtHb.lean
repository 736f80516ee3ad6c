/- law07: HeatHolds: what its regions' operations give. -/
import Derived.Test.YtndlbjcakfhdiaaHtHa
import Derived.Test.YtndlbjcakfhdiaaHtSl
import Derived.Test.YtndlbjcakfhdiaaHtNb
import Derived.Test.YtndlbjcakfhdiaaHtW

set_option linter.unusedSimpArgs false
set_option linter.unusedVariables false
namespace Go.Proofs.Ytndlbjcakfhdiaa
open Go.RowKit

theorem mul_in {x y u : Int} (h : (0 ≤ x ∧ x ≤ y ∧ y ≤ 1000000) ∧ 0 ≤ u ∧ u ≤ 255) : 0 ≤ (y - x) * u ∧ (y - x) * u ≤ 255000000 := by
  have h1 : 0 ≤ (y - x) * u := Int.mul_nonneg (by omega) h.2.1
  have h2 : (y - x) * u ≤ 1000000 * 255 := Int.mul_le_mul (by omega) (by omega) h.2.1 (by omega)
  omega
theorem div_in {x y u : Int} (h : (0 ≤ x ∧ x ≤ y ∧ y ≤ 1000000) ∧ 0 ≤ u ∧ u ≤ 255) : 0 ≤ ((y - x) * u).tdiv 255 ∧ ((y - x) * u).tdiv 255 ≤ 1000000 := by
  have h1 := mul_in h
  rw [Int.tdiv_eq_ediv_of_nonneg h1.1]
  omega
def hhPhi (sb hb ho hk lb lo lk ab ao rn sc hc lc n6 c6 k : Nat) (x y u : Int) : Nat → Value → World → (Nat → Nat) → Prop
  | 0, v, _, _ => v = .slice (some ⟨sb, 0, none⟩) rn sc
  | 1, v, _, _ => v = .int .i64 (k : Int)
  | 2, v, _, _ => v = .pointer (some ⟨sb, k, none⟩)
  | 3, v, _, _ => v = .int .i64 x
  | 4, v, _, _ => v = .slice (some ⟨hb, ho, none⟩) rn hc
  | 5, v, _, _ => v = .int .i64 (k : Int)
  | 6, v, _, _ => v = .pointer (some ⟨hb, hk, none⟩)
  | 7, v, _, _ => v = .int .i64 y
  | 8, v, _, _ => v = .slice (some ⟨lb, lo, none⟩) rn lc
  | 9, v, _, _ => v = .int .i64 (k : Int)
  | 10, v, _, _ => v = .pointer (some ⟨lb, lk, none⟩)
  | 11, v, _, _ => v = .int .i64 x
  | 12, v, _, _ => v = .int .i64 (y - x)
  | 13, v, _, _ => v = .slice (some ⟨ab, ao, none⟩) n6 c6
  | 14, v, _, _ => v = .int .i64 (k : Int)
  | 15, v, _, _ => v = .pointer (some ⟨ab, ao + k, none⟩)
  | 16, v, _, _ => v = .int .u8 u
  | 17, v, _, _ => v = .int .i64 u
  | 18, v, _, _ => v = .int .i64 ((y - x) * u)
  | 19, v, _, _ => v = .int .i64 (((y - x) * u).tdiv 255)
  | 20, v, _, _ => v = .int .i64 (x + ((y - x) * u).tdiv 255)
  | 21, v, _, _ => v = .pointer (some ⟨sb, k, none⟩)
  | 22, _, _, γ => γ 1 ≠ 0
  | _, _, _, _ => True
theorem hhPhi_w {sb hb ho hk lb lo lk ab ao rn sc hc lc n6 c6 k : Nat} {x y u : Int} {j : Nat} {v : Value} {W W' : World} {γ γ' : Nat → Nat} (h22 : j ≠ 22) (h : hhPhi sb hb ho hk lb lo lk ab ao rn sc hc lc n6 c6 k x y u j v W γ) : hhPhi sb hb ho hk lb lo lk ab ao rn sc hc lc n6 c6 k x y u j v W' γ' := by
  unfold hhPhi at h ⊢
  split at h <;> first | exact h | exact absurd rfl h22 | trivial
/-- A case of the class. -/
def MidOk (n : Nat) (KL KH : List Int) (ol pl oh ph o p : Int) (L : List Int) : Prop :=
  (∀ y ∈ L, 0 ≤ y ∧ y ≤ 10000000) ∧ (∀ i, KL.getD i 0 ≤ L.getD i 0 ∧ L.getD i 0 ≤ KH.getD i 0) ∧ ((ol ≤ o ∧ o ≤ oh) ∧ 0 ≤ o ∧ o ≤ 1000000) ∧ (ph ≤ p ∧ p ≤ pl) ∧ 0 ≤ p ∧ p ≤ 100000
def KK (rn : Nat) (KL KH : List Int) (ol pl oh ph : Int) : Prop := (KL.length = rn ∧ KH.length = rn) ∧ (∀ y ∈ KL, 0 ≤ y ∧ y ≤ 255000) ∧ (∀ y ∈ KH, 0 ≤ y ∧ y ≤ 255000) ∧ (∀ i, 0 ≤ KL.getD i 0) ∧ (∀ i, KL.getD i 0 ≤ KH.getD i 0) ∧ ((0 ≤ ol ∧ ol ≤ 1000000) ∧ (0 ≤ pl ∧ pl ≤ 100000) ∧ (0 ≤ oh ∧ oh ≤ 1000000) ∧ (0 ≤ ph ∧ ph ≤ 100000) ∧ ol ≤ oh ∧ ph ≤ pl)
def TT (rn : Nat) (TL TH : List Int) : Prop := (TL.length = rn ∧ TH.length = rn) ∧ (∀ y ∈ TL, 0 ≤ y ∧ y ≤ 1000000) ∧ (∀ y ∈ TH, 0 ≤ y ∧ y ≤ 1000000) ∧ (∀ i, 0 ≤ TL.getD i 0) ∧ (∀ i, TL.getD i 0 ≤ TH.getD i 0)
theorem getD_of {l : List Int} {i : Nat} {x : Int} (h : l[i]? = some x) : l.getD i 0 = x := by rw [List.getD_eq_getElem?_getD, h]; rfl
theorem in_bd {rn : Nat} {KL KH : List Int} {ol pl oh ph : Int} (k : KK rn KL KH ol pl oh ph) : ∀ (i : Nat) (x y : Int), KL[i]? = some x → KH[i]? = some y → 0 ≤ x ∧ x ≤ y ∧ y ≤ 1000000 := by
  intro i x y hx hy
  have h1 := k.2.2.2.1 i
  have h2 := k.2.2.2.2.1 i
  have h3 := k.2.2.1 y (List.mem_of_getElem? hy)
  rw [getD_of hx] at h1 h2
  rw [getD_of hy] at h2
  omega
theorem mid_ok {rn : Nat} {KL KH L : List Int} {ol pl oh ph o p : Int} (hl : L.length = rn) (k : KK rn KL KH ol pl oh ph) (hb : ∀ (i : Nat) (x y q : Int), KL[i]? = some x → KH[i]? = some y → L[i]? = some q → x ≤ q ∧ q ≤ y) (hop : (ol ≤ o ∧ o ≤ oh) ∧ ph ≤ p ∧ p ≤ pl) : MidOk rn KL KH ol pl oh ph o p L := by
  have hle := getD_le_of k.1.1 k.1.2 hl hb
  obtain ⟨k1, k2, k3, k4, k5, k6⟩ := k
  refine ⟨fun y hy => ?_, hle, ⟨hop.1, by omega⟩, hop.2, by omega⟩
  obtain ⟨i, hi, e⟩ := List.getElem_of_mem hy
  have h1 := hle i
  have h2 := k4 i
  have h3 : KH.getD i 0 ≤ 255000 := by
    rw [List.getD_eq_getElem?_getD, List.getElem?_eq_getElem (by omega)]
    exact (k3 _ (List.getElem_mem _)).2
  have h9 : L.getD i 0 = y := getD_of (by rw [← e]; exact List.getElem?_eq_getElem hi)
  rw [h9] at h1
  omega
theorem btL_le {rn : Nat} {TL TH l6 : List Int} (t : TT rn TL TH) (u : U8s l6) (i : Nat) : TL.getD i 0 ≤ (btL TL TH l6 rn).getD i 0 ∧ (btL TL TH l6 rn).getD i 0 ≤ TH.getD i 0 := by
  by_cases hi : i < rn
  · rw [btL_getD hi]
    exact btF_bd t.2.2.2.2 u i
  · rw [getD_out t.1.1 (by omega), getD_out t.1.2 (by omega), getD_out (n := rn) (by simp [btL]) (by omega)]
    exact ⟨Int.le_refl _, Int.le_refl _⟩
theorem btL_bd {rn : Nat} {TL TH l6 : List Int} (t : TT rn TL TH) (u : U8s l6) : ∀ y ∈ btL TL TH l6 rn, 0 ≤ y ∧ y ≤ 1000000 := by
  intro y hy
  obtain ⟨i, hi, e⟩ := List.getElem_of_mem hy
  have hi2 : i < rn := by simpa [btL] using hi
  have h1 := btL_le t u i
  have h2 := t.2.2.2.1 i
  have h3 : TH.getD i 0 ≤ 1000000 := by
    rw [List.getD_eq_getElem?_getD, List.getElem?_eq_getElem (by have := t.1.2; omega)]
    exact (t.2.2.1 _ (List.getElem_mem _)).2
  have h9 : (btL TL TH l6 rn).getD i 0 = y := getD_of (by rw [← e]; exact List.getElem?_eq_getElem hi)
  rw [h9] at h1
  omega
theorem hold_end {h : Hl} (ok : HlOk h) {rn : Nat} (hn : h.rooms.length = rn) {TL TH l6 KL KH L : List Int} {ol pl oh ph o p : Int} (t : TT rn TL TH) (u : U8s l6) (k : KK rn KL KH ol pl oh ph) (m : MidOk rn KL KH ol pl oh ph o p L) (s : leB TL (nxL h TL KL ol pl) = true ∧ leB (nxL h TH KH oh ph) TH = true) : leB TL (nxL h (btL TL TH l6 rn) L o p) = true ∧ leB (nxL h (btL TL TH l6 rn) L o p) TH = true := by
  obtain ⟨k1, k2, k3, k4, k5, k6⟩ := k
  exact held_mid ok hn k6.2.1 k6.2.2.2.1 k6.1.1 m.2.2.2.1.2 m.2.2.2.1.1 m.2.2.1.1.1 m.2.2.1.1.2 k4 (fun i => (m.2.1 i).1) (fun i => (m.2.1 i).2) t.2.2.2.1 (fun i => (btL_le t u i).1) (fun i => (btL_le t u i).2) t.1.1 s.1 s.2
theorem settled_ok {h : Hl} (ok : HlOk h) {rn : Nat} (hn : h.rooms.length = rn) {TL TH KL KH : List Int} {ol pl oh ph : Int} (t : TT rn TL TH) (k : KK rn KL KH ol pl oh ph) {a b : Nat} (ha : itL h KL ol pl TL (a + 1) = itL h KL ol pl TL a) (hb : itL h KH oh ph TH (b + 1) = itL h KH oh ph TH b) : TT rn (itL h KL ol pl TL a) (itL h KH oh ph TH b) := by
  obtain ⟨k1, k2, k3, k4, k5, k6⟩ := k
  have e1 := itL_ok ok (l := KL) (out := ol) (pump := pl) (by rw [t.1.1, hn]) t.2.1 (fun y hy => by have := k2 y hy; omega) k6.1.1 k6.2.1 a
  have e2 := itL_ok ok (l := KH) (out := oh) (pump := ph) (by rw [t.1.2, hn]) t.2.2.1 (fun y hy => by have := k3 y hy; omega) k6.2.2.1.1 k6.2.2.2.1 b
  exact ⟨⟨by rw [e1.1, hn], by rw [e2.1, hn]⟩, e1.2, e2.2, fun i => (itL_mono ok k6.2.1 k6.2.2.2.1 k6.1.1 k6.2.2.2.2.2 k6.2.2.2.2.1 k4 k5 t.2.2.2.1 t.2.2.2.2 a i).1, settled_le ok k6.2.1 k6.2.2.2.1 k6.1.1 k6.2.2.2.2.2 k6.2.2.2.2.1 k4 k5 t.2.2.2.1 t.2.2.2.2 ha hb⟩
def hmPhi (h : Hl) (rn : Nat) (hv sv kv av : Value) (S KL KH : List Int) (ol pl oh ph : Int) : Nat → Value → World → (Nat → Nat) → Prop
  | 0, v, _, _ => v = hv
  | 1, v, _, _ => v = sv
  | 2, v, _, _ => v = kv
  | 3, v, _, _ => v = av
  | 4, v, W, _ => ∃ (A : Option Addr) (c : Nat) (o p : Int) (L : List Int), v = .agg #[.slice A rn c, .int .i64 o, .int .i64 p] ∧ Rd W W.heap.size 1 encI A rn L ∧ MidOk rn KL KH ol pl oh ph o p L
  | 5, v, W, _ => ∃ (xb : Nat) (o p : Int) (L : List Int), v = .tuple #[.slice (some ⟨xb, 0, none⟩) rn rn, .int .i64 0] ∧ MidOk rn KL KH ol pl oh ph o p L ∧ Blk W xb 3 (intsA (nxL h S L o p))
  | 6, v, W, _ => ∃ (xb : Nat) (o p : Int) (L : List Int), v = .tuple #[.slice (some ⟨xb, 0, none⟩) rn rn, .int .i64 0] ∧ MidOk rn KL KH ol pl oh ph o p L ∧ Blk W xb 3 (intsA (nxL h S L o p))
  | 7, v, W, _ => ∃ (xb : Nat) (o p : Int) (L : List Int), v = .slice (some ⟨xb, 0, none⟩) rn rn ∧ MidOk rn KL KH ol pl oh ph o p L ∧ Blk W xb 3 (intsA (nxL h S L o p))
  | 8, v, _, _ => v = .int .i64 0
  | 9, v, W, _ => ∃ (xb : Nat) (o p : Int) (L : List Int), v = .slice (some ⟨xb, 0, none⟩) rn rn ∧ MidOk rn KL KH ol pl oh ph o p L ∧ Blk W xb 3 (intsA (nxL h S L o p))
  | 10, v, _, _ => v = .int .i64 0
  | _, _, _, _ => True
theorem hmPhi_next {h : Hl} {rn : Nat} {hv sv kv av : Value} {S KL KH : List Int} {ol pl oh ph : Int} {j : Nat} {v : Value} {W W' : World} {γ : Nat → Nat} (hb : Below W.heap.size W W') (h9 : hmPhi h rn hv sv kv av S KL KH ol pl oh ph j v W γ) : hmPhi h rn hv sv kv av S KL KH ol pl oh ph j v W' γ := by
  unfold hmPhi at h9 ⊢
  split at h9
  all_goals first | exact h9 | trivial | skip
  · obtain ⟨A, c, o, p, L, e, h1, h2⟩ := h9; exact ⟨A, c, o, p, L, e, h1.next hb, h2⟩
  all_goals obtain ⟨xb, o, p, L, e, h1, h2⟩ := h9; exact ⟨xb, o, p, L, e, h1, h2.below hb h2.lt⟩
end Go.Proofs.Ytndlbjcakfhdiaa
