/- law11: a case that is made, its nodes and its values under way: plain facts. -/
import Derived.Test.YtcecbohaajocfaaMtD

set_option linter.unusedSimpArgs false
set_option linter.unusedVariables false
namespace Go.Proofs.Ytcecbohaajocfaa
def ndA (L : List Nd) (i : Nat) : Nd := L.getD i ⟨-1, 0, 0⟩
theorem ndA_set {L : List Nd} {k i : Nat} {x : Nd} (hk : k < L.length) : ndA (L.set k x) i = if i = k then x else ndA L i := by
  unfold ndA
  rw [List.getD_eq_getElem?_getD, List.getD_eq_getElem?_getD, List.getElem?_set]
  by_cases e : k = i
  · subst e; simp [hk]
  · rw [if_neg e, if_neg (fun h => e h.symm)]
theorem flag_set {L : List Bool} {k i : Nat} {x : Bool} (hk : k < L.length) : (L.set k x).getD i false = if i = k then x else L.getD i false := by
  rw [List.getD_eq_getElem?_getD, List.getD_eq_getElem?_getD, List.getElem?_set]
  by_cases e : k = i
  · subst e; simp [hk]
  · rw [if_neg e, if_neg (fun h => e h.symm)]
/-- Nodes under way. -/
structure NdI (n k : Nat) (L : List Nd) (S : List Bool) : Prop where
  len : L.length = n
  sl : S.length = n
  root : 0 < k → (ndA L 0).up = -1
  up : ∀ i, 0 < i → i < k → 0 ≤ (ndA L i).up ∧ (ndA L i).up < (i : Int)
  lh : ∀ i, i < k → 0 ≤ (ndA L i).lo ∧ (ndA L i).lo ≤ (ndA L i).hi ∧ (ndA L i).hi ≤ 8
  sons : ∀ j : Nat, j < n → (S.getD j false = true ↔ ∃ i, i < k ∧ (ndA L i).up = (j : Int))
theorem NdI.first (n : Nat) : NdI n 0 (List.replicate n ⟨0, 0, 0⟩) (List.replicate n false) := by
  refine ⟨by simp, by simp, fun h => absurd h (by omega), fun i _ h => absurd h (by omega), fun i h => absurd h (by omega), fun j hj => ?_⟩
  constructor
  · intro h
    rw [List.getD_eq_getElem?_getD, List.getElem?_replicate, if_pos hj] at h
    cases h
  · rintro ⟨i, h, _⟩
    omega
theorem NdI.step0 {n : Nat} {L : List Nd} {S : List Bool} {lo hi : Int} (h : NdI n 0 L S) (hn : 0 < n) (hb : 0 ≤ lo ∧ lo ≤ hi ∧ hi ≤ 8) : NdI n 1 (L.set 0 ⟨-1, lo, hi⟩) S := by
  have hk : 0 < L.length := by rw [h.len]; exact hn
  refine ⟨by rw [List.length_set]; exact h.len, h.sl, fun _ => by rw [ndA_set hk, if_pos rfl], fun i h1 h2 => by omega, fun i hi => ?_, fun j hj => ?_⟩
  · have : i = 0 := by omega
    rw [ndA_set hk, if_pos this]
    exact hb
  · rw [h.sons j hj]
    constructor
    · rintro ⟨i, h1, _⟩; omega
    · rintro ⟨i, h1, h2⟩
      have : i = 0 := by omega
      rw [ndA_set hk, if_pos this] at h2
      simp only [] at h2
      omega
theorem NdI.step {n k u : Nat} {L : List Nd} {S : List Bool} {lo hi : Int} (h : NdI n k L S) (hk0 : 0 < k) (hn : k < n) (hu : u < k) (hb : 0 ≤ lo ∧ lo ≤ hi ∧ hi ≤ 8) : NdI n (k + 1) (L.set k ⟨(u : Int), lo, hi⟩) (S.set u true) := by
  have hk : k < L.length := by rw [h.len]; exact hn
  have hs : u < S.length := by rw [h.sl]; omega
  refine ⟨by rw [List.length_set]; exact h.len, by rw [List.length_set]; exact h.sl, fun _ => by rw [ndA_set hk, if_neg (by omega)]; exact h.root hk0, fun i h1 h2 => ?_, fun i hi => ?_, fun j hj => ?_⟩
  · rw [ndA_set hk]
    split
    · simp only []; omega
    · exact h.up i h1 (by omega)
  · rw [ndA_set hk]
    split
    · exact hb
    · exact h.lh i (by omega)
  · rw [flag_set hs]
    constructor
    · intro h9
      by_cases e : j = u
      · exact ⟨k, by omega, by rw [ndA_set hk, if_pos rfl]; simp only []; omega⟩
      · rw [if_neg e] at h9
        obtain ⟨i, h1, h2⟩ := (h.sons j hj).1 h9
        exact ⟨i, by omega, by rw [ndA_set hk, if_neg (by omega)]; exact h2⟩
    · rintro ⟨i, h1, h2⟩
      rw [ndA_set hk] at h2
      by_cases e : i = k
      · rw [if_pos e] at h2
        simp only [] at h2
        rw [if_pos (by omega)]
      · rw [if_neg e] at h2
        split
        · rfl
        · exact (h.sons j hj).2 ⟨i, by omega, h2⟩
/-- Sums over all nodes. -/
def fsum (n : Nat) (f : Nat → Int) : Int := ((List.range n).map f).sum
theorem fsum_succ (n : Nat) (f : Nat → Int) : fsum (n + 1) f = fsum n f + f n := by simp [fsum, List.range_succ]
theorem fsum_congr {n : Nat} {f g : Nat → Int} (h : ∀ k, k < n → f k = g k) : fsum n f = fsum n g := by
  unfold fsum
  rw [List.map_congr_left fun k hk => h k (by simpa using hk)]
theorem fsum_zero {n : Nat} {f : Nat → Int} (h : ∀ k, k < n → f k = 0) : fsum n f = 0 := by
  induction n with
  | zero => rfl
  | succ n ih => rw [fsum_succ, ih fun k hk => h k (by omega), h n (by omega)]; rfl
theorem fsum_one {n i : Nat} {f g : Nat → Int} {a : Int} (hi : i < n) (h : ∀ k, k < n → k ≠ i → f k = g k) (e : f i = g i + a) : fsum n f = fsum n g + a := by
  induction n with
  | zero => omega
  | succ n ih =>
    rw [fsum_succ, fsum_succ]
    by_cases hin : i = n
    · subst hin
      rw [fsum_congr (f := f) (g := g) fun k hk => h k (by omega) (by omega), e]
      omega
    · rw [ih (by omega) fun k hk hne => h k (by omega) hne, h n (by omega) (fun e9 => hin e9.symm)]
      omega
theorem sum_filter {l : List Nat} {p : Nat → Bool} {f : Nat → Int} : ((l.filter p).map f).sum = (l.map fun k => if p k then f k else 0).sum := by
  induction l with
  | nil => rfl
  | cons a l ih =>
    rw [List.filter_cons]
    split
    · rename_i h
      rw [List.map_cons, List.map_cons, List.sum_cons, List.sum_cons, ih, if_pos h]
    · rename_i h
      rw [List.map_cons, List.sum_cons, ih, if_neg h]
      omega
def bndV : Nat → Int
  | 0 => 108
  | s + 1 => 4 * bndV s
theorem bndV_low (s : Nat) : 108 ≤ bndV s := by
  induction s with
  | zero => exact Int.le_refl _
  | succ s ih => simp only [bndV]; omega
theorem bndV_mono (s d : Nat) : bndV s ≤ bndV (s + d) := by
  induction d with
  | zero => exact Int.le_refl _
  | succ d ih => rw [← Nat.add_assoc]; simp only [bndV]; have := bndV_low (s + d); omega
theorem bndV_top {s : Nat} (h : s ≤ 9) : bndV s ≤ 28311552 := by
  have := bndV_mono s (9 - s)
  rw [show s + (9 - s) = 9 by omega] at this
  have e : bndV 9 = 28311552 := rfl
  omega
/-- Values under way: those from m on are done. -/
structure VlI (n m : Nat) (L : List Nd) (S : List Bool) (V : List Int) : Prop where
  len : V.length = n
  bd : ∀ j, 0 ≤ V.getD j 0 ∧ V.getD j 0 ≤ bndV (n - m)
  low : ∀ j, j < m → V.getD j 0 = fsum n (fun k => if m ≤ k ∧ (ndA L k).up = (j : Int) then V.getD k 0 else 0)
  high : ∀ j, m ≤ j → j < n → S.getD j false = true → (ndA L j).lo ≤ V.getD j 0 - fsum n (fun k => if (ndA L k).up = (j : Int) then V.getD k 0 else 0) ∧ V.getD j 0 - fsum n (fun k => if (ndA L k).up = (j : Int) then V.getD k 0 else 0) ≤ (ndA L j).hi
theorem VlI.first {n : Nat} (L : List Nd) (S : List Bool) : VlI n n L S (List.replicate n 0) := by
  have h0 : ∀ j, (List.replicate n (0 : Int)).getD j 0 = 0 := fun j => by
    rw [List.getD_eq_getElem?_getD, List.getElem?_replicate]
    split <;> rfl
  refine ⟨by simp, fun j => by rw [h0]; have := bndV_low (n - n); omega, fun j hj => ?_, fun j h1 h2 => by omega⟩
  rw [h0, fsum_zero fun k hk => by rw [if_neg (by omega)]]
/-- The node before is done: its value is y, and is added to that of the node it hangs on. -/
theorem VlI.step {n i : Nat} {L : List Nd} {S : List Bool} {V W : List Int} {y : Int} (hN : NdI n n L S) (h : VlI n (i + 1) L S V) (hi : i < n) (hy0 : 0 ≤ y ∧ y ≤ V.getD i 0 + 108) (hyS : S.getD i false = true → (ndA L i).lo ≤ y - V.getD i 0 ∧ y - V.getD i 0 ≤ (ndA L i).hi)
    (hW : W.length = n) (hWv : ∀ j, j < n → W.getD j 0 = if j = i then y else V.getD j 0 + (if (ndA L i).up = (j : Int) then y else 0)) : VlI n i L S W := by
  have hup : ∀ k, k < n → ∀ j : Nat, (ndA L k).up = (j : Int) → j < k := fun k hk j e => by
    by_cases h0 : k = 0
    · subst h0; rw [hN.root (by omega)] at e; omega
    · have := hN.up k (by omega) hk; omega
  have hWh : ∀ k, i < k → k < n → W.getD k 0 = V.getD k 0 := fun k h1 h2 => by
    rw [hWv k h2, if_neg (by omega), if_neg (fun e => by have := hup i hi k e; omega)]
    omega
  refine ⟨hW, fun j => ?_, fun j hj => ?_, fun j h1 h2 hS => ?_⟩
  · have hb := bndV_low (n - (i + 1))
    have e : n - i = n - (i + 1) + 1 := by omega
    rw [e]
    simp only [bndV]
    have hbi := h.bd i
    have hbj := h.bd j
    by_cases hjn : j < n
    · rw [hWv j hjn]
      split
      · omega
      · split <;> omega
    · rw [List.getD_eq_getElem?_getD, List.getElem?_eq_none (by omega)]
      simp
      omega
  · rw [hWv j (by omega), if_neg (by omega), h.low j (by omega)]
    refine (fsum_one hi (fun k hk hne => ?_) ?_).symm
    · by_cases e : (ndA L k).up = (j : Int)
      · by_cases h9 : i ≤ k
        · rw [if_pos ⟨h9, e⟩, if_pos ⟨by omega, e⟩]
          exact hWh k (by omega) hk
        · rw [if_neg (fun h => h9 h.1), if_neg (fun h => h9 (by omega))]
      · rw [if_neg (fun h => e h.2), if_neg (fun h => e h.2)]
    · have e1 : W.getD i 0 = y := by rw [hWv i hi, if_pos rfl]
      by_cases e : (ndA L i).up = (j : Int)
      · rw [if_pos ⟨Nat.le_refl _, e⟩, if_neg (by omega), if_pos e, e1]; omega
      · rw [if_neg (fun h => e h.2), if_neg (fun h => e h.2), if_neg e]; rfl
  · have hsum : fsum n (fun k => if (ndA L k).up = (j : Int) then W.getD k 0 else 0) = fsum n (fun k => if (ndA L k).up = (j : Int) then V.getD k 0 else 0) := fsum_congr fun k hk => by
      split
      · rename_i e
        have := hup k hk j e
        exact hWh k (by omega) hk
      · rfl
    rw [hsum]
    by_cases e : j = i
    · subst e
      have h3 : fsum n (fun k => if (ndA L k).up = (j : Int) then V.getD k 0 else 0) = V.getD j 0 := by
        rw [h.low j (by omega)]
        refine fsum_congr fun k hk => ?_
        split
        · rename_i e
          have := hup k hk j e
          rw [if_pos ⟨by omega, e⟩]
        · rename_i e
          rw [if_neg (fun h => e h.2)]
      rw [h3, hWv j hi, if_pos rfl]
      exact hyS hS
    · rw [hWh j (by omega) h2]
      exact h.high j (by omega) h2 hS
/-- The case that is made is valid, and all its balances hold. -/
theorem made_is {n : Nat} {L : List Nd} {S : List Bool} {V : List Int} (hN : NdI n n L S) (h : VlI n 0 L S V) (h1 : 1 ≤ n) (h9 : n ≤ 9) : KsOk ⟨L, V⟩ ∧ Bal ⟨L, V⟩ := by
  have hn : (⟨L, V⟩ : Ks).n = n := hN.len
  have hnd : ∀ i, (⟨L, V⟩ : Ks).nd i = ndA L i := fun _ => rfl
  have hv : ∀ i, (⟨L, V⟩ : Ks).v i = V.getD i 0 := fun _ => rfl
  have hb : ∀ i, 0 ≤ V.getD i 0 ∧ V.getD i 0 ≤ 1000000000 := fun i => by have := h.bd i; have := bndV_top (s := n - 0) (by omega); omega
  refine ⟨⟨by rw [hn]; exact h1, by rw [hn]; omega, by rw [hn]; exact h.len, hN.root (by omega), fun i h1 h2 => ?_, fun i hi => ?_, fun i _ => hb i⟩, ⟨fun i _ => hb i, fun i hi hs => ?_⟩⟩
  · rw [hn] at h2; exact hN.up i h1 h2
  · rw [hn] at hi; have := hN.lh i hi; rw [hnd]; omega
  · rw [hn] at hi
    obtain ⟨k, hk⟩ := List.exists_mem_of_ne_nil _ hs
    obtain ⟨k1, k2⟩ := mem_sons.1 hk
    rw [hn] at k1
    have hS := (hN.sons i hi).2 ⟨k, k1, k2⟩
    have h3 := h.high i (by omega) hi hS
    have e : ((sonsL ⟨L, V⟩ i).map (⟨L, V⟩ : Ks).v).sum = fsum n (fun k => if (ndA L k).up = (i : Int) then V.getD k 0 else 0) := by
      unfold sonsL fsum
      rw [sum_filter, hn]
      congr 1
      apply List.map_congr_left
      intro k _
      simp only [decide_eq_true_eq]
      rfl
    rw [e]
    exact h3
end Go.Proofs.Ytcecbohaajocfaa
