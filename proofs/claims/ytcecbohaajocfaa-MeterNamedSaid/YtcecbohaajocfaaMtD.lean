/- meter: cases with some values changed: plain facts. -/
import Derived.Test.YtcecbohaajocfaaMtP

set_option linter.unusedSimpArgs false
set_option linter.unusedVariables false
namespace Go.Proofs.Ytcecbohaajocfaa
/-- The case with other values. -/
def Ks.put (c : Ks) (l : List Int) : Ks := ⟨c.nodes, l⟩
theorem put_n (c : Ks) (l : List Int) : (c.put l).n = c.n := rfl
theorem put_nd (c : Ks) (l : List Int) (i : Nat) : (c.put l).nd i = c.nd i := rfl
theorem put_sons (c : Ks) (l : List Int) (i : Nat) : sonsL (c.put l) i = sonsL c i := rfl
theorem put_v (c : Ks) (l : List Int) (i : Nat) : (c.put l).v i = l.getD i 0 := rfl
theorem put_put (c : Ks) (l m : List Int) : (c.put l).put m = c.put m := rfl
theorem put_self (c : Ks) : c.put c.vals = c := rfl
theorem sol_put {c : Ks} {l : List Int} {x : Nat → Int} : Sol (c.put l) x ↔ Sol c x := ⟨fun h => ⟨h.bd, h.bal⟩, fun h => ⟨h.bd, h.bal⟩⟩
theorem put_ok {c : Ks} (ok : KsOk c) {l : List Int} (hl : l.length = c.n) (hb : ∀ x ∈ l, 0 ≤ x ∧ x ≤ 1000000000) : KsOk (c.put l) := by
  refine ⟨ok.n1, ok.n14, hl, ok.root, ok.up, ok.lh, fun i hi => ?_⟩
  rw [put_v, List.getD_eq_getElem?_getD]
  have hi2 : i < l.length := by rw [hl]; exact hi
  rw [List.getElem?_eq_getElem hi2]
  exact hb _ (List.getElem_mem hi2)
theorem ok_bd {c : Ks} (ok : KsOk c) {x : Int} (hx : x ∈ c.vals) : 0 ≤ x ∧ x ≤ 1000000000 := by
  obtain ⟨i, hi, e⟩ := List.getElem_of_mem hx
  have h := ok.val i (by have := ok.len; omega)
  unfold Ks.v at h
  rw [List.getD_eq_getElem?_getD, List.getElem?_eq_getElem hi, e] at h
  exact h
/-- All balances of a case hold. -/
def Bal (c : Ks) : Prop := Sol c c.v
/-- Some nodes' values are changed. -/
structure Chg (c0 c : Ks) (set : List Nat) : Prop where
  nodes : c.nodes = c0.nodes
  old : ∀ i, i < c.n → i ∉ set → c.v i = c0.v i
theorem Chg.refl (c : Ks) : Chg c c [] := ⟨rfl, fun _ _ _ => rfl⟩
theorem Chg.sol {c0 c : Ks} {set : List Nat} (h : Chg c0 c set) {x : Nat → Int} (hx : Sol c0 x) : Sol c x := by
  have : c = c0.put c.vals := by unfold Ks.put; rw [← h.nodes]
  rw [this]
  exact sol_put.2 hx
theorem Chg.can {c0 c : Ks} {set : List Nat} (h : Chg c0 c set) (ok : KsOk c) (hb : Bal c0) : canB c set = true :=
  can_of_sol ok (h.sol hb) fun i hi hn => (h.old i hi hn).symm
theorem put_getD {l : List Int} {k i : Nat} {x : Int} (hk : k < l.length) : (l.set k x).getD i 0 = if i = k then x else l.getD i 0 := by
  rw [List.getD_eq_getElem?_getD, List.getD_eq_getElem?_getD, List.getElem?_set]
  by_cases e : k = i
  · subst e; simp [hk]
  · rw [if_neg e, if_neg (fun h => e h.symm)]
/-- The empty set explains just if all balances hold. -/
theorem can_nil {c : Ks} (ok : KsOk c) : canB c [] = true ↔ Bal c := by
  rw [can_iff ok]
  constructor
  · rintro ⟨x, hx, hf⟩
    have e : ∀ i, i < c.n → x i = c.v i := fun i hi => hf i hi (by simp)
    refine ⟨fun i hi => by rw [← e i hi]; exact hx.bd i hi, fun i hi hs => ?_⟩
    have h := hx.bal i hi hs
    rw [e i hi, List.map_congr_left fun k hk => e k (sons_gt ok hk).2] at h
    exact h
  · intro h
    exact ⟨_, h, fun i _ _ => rfl⟩
theorem vc_nil9 (n : Nat) : Vc n [] := ⟨by simp, fun i j _ h => by simp at h, fun i h => by simp at h⟩
theorem vc_one9 {n x : Nat} (h : x < n) : Vc n [x] := by
  refine ⟨by simp; omega, fun i j hij hj => by simp at hj; omega, fun i hi => ?_⟩
  simp at hi
  subst hi
  simpa using h
theorem vc_mem {n : Nat} {s : List Nat} (h : Vc n s) {x : Nat} (hx : x ∈ s) : x < n := by
  obtain ⟨i, hi, e⟩ := List.getElem_of_mem hx
  have := h.lt i hi
  rw [List.getD_eq_getElem?_getD, List.getElem?_eq_getElem hi, e] at this
  exact this
theorem vc_sorted {n : Nat} {s : List Nat} (h : Vc n s) : s.Pairwise (· < ·) := by
  rw [List.pairwise_iff_getElem]
  intro i j hi hj hij
  have := h.mono i j hij hj
  rw [List.getD_eq_getElem?_getD, List.getD_eq_getElem?_getD, List.getElem?_eq_getElem hi, List.getElem?_eq_getElem hj] at this
  exact this
theorem sorted_vc {n : Nat} {s : List Nat} (h : s.Pairwise (· < ·)) (hb : ∀ x ∈ s, x < n) : Vc n s := by
  have hg : ∀ i (hi : i < s.length), s.getD i 0 = s[i] := fun i hi => by
    rw [List.getD_eq_getElem?_getD, List.getElem?_eq_getElem hi]; rfl
  have hm : ∀ i j, i < j → j < s.length → s.getD i 0 < s.getD j 0 := fun i j hij hj => by
    rw [hg i (by omega), hg j hj]
    exact List.pairwise_iff_getElem.1 h i j (by omega) hj hij
  have hlt : ∀ i, i < s.length → s.getD i 0 < n := fun i hi => by rw [hg i hi]; exact hb _ (List.getElem_mem hi)
  refine ⟨?_, hm, hlt⟩
  have hge : ∀ i, i < s.length → i ≤ s.getD i 0 := by
    intro i
    induction i with
    | zero => intro _; omega
    | succ i ih => intro hi; have := ih (by omega); have := hm i (i + 1) (by omega) hi; omega
  by_cases h0 : s.length = 0
  · omega
  · have := hge (s.length - 1) (by omega)
    have := hlt (s.length - 1) (by omega)
    omega
theorem vc_filter {n : Nat} {s : List Nat} (h : Vc n s) (p : Nat → Bool) : Vc n (s.filter p) :=
  sorted_vc ((vc_sorted h).filter p) fun x hx => vc_mem h (List.mem_filter.1 hx).1
theorem vc_range (n : Nat) (p : Nat → Bool) : Vc n ((List.range n).filter p) :=
  sorted_vc (List.Pairwise.filter _ (by rw [List.range_eq_range']; exact List.pairwise_lt_range')) fun x hx => by simpa using (List.mem_filter.1 hx).1
/-- With a value less, and those before it as they are, the others can't be repaired. -/
theorem less_not {c : Ks} (ok : KsOk c) {set : List Nat} {r : Nat → Int} (hr : Rep c (narS c (iniS c set)) r) (hcan : canB c set = true) {d : Ks} {i : Nat} (hd : d.nodes = c.nodes) (okd : KsOk d) (hi : i < c.n) (him : i ∈ set)
    (hlow : ∀ j, j < i → d.v j = r j) (hat : d.v i = r i - 1) (hup : ∀ j, i < j → j < c.n → d.v j = c.v j) : canB d (set.filter fun k => decide (i < k)) = false := by
  cases e : canB d (set.filter fun k => decide (i < k)) with
  | false => rfl
  | true =>
    obtain ⟨x, hx, hf⟩ := (can_iff okd).1 e
    have hn : d.n = c.n := by unfold Ks.n; rw [hd]
    have hx2 : Sol c x := by
      have : c = d.put c.vals := by unfold Ks.put; rw [hd]
      rw [this]
      exact sol_put.2 hx
    obtain ⟨_, hfr⟩ := can_sol ok hcan hr
    have hb : ∀ j, j < i → x j = r j := fun j hj => by
      rw [hf j (by omega) (by simp; omega), hlow j hj]
    have hxi : x i = r i - 1 := by rw [hf i (by omega) (by simp), hat]
    have hfx : Fits c set x := fun j hj hn9 => by
      by_cases h1 : j < i
      · rw [hb j h1]; exact hfr j hj hn9
      · by_cases h2 : j = i
        · subst h2; exact absurd him hn9
        · rw [hf j (by omega) (fun h => hn9 (List.mem_filter.1 h).1), hup j (by omega) hj]
    have := rep_least ok hr hx2 hfx hi hb
    omega
/-- What is said of the least sets, of a case that a set explains. -/
theorem least_le {c : Ks} {LL : List (List Nat)} {k : Nat} (h : LeastIs c LL k) {set : List Nat} (hv : Vc c.n set) (hc : canB c set = true) : k ≤ set.length := by
  apply Nat.le_of_not_lt
  intro h9
  have := h.less set hv h9
  rw [hc] at this
  cases this
theorem least_none_ {c : Ks} {LL : List (List Nat)} {k : Nat} (h : LeastIs c LL k) (hc : canB c [] = true) : LL = [[]] := by
  have hk := least_le h (vc_nil9 c.n) hc
  have hk0 : k = 0 := by simpa using hk
  have he : ∀ s ∈ LL, s = [] := fun s hs => List.eq_nil_of_length_eq_zero (by rw [(h.ok s hs).2.1, hk0])
  match LL, h, he with
  | [], h, _ => exact absurd rfl h.some_
  | [s], _, he => rw [he s (by simp)]
  | s :: t :: l, h, he =>
    have := h.sorted
    rw [List.pairwise_cons] at this
    obtain ⟨j, h1, _⟩ := this.1 t (by simp)
    rw [he s (by simp)] at h1
    simp at h1
theorem least_pos {c : Ks} {LL : List (List Nat)} {k : Nat} (h : LeastIs c LL k) (hc : canB c [] = false) : 1 ≤ k := by
  apply Nat.le_of_not_lt
  intro h9
  obtain ⟨s, hs⟩ := List.exists_mem_of_ne_nil _ h.some_
  obtain ⟨_, h2, h3⟩ := h.ok s hs
  have : s = [] := List.eq_nil_of_length_eq_zero (by omega)
  rw [this, hc] at h3
  cases h3
/-- The nodes whose balances are broken. -/
def holdB (c : Ks) (i : Nat) : Bool := decide (sonsL c i = [] ∨ ((c.nd i).lo ≤ c.v i - ((sonsL c i).map c.v).sum ∧ c.v i - ((sonsL c i).map c.v).sum ≤ (c.nd i).hi))
def brkL (c : Ks) : List Nat := (List.range c.n).filter fun i => !holdB c i
theorem brk_nil {c : Ks} (ok : KsOk c) : brkL c = [] ↔ Bal c := by
  unfold brkL
  rw [List.filter_eq_nil_iff]
  constructor
  · intro h
    refine ⟨ok.val, fun i hi hs => ?_⟩
    have := h i (by simpa using hi)
    simp only [Bool.not_eq_true', Bool.not_eq_false, holdB, decide_eq_true_eq] at this
    rcases this with h9 | h9
    · exact absurd h9 hs
    · exact h9
  · intro h i hi
    have hi2 : i < c.n := by simpa using hi
    simp only [Bool.not_eq_true', Bool.not_eq_false, holdB, decide_eq_true_eq]
    by_cases hs : sonsL c i = []
    · exact Or.inl hs
    · exact Or.inr (h.bal i hi2 hs)
end Go.Proofs.Ytcecbohaajocfaa
