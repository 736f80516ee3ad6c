/- meter: trees of values, the sets that explain, the least ones: plain facts. -/
import Derived.Test.YtcecbohaajocfaaData

set_option linter.unusedSimpArgs false
set_option linter.unusedVariables false
namespace Go.Proofs.Ytcecbohaajocfaa
/-- A node of a case: what it hangs on, and the bounds of what is lost behind it. -/
structure Nd where
  up : Int
  lo : Int
  hi : Int
structure Ks where
  nodes : List Nd
  vals : List Int
def Ks.n (c : Ks) : Nat := c.nodes.length
def Ks.nd (c : Ks) (i : Nat) : Nd := c.nodes.getD i ⟨-1, 0, 0⟩
def Ks.v (c : Ks) (i : Nat) : Int := c.vals.getD i 0
structure KsOk (c : Ks) : Prop where
  n1 : 1 ≤ c.n
  n14 : c.n ≤ 14
  len : c.vals.length = c.n
  root : (c.nd 0).up = -1
  up : ∀ i, 0 < i → i < c.n → 0 ≤ (c.nd i).up ∧ (c.nd i).up < (i : Int)
  lh : ∀ i, i < c.n → 0 ≤ (c.nd i).lo ∧ (c.nd i).lo ≤ (c.nd i).hi ∧ (c.nd i).hi ≤ 1000000000
  val : ∀ i, i < c.n → 0 ≤ c.v i ∧ c.v i ≤ 1000000000
def sonsL (c : Ks) (i : Nat) : List Nat := (List.range c.n).filter fun k => decide ((c.nd k).up = (i : Int))
theorem mem_sons {c : Ks} {i k : Nat} : k ∈ sonsL c i ↔ k < c.n ∧ (c.nd k).up = (i : Int) := by simp [sonsL]
theorem sons_gt {c : Ks} (ok : KsOk c) {i k : Nat} (h : k ∈ sonsL c i) : i < k ∧ k < c.n := by
  obtain ⟨h1, h2⟩ := mem_sons.1 h
  refine ⟨?_, h1⟩
  by_cases h0 : k = 0
  · subst h0
    rw [ok.root] at h2
    omega
  · have := ok.up k (by omega) h1
    omega
abbrev Sp := Int × Int
/-- The values a node can have, by fuel. -/
def nar (c : Ks) (s : Nat → Sp) : Nat → Nat → Sp
  | 0, i => s i
  | f + 1, i => if sonsL c i = [] then s i else (max (s i).1 ((c.nd i).lo + ((sonsL c i).map fun k => (nar c s f k).1).sum), min (s i).2 ((c.nd i).hi + ((sonsL c i).map fun k => (nar c s f k).2).sum))
theorem nar_fuel {c : Ks} (ok : KsOk c) (s : Nat → Sp) : ∀ (f g i : Nat), c.n - i ≤ f → c.n - i ≤ g → nar c s f i = nar c s g i := by
  intro f
  induction f with
  | zero =>
    intro g i hf hg
    cases g with
    | zero => rfl
    | succ g =>
      have : sonsL c i = [] := by
        apply List.eq_nil_iff_forall_not_mem.2
        intro k hk
        have := sons_gt ok hk
        omega
      simp [nar, this]
  | succ f ih =>
    intro g i hf hg
    cases g with
    | zero =>
      have : sonsL c i = [] := by
        apply List.eq_nil_iff_forall_not_mem.2
        intro k hk
        have := sons_gt ok hk
        omega
      simp [nar, this]
    | succ g =>
      have e : ∀ k ∈ sonsL c i, nar c s f k = nar c s g k := fun k hk => by
        have := sons_gt ok hk
        exact ih g k (by omega) (by omega)
      simp only [nar]
      rw [List.map_congr_left (f := fun k => (nar c s f k).1) (g := fun k => (nar c s g k).1) (fun k hk => by rw [e k hk]), List.map_congr_left (f := fun k => (nar c s f k).2) (g := fun k => (nar c s g k).2) (fun k hk => by rw [e k hk])]
def narS (c : Ks) (s : Nat → Sp) (i : Nat) : Sp := nar c s (c.n - i) i
theorem narS_leaf {c : Ks} (ok : KsOk c) {s : Nat → Sp} {i : Nat} (h : sonsL c i = []) : narS c s i = s i := by
  unfold narS
  rw [nar_fuel ok s _ (c.n - i + 1) i (Nat.le_refl _) (by omega)]
  simp [nar, h]
theorem narS_step {c : Ks} (ok : KsOk c) {s : Nat → Sp} {i : Nat} (h : sonsL c i ≠ []) : narS c s i = (max (s i).1 ((c.nd i).lo + ((sonsL c i).map fun k => (narS c s k).1).sum), min (s i).2 ((c.nd i).hi + ((sonsL c i).map fun k => (narS c s k).2).sum)) := by
  have e : ∀ k ∈ sonsL c i, nar c s (c.n - i) k = narS c s k := fun k hk => by
    have := sons_gt ok hk
    exact nar_fuel ok s _ _ k (by omega) (Nat.le_refl _)
  unfold narS
  rw [nar_fuel ok s _ (c.n - i + 1) i (Nat.le_refl _) (by omega)]
  simp only [nar]
  rw [if_neg h, List.map_congr_left (f := fun k => (nar c s (c.n - i) k).1) (g := fun k => (narS c s k).1) (fun k hk => by rw [e k hk]), List.map_congr_left (f := fun k => (nar c s (c.n - i) k).2) (g := fun k => (narS c s k).2) (fun k hk => by rw [e k hk])]
  rfl
/-- What the nodes of a set may have at first. -/
def iniS (c : Ks) (set : List Nat) (i : Nat) : Sp := if i ∈ set then (0, 1000000000) else (c.v i, c.v i)
theorem iniS_bd {c : Ks} (ok : KsOk c) (set : List Nat) {i : Nat} (hi : i < c.n) : 0 ≤ (iniS c set i).1 ∧ (iniS c set i).1 ≤ (iniS c set i).2 ∧ (iniS c set i).2 ≤ 1000000000 := by
  unfold iniS
  split
  · simp
  · have := ok.val i hi; simp; omega
/-- Values with which all balances hold. -/
structure Sol (c : Ks) (x : Nat → Int) : Prop where
  bd : ∀ i, i < c.n → 0 ≤ x i ∧ x i ≤ 1000000000
  bal : ∀ i, i < c.n → sonsL c i ≠ [] → (c.nd i).lo ≤ x i - ((sonsL c i).map x).sum ∧ x i - ((sonsL c i).map x).sum ≤ (c.nd i).hi
theorem sum_le {l : List Nat} {f g : Nat → Int} (h : ∀ k ∈ l, f k ≤ g k) : (l.map f).sum ≤ (l.map g).sum := by
  induction l with
  | nil => simp
  | cons a l ih =>
    simp only [List.map_cons, List.sum_cons]
    have := h a (List.mem_cons_self ..)
    have := ih fun k hk => h k (List.mem_cons_of_mem _ hk)
    omega
/-- What solves lies in the spans. -/
theorem sol_in {c : Ks} (ok : KsOk c) {s : Nat → Sp} {x : Nat → Int} (hx : Sol c x) (hs : ∀ i, i < c.n → (s i).1 ≤ x i ∧ x i ≤ (s i).2) : ∀ i, i < c.n → (narS c s i).1 ≤ x i ∧ x i ≤ (narS c s i).2 := by
  suffices H : ∀ d i, c.n - i ≤ d → i < c.n → (narS c s i).1 ≤ x i ∧ x i ≤ (narS c s i).2 from fun i hi => H _ i (Nat.le_refl _) hi
  intro d
  induction d with
  | zero => intro i h hi; omega
  | succ d ih =>
    intro i h hi
    by_cases hl : sonsL c i = []
    · rw [narS_leaf ok hl]; exact hs i hi
    · rw [narS_step ok hl]
      have h1 := sum_le (l := sonsL c i) (f := fun k => (narS c s k).1) (g := x) fun k hk => (ih k (by have := sons_gt ok hk; omega) (sons_gt ok hk).2).1
      have h2 := sum_le (l := sonsL c i) (f := x) (g := fun k => (narS c s k).2) fun k hk => (ih k (by have := sons_gt ok hk; omega) (sons_gt ok hk).2).2
      have h3 := hs i hi
      have h4 := hx.bal i hi hl
      simp only []
      omega
def canB (c : Ks) (set : List Nat) : Bool := (List.range c.n).all fun i => decide ((narS c (iniS c set) i).1 ≤ (narS c (iniS c set) i).2)
theorem canB_iff {c : Ks} {set : List Nat} : canB c set = true ↔ ∀ i, i < c.n → (narS c (iniS c set) i).1 ≤ (narS c (iniS c set) i).2 := by simp [canB]
/-- Values of a set: all but its nodes' as in the case. -/
def Fits (c : Ks) (set : List Nat) (x : Nat → Int) : Prop := ∀ i, i < c.n → i ∉ set → x i = c.v i
theorem fits_in {c : Ks} {set : List Nat} {x : Nat → Int} (hx : Sol c x) (hf : Fits c set x) : ∀ i, i < c.n → (iniS c set i).1 ≤ x i ∧ x i ≤ (iniS c set i).2 := by
  intro i hi
  unfold iniS
  split
  · exact hx.bd i hi
  · rw [hf i hi (by assumption)]; simp
theorem can_of_sol {c : Ks} (ok : KsOk c) {set : List Nat} {x : Nat → Int} (hx : Sol c x) (hf : Fits c set x) : canB c set = true := by
  rw [canB_iff]
  intro i hi
  have := sol_in ok hx (fits_in hx hf) i hi
  omega
/-- The repaired values: each son brings what those after it can't. -/
structure Rep (c : Ks) (S : Nat → Sp) (r : Nat → Int) : Prop where
  root : r 0 = (S 0).1
  son : ∀ (p : Nat) (a b : List Nat) (k : Nat), p < c.n → sonsL c p = a ++ k :: b → r k = max (S k).1 (r p - (c.nd p).hi - (a.map r).sum - (b.map fun j => (S j).2).sum)
theorem rep_sum {S : Nat → Sp} {r : Nat → Int} {m : Int} : ∀ (l : List Nat) (pre : Int), (∀ k ∈ l, (S k).1 ≤ (S k).2) → (∀ (a b : List Nat) (k : Nat), l = a ++ k :: b → r k = max (S k).1 (m - pre - (a.map r).sum - (b.map fun j => (S j).2).sum)) → m - pre ≤ (l.map fun j => (S j).2).sum →
    (∀ k ∈ l, (S k).1 ≤ r k ∧ r k ≤ (S k).2) ∧ m - pre ≤ (l.map r).sum ∧ ((l.map r).sum = (l.map fun j => (S j).1).sum ∨ (l.map r).sum = m - pre) := by
  intro l
  induction l with
  | nil => intro pre _ _ h; simp at h ⊢; exact h
  | cons k l ih =>
    intro pre hs hr hm
    have h1 := hr [] l k rfl
    have h2 := hs k (List.mem_cons_self ..)
    simp only [List.map_nil, List.sum_nil, List.map_cons, List.sum_cons] at h1 hm ⊢
    obtain ⟨i1, i2, i3⟩ := ih (pre + r k) (fun j hj => hs j (List.mem_cons_of_mem _ hj)) (fun a b j e => by
      have h9 := hr (k :: a) b j (by rw [e]; rfl)
      rw [h9]
      simp only [List.map_cons, List.sum_cons]
      congr 1
      omega) (by omega)
    refine ⟨fun j hj => ?_, by omega, ?_⟩
    · rcases List.mem_cons.1 hj with rfl | hj
      · omega
      · exact i1 j hj
    · by_cases hc : (S k).1 = r k
      · omega
      · have h3 : r k = m - pre - 0 - (l.map fun j => (S j).2).sum := by omega
        have h4 := sum_le (l := l) (f := r) (g := fun j => (S j).2) fun j hj => (i1 j hj).2
        right
        omega
theorem rep_in {c : Ks} (ok : KsOk c) {s : Nat → Sp} {r : Nat → Int} (hS : ∀ i, i < c.n → (narS c s i).1 ≤ (narS c s i).2) (hr : Rep c (narS c s) r) : ∀ i, i < c.n → ((narS c s i).1 ≤ r i ∧ r i ≤ (narS c s i).2) := by
  intro i
  induction i using Nat.strongRecOn with
  | ind i ih =>
    intro hi
    by_cases h0 : i = 0
    · subst h0
      rw [hr.root]
      exact ⟨Int.le_refl _, hS 0 hi⟩
    · obtain ⟨u1, u2⟩ := ok.up i (by omega) hi
      obtain ⟨p, hp⟩ : ∃ p : Nat, (c.nd i).up = (p : Int) := ⟨((c.nd i).up).toNat, by omega⟩
      have hm : i ∈ sonsL c p := mem_sons.2 ⟨hi, hp⟩
      have hne : sonsL c p ≠ [] := fun e => by rw [e] at hm; cases hm
      have hpn : p < c.n := by omega
      obtain ⟨h1, h2⟩ := ih p (by omega) hpn
      have hst := narS_step ok (s := s) hne
      obtain ⟨i1, i2, i3⟩ := rep_sum (S := narS c s) (r := r) (m := r p - (c.nd p).hi) (sonsL c p) 0 (fun k hk => hS k (sons_gt ok hk).2) (fun a b k e => by rw [hr.son p a b k hpn e]; congr 1; omega) (by
        rw [hst] at h2
        simp only [] at h2
        omega)
      exact i1 i hm
theorem rep_sol {c : Ks} (ok : KsOk c) {s : Nat → Sp} {r : Nat → Int} (hs : ∀ i, i < c.n → 0 ≤ (s i).1 ∧ (s i).2 ≤ 1000000000) (hS : ∀ i, i < c.n → (narS c s i).1 ≤ (narS c s i).2) (hr : Rep c (narS c s) r) : Sol c r ∧ ∀ i, i < c.n → (s i).1 ≤ r i ∧ r i ≤ (s i).2 := by
  have hin := rep_in ok hS hr
  have hsi : ∀ i, i < c.n → (s i).1 ≤ r i ∧ r i ≤ (s i).2 := fun i hi => by
    have h1 := hin i hi
    by_cases hl : sonsL c i = []
    · rw [narS_leaf ok hl] at h1; exact h1
    · rw [narS_step ok hl] at h1
      simp only [] at h1
      omega
  refine ⟨⟨fun i hi => by have := hs i hi; have := hsi i hi; omega, fun p hp hne => ?_⟩, hsi⟩
  obtain ⟨h1, h2⟩ := hin p hp
  have hst := narS_step ok (s := s) hne
  rw [hst] at h1 h2
  simp only [] at h1 h2
  obtain ⟨i1, i2, i3⟩ := rep_sum (S := narS c s) (r := r) (m := r p - (c.nd p).hi) (sonsL c p) 0 (fun k hk => hS k (sons_gt ok hk).2) (fun a b k e => by rw [hr.son p a b k hp e]; congr 1; omega) (by omega)
  have := ok.lh p hp
  omega
/-- The least values: with one less, and those before it as they are, nothing solves. -/
theorem rep_least {c : Ks} (ok : KsOk c) {set : List Nat} {r : Nat → Int} (hr : Rep c (narS c (iniS c set)) r) {x : Nat → Int} (hx : Sol c x) (hf : Fits c set x) {i : Nat} (hi : i < c.n) (hb : ∀ j, j < i → x j = r j) : r i ≤ x i := by
  have hin := sol_in ok hx (fits_in hx hf)
  by_cases h0 : i = 0
  · subst h0
    rw [hr.root]
    exact (hin 0 hi).1
  · obtain ⟨u1, u2⟩ := ok.up i (by omega) hi
    obtain ⟨p, hp⟩ : ∃ p : Nat, (c.nd i).up = (p : Int) := ⟨((c.nd i).up).toNat, by omega⟩
    have hm : i ∈ sonsL c p := mem_sons.2 ⟨hi, hp⟩
    have hne : sonsL c p ≠ [] := fun e => by rw [e] at hm; cases hm
    have hpn : p < c.n := by omega
    obtain ⟨a, b, e⟩ := List.append_of_mem hm
    rw [hr.son p a b i hpn e]
    have hlt : ∀ j ∈ a, j < i := by
      have hs : (sonsL c p).Pairwise (· < ·) := List.Pairwise.filter _ (by
        rw [List.range_eq_range']
        exact List.pairwise_lt_range')
      rw [e, List.pairwise_append] at hs
      intro j hj
      exact hs.2.2 j hj i (List.mem_cons_self ..)
    have h1 := hx.bal p hpn hne
    rw [e] at h1
    simp only [List.map_append, List.map_cons, List.sum_append, List.sum_cons] at h1
    have h2 : (a.map x).sum = (a.map r).sum := by rw [List.map_congr_left fun j hj => hb j (hlt j hj)]
    have h3 := sum_le (l := b) (f := x) (g := fun j => (narS c (iniS c set) j).2) fun j hj => by
      have hj2 : j ∈ sonsL c p := by rw [e]; simp [hj]
      exact (hin j (sons_gt ok hj2).2).2
    have h4 := hb p (by omega)
    have h5 := (hin i hi).1
    omega
/-- A greater set explains what a lesser one does. -/
theorem can_sol {c : Ks} (ok : KsOk c) {set : List Nat} (h : canB c set = true) {r : Nat → Int} (hr : Rep c (narS c (iniS c set)) r) : Sol c r ∧ Fits c set r := by
  rw [canB_iff] at h
  obtain ⟨h1, h2⟩ := rep_sol ok (s := iniS c set) (fun i hi => by have := iniS_bd ok set hi; omega) h hr
  refine ⟨h1, fun i hi hn => ?_⟩
  have := h2 i hi
  unfold iniS at this
  rw [if_neg hn] at this
  simp only [] at this
  omega
theorem nar_mono {c : Ks} (ok : KsOk c) {s s' : Nat → Sp} (h : ∀ i, i < c.n → (s' i).1 ≤ (s i).1 ∧ (s i).2 ≤ (s' i).2) : ∀ i, i < c.n → (narS c s' i).1 ≤ (narS c s i).1 ∧ (narS c s i).2 ≤ (narS c s' i).2 := by
  suffices H : ∀ d i, c.n - i ≤ d → i < c.n → (narS c s' i).1 ≤ (narS c s i).1 ∧ (narS c s i).2 ≤ (narS c s' i).2 from fun i hi => H _ i (Nat.le_refl _) hi
  intro d
  induction d with
  | zero => intro i h hi; omega
  | succ d ih =>
    intro i hd hi
    by_cases hl : sonsL c i = []
    · rw [narS_leaf ok hl, narS_leaf ok hl]; exact h i hi
    · rw [narS_step ok hl, narS_step ok hl]
      have h1 := sum_le (l := sonsL c i) (f := fun k => (narS c s' k).1) (g := fun k => (narS c s k).1) fun k hk => (ih k (by have := sons_gt ok hk; omega) (sons_gt ok hk).2).1
      have h2 := sum_le (l := sonsL c i) (f := fun k => (narS c s k).2) (g := fun k => (narS c s' k).2) fun k hk => (ih k (by have := sons_gt ok hk; omega) (sons_gt ok hk).2).2
      have h3 := h i hi
      simp only []
      omega
/-- A set that has more than one that explains explains, too. -/
theorem can_mono {c : Ks} (ok : KsOk c) {a b : List Nat} (h : ∀ i ∈ a, i ∈ b) (ha : canB c a = true) : canB c b = true := by
  rw [canB_iff] at ha ⊢
  intro i hi
  have h1 := nar_mono ok (s := iniS c a) (s' := iniS c b) (fun j hj => by
    unfold iniS
    have := ok.val j hj
    by_cases h1 : j ∈ a
    · rw [if_pos h1, if_pos (h j h1)]; simp
    · rw [if_neg h1]
      split
      · simp; omega
      · simp) i hi
  have := ha i hi
  omega
/-- There are repaired values. -/
def repV (c : Ks) (S : Nat → Sp) (L : List Int) (i : Nat) : Int :=
  if i = 0 then (S 0).1 else
    let p := ((c.nd i).up).toNat
    max (S i).1 (L.getD p 0 - (c.nd p).hi - (((sonsL c p).filter fun j => decide (j < i)).map fun j => L.getD j 0).sum - (((sonsL c p).filter fun j => decide (i < j)).map fun j => (S j).2).sum)
def repB (c : Ks) (S : Nat → Sp) : Nat → List Int
  | 0 => []
  | i + 1 => repB c S i ++ [repV c S (repB c S i) i]
theorem repB_len (c : Ks) (S : Nat → Sp) (i : Nat) : (repB c S i).length = i := by
  induction i with
  | zero => rfl
  | succ i ih => simp [repB, ih]
theorem repB_get (c : Ks) (S : Nat → Sp) {j i : Nat} (h : j < i) : ∀ d, (repB c S (i + d)).getD j 0 = (repB c S i).getD j 0 := by
  intro d
  induction d with
  | zero => rfl
  | succ d ih =>
    rw [← ih]
    show (repB c S (i + d) ++ [_]).getD j 0 = _
    rw [List.getD_eq_getElem?_getD, List.getD_eq_getElem?_getD, List.getElem?_append_left (by rw [repB_len]; omega)]
def repR (c : Ks) (S : Nat → Sp) (i : Nat) : Int := (repB c S c.n).getD i 0
theorem sons_sorted (c : Ks) (p : Nat) : (sonsL c p).Pairwise (· < ·) := List.Pairwise.filter _ (by
  rw [List.range_eq_range']
  exact List.pairwise_lt_range')
theorem split_sorted {a b : List Nat} {k : Nat} (h : (a ++ k :: b).Pairwise (· < ·)) : (a ++ k :: b).filter (fun j => decide (j < k)) = a ∧ (a ++ k :: b).filter (fun j => decide (k < j)) = b := by
  rw [List.pairwise_append] at h
  obtain ⟨h1, h2, h3⟩ := h
  rw [List.pairwise_cons] at h2
  constructor
  · rw [List.filter_append, List.filter_cons, if_neg (by simp), List.filter_eq_self.2 (fun j hj => by simpa using h3 j hj k (List.mem_cons_self ..)), List.filter_eq_nil_iff.2 (fun j hj => by have := h2.1 j hj; simp; omega), List.append_nil]
  · rw [List.filter_append, List.filter_cons, if_neg (by simp), List.filter_eq_nil_iff.2 (fun j hj => by have := h3 j hj k (List.mem_cons_self ..); simp; omega), List.filter_eq_self.2 (fun j hj => by simpa using h2.1 j hj), List.nil_append]
theorem rep_ex {c : Ks} (ok : KsOk c) (S : Nat → Sp) : Rep c S (repR c S) := by
  have key : ∀ i, i < c.n → repR c S i = repV c S (repB c S i) i := fun i hi => by
    obtain ⟨d, hd⟩ : ∃ d, c.n = (i + 1) + d := ⟨c.n - (i + 1), by omega⟩
    unfold repR
    rw [hd, repB_get c S (by omega) d]
    show (repB c S i ++ [_]).getD i 0 = _
    rw [List.getD_eq_getElem?_getD, List.getElem?_append_right (by rw [repB_len]; omega), repB_len, Nat.sub_self]
    rfl
  have low : ∀ i j, j < i → i < c.n → (repB c S i).getD j 0 = repR c S j := fun i j hj hi => by
    obtain ⟨d, hd⟩ : ∃ d, c.n = i + d := ⟨c.n - i, by omega⟩
    unfold repR
    rw [hd, repB_get c S hj d]
  refine ⟨?_, ?_⟩
  · rw [key 0 (by have := ok.n1; omega)]; rfl
  · intro p a b k hp e
    have hm : k ∈ sonsL c p := by rw [e]; simp
    obtain ⟨g1, g2⟩ := sons_gt ok hm
    have hup := (mem_sons.1 hm).2
    have hs := sons_sorted c p
    rw [key k g2]
    unfold repV
    rw [if_neg (by omega)]
    have ht : ((c.nd k).up).toNat = p := by omega
    simp only [ht]
    rw [low k p g1 g2, e]
    rw [e] at hs
    obtain ⟨s1, s2⟩ := split_sorted hs
    rw [s1, s2]
    have h2 : (a.map fun j => (repB c S k).getD j 0) = a.map (repR c S) := List.map_congr_left fun j hj => low k j (by
      rw [List.pairwise_append] at hs
      exact hs.2.2 j hj k (List.mem_cons_self ..)) g2
    rw [h2]
theorem can_iff {c : Ks} (ok : KsOk c) {set : List Nat} : canB c set = true ↔ ∃ x, Sol c x ∧ Fits c set x :=
  ⟨fun h => ⟨_, can_sol ok h (rep_ex ok _)⟩, fun ⟨_, h1, h2⟩ => can_of_sol ok h1 h2⟩
/-- Sets of k of n nodes, in order. -/
structure Vc (n : Nat) (c : List Nat) : Prop where
  len : c.length ≤ n
  mono : ∀ i j, i < j → j < c.length → c.getD i 0 < c.getD j 0
  lt : ∀ i, i < c.length → c.getD i 0 < n
theorem Vc.le {n : Nat} {c : List Nat} (h : Vc n c) : ∀ i, i < c.length → c.getD i 0 + c.length ≤ n + i := by
  intro i hi
  suffices H : ∀ d i, i + d + 1 = c.length → c.getD i 0 + c.length ≤ n + i from H (c.length - 1 - i) i (by omega)
  intro d
  induction d with
  | zero => intro i hi; have := h.lt i (by omega); omega
  | succ d ih =>
    intro i hi
    have h1 := ih (i + 1) (by omega)
    have h2 := h.mono i (i + 1) (by omega) (by omega)
    omega
def firstC (k : Nat) : List Nat := List.range k
theorem firstC_ok {n k : Nat} (h : k ≤ n) : Vc n (firstC k) := by
  refine ⟨by simpa [firstC] using h, fun i j hij hj => ?_, fun i hi => ?_⟩
  · simp only [firstC, List.length_range] at hj
    simp [firstC, List.getD_eq_getElem?_getD, List.getElem?_range, hj, show i < k by omega, hij]
  · simp only [firstC, List.length_range] at hi
    simp [firstC, List.getD_eq_getElem?_getD, List.getElem?_range, hi]
    omega
def nxtC (c : List Nat) (last : Nat) : List Nat := c.take last ++ (List.range (c.length - last)).map fun j => c.getD last 0 + 1 + j
/-- The last node that can be a later one. -/
def LastC (n : Nat) (c : List Nat) (last : Nat) : Prop := last < c.length ∧ (∀ i, last < i → i < c.length → c.getD i 0 + c.length = n + i) ∧ c.getD last 0 + c.length ≠ n + last
def EndC (n : Nat) (c : List Nat) : Prop := ∀ i, i < c.length → c.getD i 0 + c.length = n + i
theorem nxtC_len {c : List Nat} {last : Nat} (h : last < c.length) : (nxtC c last).length = c.length := by simp [nxtC]; omega
theorem nxtC_get {c : List Nat} {last : Nat} (h : last < c.length) (i : Nat) (hi : i < c.length) : (nxtC c last).getD i 0 = if i < last then c.getD i 0 else c.getD last 0 + 1 + (i - last) := by
  unfold nxtC
  rw [List.getD_eq_getElem?_getD]
  by_cases h1 : i < last
  · rw [if_pos h1, List.getElem?_append_left (by simp; omega), List.getElem?_take, if_pos h1, ← List.getD_eq_getElem?_getD]
  · rw [if_neg h1, List.getElem?_append_right (by simp; omega)]
    simp only [List.length_take]
    rw [show min last c.length = last by omega, List.getElem?_map, List.getElem?_range (by omega)]
    rfl
theorem nxtC_ok {n : Nat} {c : List Nat} {last : Nat} (h : Vc n c) (hl : LastC n c last) : Vc n (nxtC c last) := by
  obtain ⟨l1, l2, l3⟩ := hl
  have h9 := h.le last l1
  refine ⟨by rw [nxtC_len l1]; exact h.len, fun i j hij hj => ?_, fun i hi => ?_⟩
  · rw [nxtC_len l1] at hj
    rw [nxtC_get l1 i (by omega), nxtC_get l1 j hj]
    split
    · split
      · exact h.mono i j hij hj
      · have := h.mono i last (by omega) l1; omega
    · rw [if_neg (by omega)]; omega
  · rw [nxtC_len l1] at hi
    rw [nxtC_get l1 i hi]
    split
    · exact h.lt i hi
    · omega
/-- Lists in lexicographic order. -/
def LexLt (a b : List Nat) : Prop := ∃ j, j < a.length ∧ (∀ i, i < j → a.getD i 0 = b.getD i 0) ∧ a.getD j 0 < b.getD j 0
theorem LexLt.trans {a b c : List Nat} (hl : a.length = b.length) (h : LexLt a b) (k : LexLt b c) : LexLt a c := by
  obtain ⟨j, h1, h2, h3⟩ := h
  obtain ⟨m, k1, k2, k3⟩ := k
  by_cases h9 : j ≤ m
  · refine ⟨j, h1, fun i hi => (h2 i hi).trans (k2 i (by omega)), ?_⟩
    by_cases e : j = m
    · subst e; omega
    · rw [← k2 j (by omega)]; exact h3
  · exact ⟨m, by omega, fun i hi => (h2 i (by omega)).trans (k2 i hi), by rw [h2 m (by omega)]; exact k3⟩
theorem lex_next {n : Nat} {c : List Nat} {last : Nat} (hl : LastC n c last) : LexLt c (nxtC c last) := by
  obtain ⟨l1, l2, l3⟩ := hl
  refine ⟨last, l1, fun i hi => ?_, ?_⟩
  · rw [nxtC_get l1 i (by omega), if_pos hi]
  · rw [nxtC_get l1 last l1, if_neg (by omega)]; omega
theorem list_ext {a b : List Nat} (hl : a.length = b.length) (h : ∀ i, i < a.length → a.getD i 0 = b.getD i 0) : a = b := by
  apply List.ext_getElem hl
  intro i h1 h2
  have := h i h1
  rw [List.getD_eq_getElem?_getD, List.getD_eq_getElem?_getD, List.getElem?_eq_getElem h1, List.getElem?_eq_getElem h2] at this
  exact this
/-- No set lies between one and the next. -/
theorem lex_step {n : Nat} {c s : List Nat} {last : Nat} (hc : Vc n c) (hs : Vc n s) (he : s.length = c.length) (hl : LastC n c last) (h : LexLt c s) : nxtC c last = s ∨ LexLt (nxtC c last) s := by
  obtain ⟨l1, l2, l3⟩ := hl
  obtain ⟨j, h1, h2, h3⟩ := h
  have hjl : j ≤ last := by
    apply Nat.le_of_not_lt
    intro h9
    have := l2 j h9 h1
    have := hs.le j (by omega)
    omega
  by_cases e : j = last
  · subst e
    by_cases e2 : c.getD j 0 + 1 = s.getD j 0
    · -- equal there: go on by the least that may follow
      have ge : ∀ d, j + d < c.length → (nxtC c j).getD (j + d) 0 ≤ s.getD (j + d) 0 := by
        intro d
        induction d with
        | zero => intro hd; simp only [Nat.add_zero]; rw [nxtC_get h1 _ (by omega), if_neg (by omega)]; omega
        | succ d ih =>
          intro hd
          have i1 := ih (by omega)
          have i2 := hs.mono (j + d) (j + (d + 1)) (by omega) (by omega)
          rw [nxtC_get h1 _ (by omega), if_neg (by omega)] at i1 ⊢
          omega
      by_cases hall : ∀ i, i < c.length → (nxtC c j).getD i 0 = s.getD i 0
      · left
        exact list_ext (by rw [nxtC_len h1, he]) fun i hi => hall i (by rw [nxtC_len h1] at hi; exact hi)
      · right
        have hex : ∃ i, i < c.length ∧ (nxtC c j).getD i 0 ≠ s.getD i 0 := by
          apply Classical.byContradiction
          intro h9
          apply hall
          intro i hi
          apply Classical.byContradiction
          intro h8
          exact h9 ⟨i, hi, h8⟩
        -- the first such place
        have first : ∀ m, (∃ i, i < m ∧ i < c.length ∧ (nxtC c j).getD i 0 ≠ s.getD i 0) → ∃ i, i < c.length ∧ (nxtC c j).getD i 0 ≠ s.getD i 0 ∧ ∀ k, k < i → (nxtC c j).getD k 0 = s.getD k 0 := by
          intro m
          induction m with
          | zero => rintro ⟨i, h, _⟩; omega
          | succ m ih =>
            rintro ⟨i, hi, hc9, hne⟩
            by_cases hb : ∃ i, i < m ∧ i < c.length ∧ (nxtC c j).getD i 0 ≠ s.getD i 0
            · exact ih hb
            · refine ⟨i, hc9, hne, fun k hk => ?_⟩
              apply Classical.byContradiction
              intro h8
              exact hb ⟨k, by omega, by omega, h8⟩
        obtain ⟨i, hi, hne, hb⟩ := first c.length (by obtain ⟨i, hi, h9⟩ := hex; exact ⟨i, hi, hi, h9⟩)
        refine ⟨i, by rw [nxtC_len h1]; exact hi, hb, ?_⟩
        by_cases hij : i < j
        · exfalso
          apply hne
          rw [nxtC_get h1 i hi, if_pos hij]
          exact h2 i hij
        · have := ge (i - j) (by omega)
          rw [show j + (i - j) = i by omega] at this
          omega
    · right
      refine ⟨j, by rw [nxtC_len h1]; exact h1, fun i hi => ?_, ?_⟩
      · rw [nxtC_get h1 i (by omega), if_pos hi]; exact h2 i hi
      · rw [nxtC_get h1 j h1, if_neg (by omega)]; omega
  · right
    refine ⟨j, by rw [nxtC_len l1]; exact h1, fun i hi => ?_, ?_⟩
    · rw [nxtC_get l1 i (by omega), if_pos (by omega)]; exact h2 i hi
    · rw [nxtC_get l1 j h1, if_pos (by omega)]; exact h3
theorem lex_end {n : Nat} {c s : List Nat} (hs : Vc n s) (he : s.length = c.length) (hE : EndC n c) : ¬ LexLt c s := by
  rintro ⟨j, h1, _, h3⟩
  have := hE j h1
  have := hs.le j (by omega)
  omega
theorem lex_first {n k : Nat} {s : List Nat} (hs : Vc n s) (he : s.length = k) : firstC k = s ∨ LexLt (firstC k) s := by
  have hge : ∀ i, i < k → i ≤ s.getD i 0 := by
    intro i
    induction i with
    | zero => intro _; omega
    | succ i ih => intro hi; have := ih (by omega); have := hs.mono i (i + 1) (by omega) (by omega); omega
  have hf : ∀ i, i < k → (firstC k).getD i 0 = i := fun i hi => by simp [firstC, List.getD_eq_getElem?_getD, List.getElem?_range, hi]
  by_cases hall : ∀ i, i < k → s.getD i 0 = i
  · left
    exact list_ext (by simp [firstC, he]) fun i hi => by
      simp only [firstC, List.length_range] at hi
      rw [hf i hi, hall i hi]
  · right
    have first : ∀ m, (∃ i, i < m ∧ i < k ∧ s.getD i 0 ≠ i) → ∃ i, i < k ∧ s.getD i 0 ≠ i ∧ ∀ j, j < i → s.getD j 0 = j := by
      intro m
      induction m with
      | zero => rintro ⟨i, h, _⟩; omega
      | succ m ih =>
        rintro ⟨i, hi, hc9, hne⟩
        by_cases hb : ∃ i, i < m ∧ i < k ∧ s.getD i 0 ≠ i
        · exact ih hb
        · refine ⟨i, hc9, hne, fun j hj => ?_⟩
          apply Classical.byContradiction
          intro h8
          exact hb ⟨j, by omega, by omega, h8⟩
    obtain ⟨i, hi, hne, hb⟩ := first k (by
      apply Classical.byContradiction
      intro h9
      apply hall
      intro i hi
      apply Classical.byContradiction
      intro h8
      exact h9 ⟨i, hi, hi, h8⟩)
    refine ⟨i, by simpa [firstC] using hi, fun j hj => ?_, ?_⟩
    · rw [hf j (by omega), hb j hj]
    · rw [hf i hi]; have := hge i hi; omega
/-- The sets of k of n nodes that have been met so far, and all of them. -/
inductive UpC (n k : Nat) : List (List Nat) → Prop
  | first : UpC n k [firstC k]
  | next {xs : List (List Nat)} {c : List Nat} {last : Nat} : UpC n k (xs ++ [c]) → LastC n c last → UpC n k (xs ++ [c] ++ [nxtC c last])
def AllC (n k : Nat) (xs : List (List Nat)) : Prop := ∃ ys c, xs = ys ++ [c] ∧ UpC n k xs ∧ EndC n c
theorem snoc_inj {α : Type} {a b : List α} {x y : α} (h : a ++ [x] = b ++ [y]) : a = b ∧ x = y := by
  have h1 := List.append_inj_left' h rfl
  have h2 := List.append_inj_right' h rfl
  exact ⟨h1, by simpa using h2⟩
structure UpIs (n k : Nat) (xs : List (List Nat)) : Prop where
  ok : ∀ c ∈ xs, Vc n c ∧ c.length = k
  sorted : xs.Pairwise LexLt
  all : ∀ s, Vc n s → s.length = k → s ∈ xs ∨ ∀ c ∈ xs, LexLt c s
theorem up_is {n k : Nat} (hk : k ≤ n) {xs : List (List Nat)} (h : UpC n k xs) : UpIs n k xs := by
  induction h with
  | first =>
    refine ⟨fun c hc => ?_, List.pairwise_singleton _ _, fun s hs he => ?_⟩
    · obtain rfl := List.mem_singleton.1 hc
      exact ⟨firstC_ok hk, by simp [firstC]⟩
    · rcases lex_first hs he with h9 | h9
      · left; rw [h9]; simp
      · right; intro c hc; obtain rfl := List.mem_singleton.1 hc; exact h9
  | @next ys c last h hl ih =>
    have hc := ih.ok c (by simp)
    have hv := nxtC_ok hc.1 hl
    have hln := nxtC_len hl.1
    refine ⟨fun d hd => ?_, ?_, fun s hs he => ?_⟩
    · rcases List.mem_append.1 hd with hd | hd
      · exact ih.ok d hd
      · obtain rfl := List.mem_singleton.1 hd
        exact ⟨hv, by rw [hln, hc.2]⟩
    · rw [List.pairwise_append]
      refine ⟨ih.sorted, List.pairwise_singleton _ _, fun d hd e he => ?_⟩
      obtain rfl := List.mem_singleton.1 he
      have h1 := lex_next hl
      rcases List.mem_append.1 hd with hd | hd
      · have h2 := ih.sorted
        rw [List.pairwise_append] at h2
        exact (h2.2.2 d hd c (by simp)).trans (by rw [(ih.ok d (by simp [hd])).2, hc.2]) h1
      · obtain rfl := List.mem_singleton.1 hd
        exact h1
    · rcases ih.all s hs he with h9 | h9
      · left; exact List.mem_append_left _ h9
      · rcases lex_step hc.1 hs (by rw [he, hc.2]) hl (h9 c (by simp)) with h8 | h8
        · left; rw [← h8]; simp
        · right
          intro d hd
          rcases List.mem_append.1 hd with hd | hd
          · exact h9 d hd
          · obtain rfl := List.mem_singleton.1 hd; exact h8
theorem all_is {n k : Nat} (hk : k ≤ n) {xs : List (List Nat)} (h : AllC n k xs) : UpIs n k xs ∧ ∀ s, Vc n s → s.length = k → s ∈ xs := by
  obtain ⟨ys, c, rfl, hu, hE⟩ := h
  have hi := up_is hk hu
  refine ⟨hi, fun s hs he => ?_⟩
  rcases hi.all s hs he with h9 | h9
  · exact h9
  · exact absurd (h9 c (by simp)) (lex_end hs (by rw [he, (hi.ok c (by simp)).2]) hE)
/-- A number that grows. -/
def numF (a : Nat) (c : List Nat) : Nat := c.foldl (fun a x => a * 15 + x) a
theorem numF_lt : ∀ (a b : List Nat) (x y : Nat), a.length = b.length → (∀ d ∈ a, d < 15) → x < y → numF x a < numF y b := by
  intro a
  induction a with
  | nil => intro b x y hl _ h; cases b with
    | nil => exact h
    | cons => cases hl
  | cons d a ih =>
    intro b x y hl hd h
    cases b with
    | nil => cases hl
    | cons e b =>
      have := hd d (List.mem_cons_self ..)
      exact ih b (x * 15 + d) (y * 15 + e) (by simpa using hl) (fun z hz => hd z (List.mem_cons_of_mem _ hz)) (by omega)
theorem numF_lex : ∀ (a b : List Nat) (x : Nat), a.length = b.length → (∀ d ∈ a, d < 15) → LexLt a b → numF x a < numF x b := by
  intro a
  induction a with
  | nil => rintro b x _ _ ⟨j, h, _⟩; simp at h
  | cons d a ih =>
    intro b x hl hd h
    cases b with
    | nil => cases hl
    | cons e b =>
      obtain ⟨j, h1, h2, h3⟩ := h
      have hl2 : a.length = b.length := by simpa using hl
      have hd2 : ∀ z ∈ a, z < 15 := fun z hz => hd z (List.mem_cons_of_mem _ hz)
      cases j with
      | zero =>
        have h4 : d < e := by simpa using h3
        exact numF_lt a b (x * 15 + d) (x * 15 + e) hl2 hd2 (by omega)
      | succ j =>
        have h4 : d = e := by simpa using h2 0 (by omega)
        subst h4
        exact ih b (x * 15 + d) hl2 hd2 ⟨j, by simpa using h1, fun i hi => by simpa using h2 (i + 1) (by omega), by simpa using h3⟩
theorem numF_le : ∀ (a : List Nat) (x : Nat), (∀ d ∈ a, d < 15) → numF x a < (x + 1) * 15 ^ a.length := by
  intro a
  induction a with
  | nil => intro x _; simp [numF]
  | cons d a ih =>
    intro x hd
    have h1 := hd d (List.mem_cons_self ..)
    have h2 := ih (x * 15 + d) (fun z hz => hd z (List.mem_cons_of_mem _ hz))
    have h3 : (x * 15 + d + 1) * 15 ^ a.length ≤ (x + 1) * 15 * 15 ^ a.length := Nat.mul_le_mul_right _ (by omega)
    show numF (x * 15 + d) a < (x + 1) * 15 ^ (a.length + 1)
    rw [Nat.pow_succ, Nat.mul_comm (15 ^ a.length) 15, ← Nat.mul_assoc]
    omega
/-- How many sets may still come. -/
def restC (c : List Nat) : Nat := 15 ^ c.length - numF 0 c
theorem vc_digits {n : Nat} (hn : n ≤ 14) {c : List Nat} (h : Vc n c) : ∀ d ∈ c, d < 15 := by
  intro d hd
  obtain ⟨i, hi, e⟩ := List.getElem_of_mem hd
  have := h.lt i hi
  rw [List.getD_eq_getElem?_getD, List.getElem?_eq_getElem hi, e] at this
  simp at this
  omega
theorem rest_next {n : Nat} (hn : n ≤ 14) {c : List Nat} (h : Vc n c) {last : Nat} (hl : LastC n c last) : restC (nxtC c last) < restC c := by
  have h1 := numF_lex c (nxtC c last) 0 (by rw [nxtC_len hl.1]) (vc_digits hn h) (lex_next hl)
  have h2 := numF_le (nxtC c last) 0 (vc_digits hn (nxtC_ok h hl))
  unfold restC
  rw [nxtC_len hl.1] at h2 ⊢
  omega
/-- What the least sets are. -/
structure LeastIs (c : Ks) (LL : List (List Nat)) (k : Nat) : Prop where
  le : k ≤ c.n
  less : ∀ s, Vc c.n s → s.length < k → canB c s = false
  ok : ∀ s ∈ LL, Vc c.n s ∧ s.length = k ∧ canB c s = true
  sorted : LL.Pairwise LexLt
  all : ∀ s, Vc c.n s → s.length = k → canB c s = true → s ∈ LL
  some_ : LL ≠ []
theorem least_is {c : Ks} {k : Nat} (hk : k ≤ c.n) {xs : List (List Nat)} (hx : AllC c.n k xs) (hl : ∀ s, Vc c.n s → s.length < k → canB c s = false) (hne : xs.filter (canB c) ≠ []) : LeastIs c (xs.filter (canB c)) k := by
  obtain ⟨h1, h2⟩ := all_is hk hx
  refine ⟨hk, hl, fun s hs => ?_, h1.sorted.filter _, fun s hs he hc => List.mem_filter.2 ⟨h2 s hs he, hc⟩, hne⟩
  obtain ⟨h3, h4⟩ := List.mem_filter.1 hs
  exact ⟨(h1.ok s h3).1, (h1.ok s h3).2, h4⟩
theorem least_none {c : Ks} {k : Nat} (hk : k ≤ c.n) {xs : List (List Nat)} (hx : AllC c.n k xs) (hl : ∀ s, Vc c.n s → s.length < k → canB c s = false) (hne : xs.filter (canB c) = []) : ∀ s, Vc c.n s → s.length < k + 1 → canB c s = false := by
  obtain ⟨h1, h2⟩ := all_is hk hx
  intro s hs he
  by_cases h9 : s.length < k
  · exact hl s hs h9
  · have h3 := h2 s hs (by omega)
    cases hc : canB c s with
    | false => rfl
    | true =>
      have : s ∈ xs.filter (canB c) := List.mem_filter.2 ⟨h3, hc⟩
      rw [hne] at this
      cases this
end Go.Proofs.Ytcecbohaajocfaa
