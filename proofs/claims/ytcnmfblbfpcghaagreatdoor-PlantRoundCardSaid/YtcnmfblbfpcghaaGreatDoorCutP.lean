/- Texts as lists of bytes: cut at a byte, split by a byte, joined again; the numbers that words spell. Nothing here names the program. -/
import Derived.Lib.SplitLaws
import Derived.Lib.Join
import Derived.Lib.ItoaLen
import Derived.Lib.AtoiBound

set_option linter.unusedSimpArgs false
set_option linter.unusedVariables false
namespace Go.Proofs.YtcnmfblbfpcghaaGreatDoor

/-- What is before the first such byte, what behind it, and whether there is one. -/
def cutC (c : UInt8) : List UInt8 → List UInt8 × List UInt8 × Bool
  | [] => ([], [], false)
  | x :: r => if x = c then ([], r, true) else (x :: (cutC c r).1, (cutC c r).2.1, (cutC c r).2.2)
/-- The words between such bytes. -/
def splitC (c : UInt8) : List UInt8 → List (List UInt8)
  | [] => [[]]
  | x :: r => if x = c then [] :: splitC c r else (x :: (splitC c r).headD []) :: (splitC c r).tail
theorem splitC_ne (c : UInt8) (s : List UInt8) : splitC c s ≠ [] := by
  cases s with
  | nil => simp [splitC]
  | cons x r => unfold splitC; split <;> simp
theorem splitC_cons (c : UInt8) (s : List UInt8) : ∃ x l, splitC c s = x :: l := by
  cases h : splitC c s with
  | nil => exact absurd h (splitC_ne c s)
  | cons x l => exact ⟨x, l, rfl⟩
theorem splitC_free (c : UInt8) : ∀ (s : List UInt8), ∀ w ∈ splitC c s, c ∉ w := by
  intro s
  induction s with
  | nil => intro w hw; simp [splitC] at hw; subst hw; simp
  | cons x r ih =>
    intro w hw
    obtain ⟨y, l, hy⟩ := splitC_cons c r
    unfold splitC at hw
    rw [hy] at hw ih
    split at hw
    · rcases List.mem_cons.1 hw with rfl | hw
      · simp
      · exact ih w hw
    · rename_i hx
      rcases List.mem_cons.1 hw with rfl | hw
      · intro hc
        rcases List.mem_cons.1 hc with hc | hc
        · exact hx hc.symm
        · exact ih y (List.mem_cons_self ..) hc
      · exact ih w (List.mem_cons_of_mem _ hw)
theorem joinTail_cons (c : UInt8) (y : List UInt8) (l : List (List UInt8)) : Lib.joinTail [c] (y :: l) = c :: Lib.join (y :: l) [c] := by
  rw [Lib.join_cons]
  simp [Lib.joinTail]
theorem join_splitC (c : UInt8) : ∀ (s : List UInt8), Lib.join (splitC c s) [c] = s := by
  intro s
  induction s with
  | nil => exact Lib.join_one _ _
  | cons x r ih =>
    obtain ⟨y, l, hy⟩ := splitC_cons c r
    unfold splitC
    rw [hy] at ih ⊢
    split
    · rename_i hx
      rw [Lib.join_cons, joinTail_cons, ih, hx]
      rfl
    · rw [List.headD_cons, List.tail_cons, Lib.join_cons, List.cons_append, ← Lib.join_cons, ih]
theorem splitC_last (c : UInt8) : ∀ (w : List UInt8), c ∉ w → splitC c w = [w] := by
  intro w
  induction w with
  | nil => intro _; rfl
  | cons x r ih =>
    intro h
    have h1 : x ≠ c := fun e => h (by rw [e]; exact List.mem_cons_self ..)
    have h2 : c ∉ r := fun e => h (List.mem_cons_of_mem _ e)
    unfold splitC
    rw [if_neg h1, ih h2]
    rfl
theorem splitC_app (c : UInt8) (r : List UInt8) : ∀ (w : List UInt8), c ∉ w → splitC c (w ++ c :: r) = w :: splitC c r := by
  intro w
  induction w with
  | nil => intro _; rw [List.nil_append, splitC, if_pos rfl]
  | cons x w ih =>
    intro h
    have h1 : x ≠ c := fun e => h (by rw [e]; exact List.mem_cons_self ..)
    have h2 : c ∉ w := fun e => h (List.mem_cons_of_mem _ e)
    rw [List.cons_append, splitC, if_neg h1, ih h2]
    rfl
theorem splitC_join (c : UInt8) : ∀ (ws : List (List UInt8)), ws ≠ [] → (∀ w ∈ ws, c ∉ w) → splitC c (Lib.join ws [c]) = ws := by
  intro ws
  induction ws with
  | nil => intro h; exact absurd rfl h
  | cons w ws ih =>
    intro _ hf
    cases ws with
    | nil => rw [Lib.join_one]; exact splitC_last c w (hf w (List.mem_cons_self ..))
    | cons y l =>
      rw [Lib.join_cons, joinTail_cons, splitC_app c _ w (hf w (List.mem_cons_self ..)), ih (by simp) fun z hz => hf z (List.mem_cons_of_mem _ hz)]
theorem cutC_app (c : UInt8) (r : List UInt8) : ∀ (w : List UInt8), c ∉ w → cutC c (w ++ c :: r) = (w, r, true) := by
  intro w
  induction w with
  | nil => intro _; rw [List.nil_append, cutC, if_pos rfl]
  | cons x w ih =>
    intro h
    have h1 : x ≠ c := fun e => h (by rw [e]; exact List.mem_cons_self ..)
    have h2 : c ∉ w := fun e => h (List.mem_cons_of_mem _ e)
    rw [List.cons_append, cutC, if_neg h1, ih h2]
theorem cutC_none (c : UInt8) : ∀ (w : List UInt8), c ∉ w → cutC c w = (w, [], false) := by
  intro w
  induction w with
  | nil => intro _; rfl
  | cons x w ih =>
    intro h
    have h1 : x ≠ c := fun e => h (by rw [e]; exact List.mem_cons_self ..)
    have h2 : c ∉ w := fun e => h (List.mem_cons_of_mem _ e)
    rw [cutC, if_neg h1, ih h2]
theorem cutC_or (c : UInt8) (s : List UInt8) : (c ∉ s ∧ cutC c s = (s, [], false)) ∨ ∃ a b, c ∉ a ∧ s = a ++ c :: b ∧ cutC c s = (a, b, true) := by
  by_cases h : c ∈ s
  · right
    obtain ⟨a, b, h1, h2⟩ := List.append_of_mem h |> fun ⟨a, b, e⟩ => (⟨a, b, e, trivial⟩ : ∃ a b, s = a ++ c :: b ∧ True)
    clear h1 h2
    induction s with
    | nil => simp at h
    | cons x s ih =>
      by_cases hx : x = c
      · exact ⟨[], s, by simp, by rw [hx]; rfl, by rw [cutC, if_pos hx]⟩
      · obtain ⟨a', b', h3, h4, h5⟩ := ih (by
          rcases List.mem_cons.1 h with e | e
          · exact absurd e.symm hx
          · exact e)
        refine ⟨x :: a', b', ?_, by rw [h4]; rfl, by rw [cutC, if_neg hx, h5]⟩
        intro hc
        rcases List.mem_cons.1 hc with e | e
        · exact hx e.symm
        · exact h3 e
  · exact .inl ⟨h, cutC_none c s h⟩
theorem cutC_some {c : UInt8} {s : List UInt8} (h : (cutC c s).2.2 = true) : s = (cutC c s).1 ++ c :: (cutC c s).2.1 ∧ c ∉ (cutC c s).1 := by
  rcases cutC_or c s with ⟨_, h1⟩ | ⟨a, b, h1, h2, h3⟩
  · rw [h1] at h; cases h
  · rw [h3]; exact ⟨h2, h1⟩
theorem pre_one (c b : UInt8) (l : List UInt8) : ([c].isPrefixOf (b :: l)) = (c == b) := by simp [List.isPrefixOf]
theorem index_miss (c : UInt8) : ∀ (s : List UInt8), c ∉ s → Lib.index s [c] = -1 := by
  intro s
  induction s with
  | nil => intro _; rfl
  | cons x s ih =>
    intro h
    have h1 : (c == x) = false := by
      rw [beq_eq_false_iff_ne]
      intro e
      exact h (by rw [e]; exact List.mem_cons_self ..)
    rw [Lib.index, pre_one, h1, ih fun e => h (List.mem_cons_of_mem _ e)]
    rfl
theorem index_hit (c : UInt8) (b : List UInt8) : ∀ (a : List UInt8), c ∉ a → Lib.index (a ++ c :: b) [c] = (a.length : Int) := by
  intro a
  induction a with
  | nil => intro _; rw [List.nil_append, Lib.index, pre_one]; simp
  | cons x s ih =>
    intro h
    have h1 : (c == x) = false := by
      rw [beq_eq_false_iff_ne]
      intro e
      exact h (by rw [e]; exact List.mem_cons_self ..)
    have h2 := ih fun e => h (List.mem_cons_of_mem _ e)
    rw [List.cons_append, Lib.index, pre_one, h1, h2]
    have h3 : ((s.length : Int) == -1) = false := by rw [beq_eq_false_iff_ne]; omega
    simp [h3]
/-- strings.Cut at one byte. -/
theorem cut_one (c : UInt8) (s : List UInt8) : Lib.cut s [c] = cutC c s := by
  unfold Lib.cut
  rcases cutC_or c s with ⟨h1, h2⟩ | ⟨a, b, h1, h2, h3⟩
  · rw [index_miss c s h1, h2, if_neg (by decide)]
  · rw [h3, h2, index_hit c b a h1, if_pos (by omega)]
    simp
/-- strings.Split by one byte. -/
theorem split_one (c : UInt8) : ∀ (n : Nat) (s : List UInt8), s.length ≤ n → Lib.splitK [c] 0 (Lib.count s [c]) s = splitC c s := by
  intro n
  induction n with
  | zero =>
    intro s hs
    have : s = [] := List.eq_nil_of_length_eq_zero (by omega)
    subst this
    rfl
  | succ n ih =>
    intro s hs
    rcases cutC_or c s with ⟨h1, h2⟩ | ⟨a, b, h1, h2, h3⟩
    · rw [Lib.count_miss (index_miss c s h1), splitC_last c s h1]
      rfl
    · have hi : Lib.index s [c] = (a.length : Int) := by rw [h2]; exact index_hit c b a h1
      have hd : s.drop (a.length + 1) = b := by rw [h2]; simp
      have hc := Lib.count_hit (sub := [c]) (by simp) hi
      rw [show [c].length = 1 from rfl, hd] at hc
      have hb : b.length ≤ n := by
        rw [h2] at hs
        simp at hs
        omega
      rw [hc, Nat.add_comm 1, Lib.splitK, hi, if_neg (by simp), show [c].length = 1 from rfl]
      simp only [Int.toNat_natCast, Nat.add_zero]
      rw [hd, ih b hb, h2, splitC_app c b a h1]
      simp

/-! Numbers -/
theorem digit_chr {d : Nat} (h : d < 10) : Lib.digitVal (UInt8.ofNat (48 + d)) = some d := by
  have : d = 0 ∨ d = 1 ∨ d = 2 ∨ d = 3 ∨ d = 4 ∨ d = 5 ∨ d = 6 ∨ d = 7 ∨ d = 8 ∨ d = 9 := by omega
  rcases this with rfl | rfl | rfl | rfl | rfl | rfl | rfl | rfl | rfl | rfl <;> decide
theorem decFrom_app : ∀ (l m : List UInt8) (acc : Nat), Lib.decFrom acc (l ++ m) = (Lib.decFrom acc l).bind fun a => Lib.decFrom a m := by
  intro l
  induction l with
  | nil => intro m acc; rfl
  | cons b l ih =>
    intro m acc
    rw [List.cons_append, Lib.decFrom, Lib.decFrom]
    cases Lib.digitVal b with
    | none => rfl
    | some d => exact ih m _
theorem decFrom_digits (u : Nat) : ∀ acc, Lib.decFrom acc (Lib.decDigits u) = some (acc * 10 ^ Lib.nDigits u + u) := by
  induction u using Nat.strongRecOn with
  | _ u ih =>
    intro acc
    by_cases h : u < 10
    · rw [Lib.decDigits, dif_pos h, Lib.nDigits_small h, Lib.decFrom, digit_chr h]
      simp [Lib.decFrom]
    · rw [Lib.decDigits, dif_neg h, Lib.nDigits_big h, decFrom_app, ih (u / 10) (by omega)]
      simp only [Option.bind_some, Lib.decFrom, digit_chr (Nat.mod_lt u (by decide : 0 < 10))]
      congr 1
      rw [Nat.pow_succ, ← Nat.mul_assoc, Nat.add_mul]
      omega
theorem digits_ne (u : Nat) : Lib.decDigits u ≠ [] := by
  intro h
  have h1 := Lib.decDigits_length u
  have h2 := Lib.nDigits_pos u
  rw [h] at h1
  simp at h1
  omega
theorem decNat_digits (u : Nat) : Lib.decNat (Lib.decDigits u) = some u := by
  unfold Lib.decNat
  rw [if_neg (by simp [digits_ne])]
  simpa using decFrom_digits u 0
theorem digit_bytes (u : Nat) : ∀ b ∈ Lib.decDigits u, 48 ≤ b.toNat ∧ b.toNat ≤ 57 := by
  intro b hb
  obtain ⟨k, hk⟩ := List.getElem?_of_mem hb
  obtain ⟨d, hd⟩ := Lib.digit_of_decFrom _ 0 _ (decFrom_digits u 0) k b hk
  have := Lib.digitVal_eq hd
  exact ⟨this.1, this.2.1⟩
theorem atoi_itoa (n : Int) : Lib.atoi (Lib.itoa n) = some n := by
  unfold Lib.itoa
  split
  · rw [Lib.atoi, if_pos (by decide), decNat_digits]
    simp
    omega
  · cases h : Lib.decDigits n.toNat with
    | nil => exact absurd h (digits_ne _)
    | cons b r =>
      have hb := digit_bytes n.toNat b (by rw [h]; exact List.mem_cons_self ..)
      have h1 : (b == 45) = false := by rw [beq_eq_false_iff_ne]; rintro rfl; revert hb; decide
      have h2 : (b == 43) = false := by rw [beq_eq_false_iff_ne]; rintro rfl; revert hb; decide
      rw [Lib.atoi, h1, h2, ← h, decNat_digits]
      simp
      omega
theorem itoa_bytes (n : Int) : ∀ b ∈ Lib.itoa n, b = 45 ∨ (48 ≤ b.toNat ∧ b.toNat ≤ 57) := by
  intro b hb
  unfold Lib.itoa at hb
  split at hb
  · rcases List.mem_cons.1 hb with h | h
    · exact .inl h
    · exact .inr (digit_bytes _ b h)
  · exact .inr (digit_bytes _ b hb)
theorem itoa_free (n : Int) (c : UInt8) (hc : c = 10 ∨ c = 32 ∨ c = 58) : c ∉ Lib.itoa n := by
  intro h
  rcases itoa_bytes n c h with rfl | ⟨h1, h2⟩
  · revert hc; decide
  · rcases hc with rfl | rfl | rfl <;> revert h1 h2 <;> decide
/-- The number of a word. -/
def numL (w : List UInt8) : Option Int :=
  if (Lib.trimPrefix w [45]).length ≤ 9 then
    match Lib.atoi w with
    | some n => if Lib.itoa n = w then some n else none
    | none => none
  else none
theorem numL_word {w : List UInt8} {n : Int} (h : numL w = some n) : w = Lib.itoa n := by
  unfold numL at h
  split at h
  · split at h
    · split at h
      · rename_i h1
        cases h
        exact h1.symm
      · cases h
    · cases h
  · cases h
theorem trim_digits (u : Nat) : Lib.trimPrefix (Lib.decDigits u) [45] = Lib.decDigits u := by
  cases h : Lib.decDigits u with
  | nil => rfl
  | cons b r =>
    have hb := digit_bytes u b (by rw [h]; exact List.mem_cons_self ..)
    have h1 : ((45 : UInt8) == b) = false := by rw [beq_eq_false_iff_ne]; rintro rfl; revert hb; decide
    simp [Lib.trimPrefix, Lib.hasPrefix, List.isPrefixOf, h1]
theorem trim_minus (l : List UInt8) : Lib.trimPrefix (45 :: l) [45] = l := by simp [Lib.trimPrefix, Lib.hasPrefix, List.isPrefixOf]
theorem nDigits_le9 {u : Nat} (h : u < 1000000000) : Lib.nDigits u ≤ 9 := by
  by_cases h0 : u < 10
  · rw [Lib.nDigits_small h0]; omega
  · have key : ∀ k, k ≤ 8 → ∀ v, v < 10 ^ (k + 1) → Lib.nDigits v ≤ k + 1 := by
      intro k
      induction k with
      | zero => intro _ v hv; rw [Lib.nDigits_small (by simpa using hv)]; omega
      | succ k ih =>
        intro hk v hv
        by_cases hv0 : v < 10
        · rw [Lib.nDigits_small hv0]; omega
        · rw [Lib.nDigits_big hv0]
          have := ih (by omega) (v / 10) (by rw [Nat.pow_succ] at hv; omega)
          omega
    exact key 8 (by omega) u (by simpa using h)
theorem numL_itoa {n : Int} (h0 : -1000000000 < n) (h1 : n < 1000000000) : numL (Lib.itoa n) = some n := by
  unfold numL
  rw [atoi_itoa]
  rw [if_pos]
  · simp
  · unfold Lib.itoa
    split
    · rw [trim_minus, Lib.decDigits_length]
      exact nDigits_le9 (by omega)
    · rw [trim_digits, Lib.decDigits_length]
      exact nDigits_le9 (by omega)
theorem numL_bound {w : List UInt8} {n : Int} (h : numL w = some n) : w.length ≤ 10 := by
  unfold numL at h
  split at h
  · rename_i h1
    unfold Lib.trimPrefix at h1
    split at h1
    · simp at h1
      omega
    · omega
  · cases h
end Go.Proofs.YtcnmfblbfpcghaaGreatDoor

/- The numbers of a list of words. Nothing here names the program. -/

set_option linter.unusedSimpArgs false
set_option linter.unusedVariables false
namespace Go.Proofs.YtcnmfblbfpcghaaGreatDoor

def numAll : List (List UInt8) → Option (List Int)
  | [] => some []
  | w :: r => match numL w with
    | some n => (numAll r).map (n :: ·)
    | none => none
theorem numAll_snoc : ∀ (l : List (List UInt8)) (w : List UInt8), numAll (l ++ [w]) = (numAll l).bind fun a => (numL w).map fun n => a ++ [n] := by
  intro l
  induction l with
  | nil => intro w; simp only [List.nil_append, numAll, Option.bind_some]; cases numL w <;> rfl
  | cons x l ih =>
    intro w
    rw [List.cons_append, numAll, numAll]
    cases numL x with
    | none => rfl
    | some n =>
      simp only []
      rw [ih w]
      cases numAll l with
      | none => rfl
      | some a =>
        simp only [Option.bind_some, Option.map_some]
        cases numL w <;> rfl
theorem numAll_none {l : List (List UInt8)} {k : Nat} {w : List UInt8} (hk : l[k]? = some w) (h : numL w = none) : numAll l = none := by
  induction l generalizing k with
  | nil => simp at hk
  | cons x l ih =>
    rw [numAll]
    cases k with
    | zero =>
      simp at hk
      subst hk
      rw [h]
    | succ k =>
      have := ih (by simpa using hk)
      rw [this]
      cases numL x <;> rfl
theorem numAll_len : ∀ {l : List (List UInt8)} {a : List Int}, numAll l = some a → a.length = l.length := by
  intro l
  induction l with
  | nil => intro a h; cases h; rfl
  | cons x l ih =>
    intro a h
    rw [numAll] at h
    cases hx : numL x with
    | none => rw [hx] at h; cases h
    | some n =>
      rw [hx] at h
      cases hl : numAll l with
      | none => simp only [hl] at h; cases h
      | some b =>
        simp only [hl, Option.map_some, Option.some.injEq] at h
        subst h
        simp [ih hl]
theorem numAll_words : ∀ {l : List (List UInt8)} {a : List Int}, numAll l = some a → l = a.map Lib.itoa := by
  intro l
  induction l with
  | nil => intro a h; cases h; rfl
  | cons x l ih =>
    intro a h
    rw [numAll] at h
    cases hx : numL x with
    | none => rw [hx] at h; cases h
    | some n =>
      rw [hx] at h
      cases hl : numAll l with
      | none => simp only [hl] at h; cases h
      | some b =>
        simp only [hl, Option.map_some, Option.some.injEq] at h
        subst h
        rw [List.map_cons, ← ih hl, ← numL_word hx]
def Num9 (n : Int) : Prop := -1000000000 < n ∧ n < 1000000000
theorem numAll_itoa : ∀ {a : List Int}, (∀ n ∈ a, Num9 n) → numAll (a.map Lib.itoa) = some a := by
  intro a
  induction a with
  | nil => intro _; rfl
  | cons n a ih =>
    intro h
    have h1 := h n (List.mem_cons_self ..)
    rw [List.map_cons, numAll, numL_itoa h1.1 h1.2, ih fun m hm => h m (List.mem_cons_of_mem _ hm)]
    rfl
end Go.Proofs.YtcnmfblbfpcghaaGreatDoor

/- The text of a state as a list of bytes: seven rows of digits; what is written is read. Nothing here names the program. -/

set_option linter.unusedSimpArgs false
set_option linter.unusedVariables false
namespace Go.Proofs.YtcnmfblbfpcghaaGreatDoor

def bitL (b : Bool) : UInt8 := if b then 49 else 48
def wOn : List UInt8 := [111, 110]
def wBadSource : List UInt8 := [98, 97, 100, 115, 111, 117, 114, 99, 101]
def wClosed : List UInt8 := [99, 108, 111, 115, 101, 100]
def wLocked : List UInt8 := [108, 111, 99, 107, 101, 100]
def wBadLink : List UInt8 := [98, 97, 100, 108, 105, 110, 107]
def wEarthed : List UInt8 := [101, 97, 114, 116, 104, 101, 100]
def wBadBus : List UInt8 := [98, 97, 100, 98, 117, 115]
def rowWords : List (List UInt8) := [wOn, wBadSource, wClosed, wLocked, wBadLink, wEarthed, wBadBus]
/-- A row of the text: its word, a space, its digits. -/
def rowL (w : List UInt8) (l : List Bool) : List UInt8 := w ++ [32] ++ l.map bitL ++ [10]
def rowsL : List (List UInt8 × List Bool) → List UInt8
  | [] => []
  | x :: r => rowL x.1 x.2 ++ rowsL r
/-- What is read of a row: its flags, and the text behind it. -/
def rowR (w : List UInt8) (n : Nat) (t : List UInt8) : Option (List Bool × List UInt8) :=
  if (cutC 10 t).2.2 = true ∧ (w ++ [32]).isPrefixOf (cutC 10 t).1 = true ∧ ((cutC 10 t).1.drop (w.length + 1)).length = n ∧ ((cutC 10 t).1.drop (w.length + 1)).all (fun b => b == 48 || b == 49) = true
  then some (((cutC 10 t).1.drop (w.length + 1)).map (fun b => b == 49), (cutC 10 t).2.1) else none
def rowsR : List (List UInt8 × Nat) → List UInt8 → Option (List (List Bool) × List UInt8)
  | [], t => some ([], t)
  | x :: r, t => match rowR x.1 x.2 t with
    | some y => (rowsR r y.2).map fun z => (y.1 :: z.1, z.2)
    | none => none
theorem bits_free (l : List Bool) (c : UInt8) (h0 : c ≠ 48) (h1 : c ≠ 49) : c ∉ l.map bitL := by
  intro h
  obtain ⟨b, _, hb⟩ := List.mem_map.1 h
  cases b
  · exact h0 hb.symm
  · exact h1 hb.symm
theorem bits_back (l : List Bool) : (l.map bitL).map (fun b => b == 49) = l := by
  rw [List.map_map]
  conv => rhs; rw [← List.map_id l]
  apply List.map_congr_left
  intro b _
  cases b <;> rfl
theorem bits_all (l : List Bool) : (l.map bitL).all (fun b => b == 48 || b == 49) = true := by
  rw [List.all_map, List.all_eq_true]
  intro b _
  cases b <;> rfl
theorem rowR_rowL (w : List UInt8) (l : List Bool) (rest : List UInt8) (hw : (10 : UInt8) ∉ w) : rowR w l.length (rowL w l ++ rest) = some (l, rest) := by
  have hc : cutC 10 (rowL w l ++ rest) = (w ++ [32] ++ l.map bitL, rest, true) := by
    unfold rowL
    rw [List.append_assoc (w ++ [32] ++ l.map bitL)]
    refine cutC_app 10 rest _ ?_
    intro h
    rcases List.mem_append.1 h with h | h
    · rcases List.mem_append.1 h with h | h
      · exact hw h
      · revert h; decide
    · exact bits_free l 10 (by decide) (by decide) h
  have hd : (w ++ [32] ++ l.map bitL).drop (w.length + 1) = l.map bitL := by
    rw [show w.length + 1 = (w ++ [32]).length by simp, List.drop_left]
  unfold rowR
  rw [hc]
  simp only [hd, bits_back]
  rw [if_pos ⟨trivial, by simp, by simp, bits_all l⟩]
theorem rowsR_rowsL : ∀ (r : List (List UInt8 × List Bool)) (rest : List UInt8), (∀ x ∈ r, (10 : UInt8) ∉ x.1) → rowsR (r.map fun x => (x.1, x.2.length)) (rowsL r ++ rest) = some (r.map (·.2), rest) := by
  intro r
  induction r with
  | nil => intro rest _; rfl
  | cons x r ih =>
    intro rest h
    rw [List.map_cons, rowsR, rowsL, List.append_assoc, rowR_rowL x.1 x.2 _ (h x (List.mem_cons_self ..))]
    simp only []
    rw [ih rest fun z hz => h z (List.mem_cons_of_mem _ hz)]
    rfl
end Go.Proofs.YtcnmfblbfpcghaaGreatDoor
