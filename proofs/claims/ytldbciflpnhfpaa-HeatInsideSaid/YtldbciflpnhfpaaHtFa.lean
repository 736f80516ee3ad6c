/- law07: what HeatFlows needs (plain). -/
import Derived.Test.YtldbciflpnhfpaaHtW
import Derived.Test.YtldbciflpnhfpaaHtU
import Derived.Laws.OwnMore

set_option linter.unusedSimpArgs false
set_option linter.unusedVariables false
namespace Go.Proofs.Ytldbciflpnhfpaa
open Go.RowKit

/-- The sums of the flows of those that hang on each branch. -/
def sfL (n : Nat) (h : Hl) (p : Int) (k : Nat) : List Int := (List.range n).map (fun u : Nat => flS h p (u : Int) k)
theorem sfL_len (n : Nat) (h : Hl) (p : Int) (k : Nat) : (sfL n h p k).length = n := by simp [sfL]
theorem sfL_get {n u k : Nat} {h : Hl} {p : Int} (hu : u < n) : (sfL n h p k)[u]? = some (flS h p (u : Int) k) := by simp [sfL, hu]
theorem sfL_zero (n : Nat) (h : Hl) (p : Int) : sfL n h p 0 = List.replicate n 0 := by
  apply List.ext_getElem?
  intro i
  by_cases hi : i < n
  · rw [sfL_get hi]; simp [flS, hi]
  · rw [List.getElem?_eq_none (by rw [sfL_len]; omega), List.getElem?_eq_none (by simp; omega)]
theorem sfL_first (n : Nat) (h : Hl) (p : Int) : sfL n h p 1 = sfL n h p 0 := by
  unfold sfL
  apply List.map_congr_left
  intro u _
  simp [flS]
theorem sfL_set {n u k : Nat} {h : Hl} {p : Int} (hu : u < n) (e : (h.br k).up = (u : Int)) (hk : k ≠ 0) : (sfL n h p k).set u (flS h p (u : Int) k + fl h p k) = sfL n h p (k + 1) := by
  apply List.ext_getElem?
  intro i
  by_cases hi : i < n
  · rw [sfL_get hi, List.getElem?_set]
    by_cases e2 : u = i
    · subst e2
      rw [if_pos rfl, if_pos (by rw [sfL_len]; exact hi)]
      simp only [flS]
      rw [if_pos ⟨e, hk⟩]
    · rw [if_neg e2, sfL_get hi]
      simp only [flS]
      rw [if_neg (by rw [e]; omega), Int.add_zero]
  · rw [List.getElem?_eq_none (by rw [List.length_set, sfL_len]; omega), List.getElem?_eq_none (by rw [sfL_len]; omega)]
theorem flS_bd {h : Hl} (ok : HlOk h) {p : Int} (hp : 0 ≤ p) (b : Int) : ∀ k ≤ h.brs.length, 0 ≤ flS h p b k ∧ flS h p b k ≤ k * p := by
  intro k
  induction k with
  | zero => intro _; simp [flS]
  | succ k ih =>
    intro hk
    have h1 := ih (by omega)
    have h2 := fl_nonneg ok p (show k < h.brs.length by omega)
    have h3 := fl_le ok hp k (by omega)
    simp only [flS, Int.natCast_add, Int.add_mul, Int.natCast_one, Int.one_mul]
    split <;> omega
theorem flL_getD {h : Hl} {p : Int} {i : Nat} (hi : i < h.brs.length) : (flL h p).getD i 0 = fl h p i := by rw [List.getD_eq_getElem?_getD, flL_get hi]; rfl
theorem flL_len' (h : Hl) (p : Int) : (flL h p).length = h.brs.length := by simp [flL]
theorem below_flows {h : Hl} (ok : HlOk h) {p q : Int} (hpq : p ≤ q) : leB (flL h p) (flL h q) = true := by
  refine leB_yes fun i hi => ?_
  rw [flL_len'] at hi
  rw [flL_getD hi, flL_getD hi]
  exact fl_mono ok hpq i hi
theorem below_sums {h : Hl} (ok : HlOk h) {p : Int} : leB (sfL h.brs.length h p h.brs.length) (flL h p) = true := by
  refine leB_yes fun i hi => ?_
  rw [sfL_len] at hi
  rw [flL_getD hi, List.getD_eq_getElem?_getD, sfL_get hi]
  exact flS_le ok hi
/-- A greater leak. -/
def Brn.more (x : Brn) (z : Int) : Brn := ⟨x.up, x.op, x.lk + z⟩
def Hl.leak (h : Hl) (i : Nat) (z : Int) : Hl := ⟨h.rooms, h.walls, h.brs.set i ((h.br i).more z), h.crs⟩
theorem leak_br {h : Hl} {i j : Nat} {z : Int} (hi : i < h.brs.length) : (h.leak i z).br j = if j = i then (h.br i).more z else h.br j := by
  unfold Hl.br Hl.leak
  simp only [List.getD_eq_getElem?_getD, List.getElem?_set]
  by_cases e : i = j
  · subst e; rw [if_pos rfl, if_pos rfl, if_pos hi]; rfl
  · rw [if_neg e, if_neg (fun e2 => e e2.symm)]
theorem opS_set {b : Int} {l : List Brn} {i : Nat} {x : Brn} {z : Int} (hx : l[i]? = some x) : opS b (l.set i (x.more z)) = opS b l := by
  induction l generalizing i with
  | nil => rfl
  | cons a l ih =>
    cases i with
    | zero =>
      simp only [List.getElem?_cons_zero, Option.some.injEq] at hx
      subst hx
      rfl
    | succ i =>
      simp only [List.set_cons_succ, opS]
      rw [ih (by simpa using hx)]
theorem br_get {h : Hl} {i : Nat} (hi : i < h.brs.length) : h.brs[i]? = some (h.br i) := by
  unfold Hl.br
  rw [List.getD_eq_getElem?_getD, List.getElem?_eq_getElem hi]
  rfl
theorem leak_ok {h : Hl} (ok : HlOk h) {i : Nat} {z : Int} (hi : i < h.brs.length) (hz : 0 ≤ z) (hl : (h.br i).lk + z ≤ 100000) : HlOk (h.leak i z) := by
  have hlen : (h.leak i z).brs.length = h.brs.length := by simp [Hl.leak]
  refine ⟨ok.n1, ok.n8, ok.w16, by rw [hlen]; exact ok.b16, ok.c16, ok.rom, ok.wal, fun j hj => ?_, fun x hx => ?_, ok.slp⟩
  · rw [hlen] at hj
    have h1 := ok.brn j hj
    rw [leak_br hi]
    by_cases e : j = i
    · subst e
      rw [if_pos rfl]
      refine ⟨h1.1, h1.2.1, ?_, ?_⟩
      · show 0 ≤ (h.br j).lk + z; omega
      · exact hl
    · rw [if_neg e]; exact h1
  · have h1 := ok.clr x hx
    rw [hlen]
    exact h1
theorem leak_below {h : Hl} (ok : HlOk h) {i : Nat} {z p : Int} (hi : i < h.brs.length) (hz : 0 ≤ z) (hl : (h.br i).lk + z ≤ 100000) : leB (flL (h.leak i z) p) (flL h p) = true := by
  have hlen : (h.leak i z).brs.length = h.brs.length := by simp [Hl.leak]
  refine leB_yes fun j hj => ?_
  rw [flL_len', hlen] at hj
  rw [flL_getD (by rw [hlen]; exact hj), flL_getD hj]
  refine fl_leak ok (leak_ok ok hi hz hl) hlen (fun k hk => ?_) (fun b => opS_set (br_get hi)) j hj
  rw [leak_br hi]
  by_cases e : k = i
  · subst e
    rw [if_pos rfl]
    refine ⟨rfl, rfl, ?_⟩
    show (h.br k).lk ≤ (h.br k).lk + z
    omega
  · rw [if_neg e]; exact ⟨rfl, rfl, Int.le_refl _⟩
theorem flat_set3 {l : List Brn} {i : Nat} {x : Brn} {z : Int} (hx : l[i]? = some x) : (l.flatMap Brn.enc).set (i * 3 + 2) (.int .i64 (x.lk + z)) = (l.set i (x.more z)).flatMap Brn.enc := by
  induction l generalizing i with
  | nil => simp at hx
  | cons a l ih =>
    cases i with
    | zero =>
      simp only [List.getElem?_cons_zero, Option.some.injEq] at hx
      subst hx
      simp [Brn.enc, Brn.more]
    | succ i =>
      rw [show (i + 1) * 3 + 2 = (i * 3 + 2) + 3 by omega]
      simp only [List.set_cons_succ, List.flatMap_cons]
      rw [← ih (by simpa using hx)]
      simp [Brn.enc]
theorem flat_len3 (l : List Brn) : (l.flatMap Brn.enc).length = l.length * 3 := by
  induction l with
  | nil => rfl
  | cons a l ih => simp only [List.flatMap_cons, List.length_append, ih, List.length_cons]; simp [Brn.enc]; omega
theorem flat_get3 {l : List Brn} {i : Nat} {x : Brn} (hx : l[i]? = some x) : (l.flatMap Brn.enc)[i * 3 + 2]? = some (.int .i64 x.lk) := by
  induction l generalizing i with
  | nil => simp at hx
  | cons a l ih =>
    cases i with
    | zero =>
      simp only [List.getElem?_cons_zero, Option.some.injEq] at hx
      subst hx
      simp [Brn.enc]
    | succ i =>
      have h1 := ih (i := i) (by simpa using hx)
      rw [show (i + 1) * 3 + 2 = (i * 3 + 2) + 3 by omega]
      simp only [List.flatMap_cons]
      rw [List.getElem?_append_right (by simp [Brn.enc])]
      simpa [Brn.enc] using h1
end Go.Proofs.Ytldbciflpnhfpaa
