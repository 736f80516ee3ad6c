/- heat: a second is monotone, nothing falls below 0, and heat is balanced (plain). -/
import Derived.Test.YtldbciflpnhfpaaHtJ

set_option linter.unusedSimpArgs false
set_option linter.unusedVariables false
namespace Go.Proofs.Ytldbciflpnhfpaa
open Go.RowKit

theorem wl_mem {h : Hl} {k : Nat} (hk : k < h.walls.length) : h.wl k ∈ h.walls := by
  unfold Hl.wl
  rw [List.getD_eq_getElem?_getD, List.getElem?_eq_getElem hk]
  exact List.getElem_mem _
theorem cr_mem {h : Hl} {k : Nat} (hk : k < h.crs.length) : h.cr k ∈ h.crs := by
  unfold Hl.cr
  rw [List.getD_eq_getElem?_getD, List.getElem?_eq_getElem hk]
  exact List.getElem_mem _
theorem slW_tk {h : Hl} {i : Int} {k : Nat} (hk : k < h.walls.length) : slW i (h.walls.take (k + 1)) = slW i (h.walls.take k) + if (h.wl k).a = i ∨ (h.wl k).b = i then (h.wl k).p else 0 := by
  rw [List.take_add_one, List.getElem?_eq_getElem hk, show (some h.walls[k]).toList = [h.walls[k]] from rfl, slW_snoc]
  have e : h.wl k = h.walls[k] := by unfold Hl.wl; rw [List.getD_eq_getElem?_getD, List.getElem?_eq_getElem hk]; rfl
  rw [e]
theorem slC_tk {h : Hl} {i : Int} {k : Nat} (hk : k < h.crs.length) : slC i (h.crs.take (k + 1)) = slC i (h.crs.take k) + if (h.cr k).rm = i then (h.cr k).gn else 0 := by
  rw [List.take_add_one, List.getElem?_eq_getElem hk, show (some h.crs[k]).toList = [h.crs[k]] from rfl, slC_snoc]
  have e : h.cr k = h.crs[k] := by unfold Hl.cr; rw [List.getD_eq_getElem?_getD, List.getElem?_eq_getElem hk]; rfl
  rw [e]
theorem tkL_get {h : Hl} {p : Int} {t : List Int} {k : Nat} (hk : k < h.crs.length) : (tkL h p t).getD k 0 = tkV h p t (h.cr k) := by
  unfold tkL Hl.cr
  rw [List.getD_eq_getElem?_getD, List.getElem?_map, List.getD_eq_getElem?_getD, List.getElem?_eq_getElem hk]
  rfl
theorem cap_mono {h : Hl} (ok : HlOk h) {p q : Int} (hpq : q ≤ p) {x : Clr} (hx : x ∈ h.crs) : x.cr * fl h q x.br.toNat / cnC x.br h.crs ≤ x.cr * fl h p x.br.toNat / cnC x.br h.crs := by
  obtain ⟨_, h2, _, h4, _⟩ := ok.clr x hx
  have h9 := (cnC_bd x.br h.crs).2 x hx rfl
  exact Int.ediv_le_ediv (by omega) (Int.mul_le_mul_of_nonneg_left (fl_mono ok hpq _ (by omega)) h4.1)
theorem tkV_mono {h : Hl} (ok : HlOk h) {p q : Int} (hpq : q ≤ p) {t u : List Int} {x : Clr} (hx : x ∈ h.crs) (htu : t.getD x.rm.toNat 0 ≤ u.getD x.rm.toNat 0) : tkV h q u x ≤ tkV h p t x + x.gn * (u.getD x.rm.toNat 0 - t.getD x.rm.toNat 0) := by
  obtain ⟨_, _, h3, _, _⟩ := ok.clr x hx
  have h1 := cap_mono ok hpq hx
  have h2 : 0 ≤ x.gn * (u.getD x.rm.toNat 0 - t.getD x.rm.toNat 0) := Int.mul_nonneg h3.1 (by omega)
  have e : x.gn * (u.getD x.rm.toNat 0 - x.sp) = x.gn * (t.getD x.rm.toNat 0 - x.sp) + x.gn * (u.getD x.rm.toNat 0 - t.getD x.rm.toNat 0) := by
    rw [← Int.mul_add]; congr 1; omega
  unfold tkV
  rw [e]
  omega
theorem clS_mono {h : Hl} (ok : HlOk h) {p q : Int} (hpq : q ≤ p) {t u : List Int} (j : Nat) (htu : t.getD j 0 ≤ u.getD j 0) : ∀ k ≤ h.crs.length, clS h (tkL h q u) j k ≤ clS h (tkL h p t) j k + slC (j : Int) (h.crs.take k) * (u.getD j 0 - t.getD j 0) := by
  intro k
  induction k with
  | zero => intro _; simp [clS, slC]
  | succ k ih =>
    intro hk
    have i1 := ih (by omega)
    rw [slC_tk (by omega), Int.add_mul]
    simp only [clS]
    rw [tkL_get (by omega), tkL_get (by omega)]
    by_cases e : (h.cr k).rm = (j : Int)
    · rw [if_pos e, if_pos e, if_pos e]
      have e2 : (h.cr k).rm.toNat = j := by omega
      have h3 := tkV_mono ok hpq (t := t) (u := u) (cr_mem (show k < h.crs.length by omega)) (by rw [e2]; exact htu)
      rw [e2] at h3
      omega
    · rw [if_neg e, if_neg e, if_neg e, Int.zero_mul]
      omega
theorem wlV_mono {h : Hl} (ok : HlOk h) {t u : List Int} {o o' : Int} (ho : o ≤ o') {x : Wal} (hx : x ∈ h.walls) (j : Nat) (htu : ∀ i, t.getD i 0 ≤ u.getD i 0) : wlV t o x j ≤ wlV u o' x j + (if x.a = (j : Int) ∨ x.b = (j : Int) then x.p else 0) * (u.getD j 0 - t.getD j 0) := by
  obtain ⟨h1, h2, h3⟩ := ok.wal x hx
  have key (a b c d e : Int) (hp : 0 ≤ x.p) (hab : a ≤ c + e - (d - b)) : x.p * (a - b) ≤ x.p * (c - d) + x.p * e := by
    rw [← Int.mul_add]
    exact Int.mul_le_mul_of_nonneg_left (by omega) hp
  have ha := htu x.a.toNat
  have hb := htu x.b.toNat
  unfold wlV
  by_cases eb : x.b = -1
  · rw [if_pos eb, if_pos eb]
    by_cases ea : x.a = (j : Int)
    · rw [if_pos ea, if_pos ea, if_pos (Or.inl ea)]
      have e2 : x.a.toNat = j := by omega
      rw [e2]
      exact key _ _ _ _ _ h3.1 (by omega)
    · rw [if_neg ea, if_neg ea, if_neg (show ¬ (x.a = (j : Int) ∨ x.b = (j : Int)) by omega), Int.zero_mul]
      omega
  · rw [if_neg eb, if_neg eb]
    rcases h2 with h2 | ⟨h2, h5⟩
    · exact absurd h2 eb
    by_cases ea : x.a = (j : Int)
    · have e2 : x.a.toNat = j := by omega
      rw [if_pos ea, if_pos ea, if_pos (Or.inl ea), if_neg (show ¬ (x.b = (j : Int)) by omega), if_neg (show ¬ (x.b = (j : Int)) by omega), e2]
      have h6 := key (t.getD x.b.toNat 0) (t.getD j 0) (u.getD x.b.toNat 0) (u.getD j 0) (u.getD j 0 - t.getD j 0) h3.1 (by omega)
      omega
    · by_cases ej : x.b = (j : Int)
      · have e2 : x.b.toNat = j := by omega
        rw [if_neg ea, if_neg ea, if_pos ej, if_pos ej, if_pos (Or.inr ej), e2]
        have h6 : x.p * (u.getD j 0 - u.getD x.a.toNat 0) ≤ x.p * (t.getD j 0 - t.getD x.a.toNat 0) + x.p * (u.getD j 0 - t.getD j 0) := key _ _ _ _ _ h3.1 (by omega)
        omega
      · rw [if_neg ea, if_neg ea, if_neg ej, if_neg ej, if_neg (show ¬ (x.a = (j : Int) ∨ x.b = (j : Int)) by omega), Int.zero_mul]
        omega
theorem wlS_mono {h : Hl} (ok : HlOk h) {t u : List Int} {o o' : Int} (ho : o ≤ o') (j : Nat) (htu : ∀ i, t.getD i 0 ≤ u.getD i 0) : ∀ k ≤ h.walls.length, wlS h t o j k ≤ wlS h u o' j k + slW (j : Int) (h.walls.take k) * (u.getD j 0 - t.getD j 0) := by
  intro k
  induction k with
  | zero => intro _; simp [wlS, slW]
  | succ k ih =>
    intro hk
    have i1 := ih (by omega)
    have h2 := wlV_mono ok ho (wl_mem (show k < h.walls.length by omega)) j htu
    rw [slW_tk (by omega), Int.add_mul]
    simp only [wlS]
    omega
/-- What a room has behind the second, before it is divided by its Store. -/
def prV (h : Hl) (t l : List Int) (out pump : Int) (j : Nat) : Int := (h.rooms.getD j ⟨0, 0⟩).st * t.getD j 0 + htV h t l out pump j
theorem prV_mono {h : Hl} (ok : HlOk h) {t u l m : List Int} {o o' p q : Int} (hpq : q ≤ p) (ho : o ≤ o') (htu : ∀ i, t.getD i 0 ≤ u.getD i 0) (hlm : ∀ i, l.getD i 0 ≤ m.getD i 0) {j : Nat} (hj : j < h.rooms.length) : prV h t l o p j ≤ prV h u m o' q j := by
  have h1 := wlS_mono ok ho j htu _ (Nat.le_refl _)
  have h2 := clS_mono ok hpq j (htu j) _ (Nat.le_refl _)
  rw [List.take_length] at h1 h2
  have h3 := ok.slp j hj
  have h4 : slopeF h (j : Int) * (u.getD j 0 - t.getD j 0) ≤ (h.rooms.getD j ⟨0, 0⟩).st * (u.getD j 0 - t.getD j 0) := Int.mul_le_mul_of_nonneg_right h3 (by have := htu j; omega)
  have h5 := hlm j
  unfold slopeF at h4
  rw [Int.add_mul] at h4
  rw [Int.mul_sub (h.rooms.getD j ⟨0, 0⟩).st] at h4
  unfold prV htV
  omega
theorem wlS_zero (h : Hl) (j k : Nat) : wlS h [] 0 j k = 0 := by
  induction k with
  | zero => rfl
  | succ k ih =>
    simp only [wlS, ih, wlV]
    simp
theorem clS_zero {h : Hl} (ok : HlOk h) {p : Int} (hp : 0 ≤ p ∧ p ≤ 100000) (j : Nat) : ∀ k ≤ h.crs.length, clS h (tkL h p []) j k = 0 := by
  intro k
  induction k with
  | zero => intro _; rfl
  | succ k ih =>
    intro hk
    simp only [clS]
    rw [ih (by omega), tkL_get (by omega)]
    have hx := cr_mem (show k < h.crs.length by omega)
    obtain ⟨_, h2, h3, h4, h5⟩ := ok.clr _ hx
    have h6 : 0 ≤ (h.cr k).gn * (h.cr k).sp := Int.mul_nonneg h3.1 h5.1
    have h7 := fl_nonneg ok p (show (h.cr k).br.toNat < h.brs.length by omega)
    have h9 := (cnC_bd (h.cr k).br h.crs).2 _ hx rfl
    have h10 : 0 ≤ (h.cr k).cr * fl h p (h.cr k).br.toNat / cnC (h.cr k).br h.crs := Int.ediv_nonneg (Int.mul_nonneg h4.1 h7) (by omega)
    have e : tkV h p [] (h.cr k) = 0 := by
      unfold tkV
      simp only [List.getD_nil, Int.zero_sub, Int.mul_neg]
      omega
    rw [e]
    simp
theorem prV_nonneg {h : Hl} (ok : HlOk h) {t l : List Int} {o p : Int} (hp : 0 ≤ p ∧ p ≤ 100000) (ho : 0 ≤ o) (ht : ∀ i, 0 ≤ t.getD i 0) (hl : ∀ i, 0 ≤ l.getD i 0) {j : Nat} (hj : j < h.rooms.length) : 0 ≤ prV h t l o p j := by
  have h1 := prV_mono ok (t := []) (u := t) (l := []) (m := l) (Int.le_refl p) ho (by simpa using ht) (by simpa using hl) hj
  have h2 : prV h [] [] 0 p j = 0 := by
    unfold prV htV
    rw [wlS_zero, clS_zero ok hp j _ (Nat.le_refl _)]
    simp
  omega
theorem st_pos {h : Hl} (ok : HlOk h) {j : Nat} (hj : j < h.rooms.length) : 1 ≤ (h.rooms.getD j ⟨0, 0⟩).st ∧ (h.rooms.getD j ⟨0, 0⟩).st ≤ 1000000 := by
  have h1 := ok.rom (h.rooms.getD j ⟨0, 0⟩) (by rw [List.getD_eq_getElem?_getD, List.getElem?_eq_getElem hj]; exact List.getElem_mem _)
  exact h1.1
theorem nxV_eq {h : Hl} (ok : HlOk h) {t l : List Int} {o p : Int} (hp : 0 ≤ p ∧ p ≤ 100000) (ho : 0 ≤ o) (ht : ∀ i, 0 ≤ t.getD i 0) (hl : ∀ i, 0 ≤ l.getD i 0) {j : Nat} (hj : j < h.rooms.length) : nxV h t l o p j = min 1000000 (prV h t l o p j / (h.rooms.getD j ⟨0, 0⟩).st) := by
  show min 1000000 ((prV h t l o p j).tdiv _) = _
  rw [Int.tdiv_eq_ediv_of_nonneg (prV_nonneg ok hp ho ht hl hj)]
theorem nxV_bd {h : Hl} (ok : HlOk h) {t l : List Int} {o p : Int} (hp : 0 ≤ p ∧ p ≤ 100000) (ho : 0 ≤ o) (ht : ∀ i, 0 ≤ t.getD i 0) (hl : ∀ i, 0 ≤ l.getD i 0) {j : Nat} (hj : j < h.rooms.length) : 0 ≤ nxV h t l o p j ∧ nxV h t l o p j ≤ 1000000 := by
  rw [nxV_eq ok hp ho ht hl hj]
  have h1 := Int.ediv_nonneg (prV_nonneg ok hp ho ht hl hj) (show 0 ≤ (h.rooms.getD j ⟨0, 0⟩).st by have := st_pos ok hj; omega)
  omega
/-- With warmer rooms, more load, a warmer outside and a weaker pump no room is colder. -/
theorem nxV_mono {h : Hl} (ok : HlOk h) {t u l m : List Int} {o o' p q : Int} (hp : 0 ≤ p ∧ p ≤ 100000) (hq : 0 ≤ q ∧ q ≤ 100000) (ho : 0 ≤ o) (hpq : q ≤ p) (hoo : o ≤ o') (ht : ∀ i, 0 ≤ t.getD i 0) (hl : ∀ i, 0 ≤ l.getD i 0) (htu : ∀ i, t.getD i 0 ≤ u.getD i 0) (hlm : ∀ i, l.getD i 0 ≤ m.getD i 0) {j : Nat} (hj : j < h.rooms.length) : nxV h t l o p j ≤ nxV h u m o' q j := by
  rw [nxV_eq ok hp ho ht hl hj, nxV_eq ok hq (by omega) (fun i => by have h1 := ht i; have h2 := htu i; omega) (fun i => by have h1 := hl i; have h2 := hlm i; omega) hj]
  have h1 := Int.ediv_le_ediv (show 0 < (h.rooms.getD j ⟨0, 0⟩).st by have := st_pos ok hj; omega) (prV_mono ok hpq hoo htu hlm hj)
  omega
/-- Sums. -/
def sumN (f : Nat → Int) : Nat → Int
  | 0 => 0
  | k + 1 => sumN f k + f k
theorem sumN_add (f g : Nat → Int) (n : Nat) : sumN (fun i => f i + g i) n = sumN f n + sumN g n := by
  induction n with
  | zero => rfl
  | succ n ih => simp only [sumN, ih]; omega
theorem sumN_sub (f g : Nat → Int) (n : Nat) : sumN (fun i => f i - g i) n = sumN f n - sumN g n := by
  induction n with
  | zero => rfl
  | succ n ih => simp only [sumN, ih]; omega
theorem sumN_zero (n : Nat) : sumN (fun _ => 0) n = 0 := by
  induction n with
  | zero => rfl
  | succ n ih => simp only [sumN, ih]; rfl
theorem sumN_congr {f g : Nat → Int} {n : Nat} (h : ∀ i < n, f i = g i) : sumN f n = sumN g n := by
  induction n with
  | zero => rfl
  | succ n ih => simp only [sumN]; rw [ih (fun i hi => h i (by omega)), h n (by omega)]
theorem sumN_one {c v : Int} (hc : 0 ≤ c) : ∀ n : Nat, sumN (fun i => if c = (i : Int) then v else 0) n = if c < n then v else 0 := by
  intro n
  induction n with
  | zero => rw [if_neg (by omega)]; rfl
  | succ n ih =>
    simp only [sumN]
    rw [ih]
    by_cases h1 : c < n
    · rw [if_pos h1, if_neg (by omega), if_pos (by omega)]; omega
    · by_cases h2 : c = (n : Int)
      · rw [if_neg h1, if_pos h2, if_pos (by omega)]; omega
      · rw [if_neg h1, if_neg h2, if_neg (by omega)]; rfl
/-- What an outside wall brings in. -/
def owV (t : List Int) (out : Int) (x : Wal) : Int := if x.b = -1 then x.p * (out - t.getD x.a.toNat 0) else 0
theorem wl_sum {h : Hl} (ok : HlOk h) {t : List Int} {out : Int} {x : Wal} (hx : x ∈ h.walls) : sumN (fun j => wlV t out x j) h.rooms.length = owV t out x := by
  obtain ⟨h1, h2, _⟩ := ok.wal x hx
  unfold owV wlV
  by_cases eb : x.b = -1
  · simp only [if_pos eb]
    rw [sumN_one h1.1, if_pos h1.2]
  · simp only [if_neg eb]
    rcases h2 with h2 | ⟨h2, _⟩
    · exact absurd h2 eb
    rw [sumN_sub, sumN_one h1.1, sumN_one h2.1, if_pos h1.2, if_pos h2.2]
    omega
theorem wlS_sum {h : Hl} (ok : HlOk h) (t : List Int) (out : Int) : ∀ k ≤ h.walls.length, sumN (fun j => wlS h t out j k) h.rooms.length = sumN (fun i => owV t out (h.wl i)) k := by
  intro k
  induction k with
  | zero => intro _; simp only [wlS]; rw [sumN_zero]; rfl
  | succ k ih =>
    intro hk
    simp only [wlS, sumN]
    rw [sumN_add, ih (by omega), wl_sum ok (wl_mem (by omega))]
theorem clS_sum {h : Hl} (ok : HlOk h) (L : List Int) : ∀ k ≤ h.crs.length, sumN (fun j => clS h L j k) h.rooms.length = sumN (fun i => L.getD i 0) k := by
  intro k
  induction k with
  | zero => intro _; simp only [clS]; rw [sumN_zero]; rfl
  | succ k ih =>
    intro hk
    obtain ⟨h1, _⟩ := ok.clr _ (cr_mem (show k < h.crs.length by omega))
    simp only [clS, sumN]
    rw [sumN_add, ih (by omega), sumN_one h1.1, if_pos h1.2]
/-- What is stored, but for the loads. -/
def stF (h : Hl) (t l y : List Int) (j : Nat) : Int := (h.rooms.getD j ⟨0, 0⟩).st * (y.getD j 0 - t.getD j 0) - l.getD j 0
def loF (h : Hl) (j : Nat) : Int := (h.rooms.getD j ⟨0, 0⟩).st - 1
/-- THE BALANCE. -/
theorem balance {h : Hl} (ok : HlOk h) {t l : List Int} {o p : Int} (hp : 0 ≤ p ∧ p ≤ 100000) (ho : 0 ≤ o) (ht : ∀ i, 0 ≤ t.getD i 0) (hl : ∀ i, 0 ≤ l.getD i 0) (hm : ∀ j < h.rooms.length, nxV h t l o p j ≠ 1000000) :
    (sumN (stF h t l (nxL h t l o p)) h.rooms.length - sumN (fun i => owV t o (h.wl i)) h.walls.length + sumN (fun i => (tkL h p t).getD i 0) h.crs.length ≤ 0) ∧ -(sumN (stF h t l (nxL h t l o p)) h.rooms.length - sumN (fun i => owV t o (h.wl i)) h.walls.length + sumN (fun i => (tkL h p t).getD i 0) h.crs.length) ≤ sumN (loF h) h.rooms.length := by
  have key : sumN (stF h t l (nxL h t l o p)) h.rooms.length = sumN (fun j => wlS h t o j h.walls.length) h.rooms.length - sumN (fun j => clS h (tkL h p t) j h.crs.length) h.rooms.length - sumN (fun j => prV h t l o p j % (h.rooms.getD j ⟨0, 0⟩).st) h.rooms.length := by
    rw [← sumN_sub, ← sumN_sub]
    refine sumN_congr fun j hj => ?_
    have e1 : (nxL h t l o p).getD j 0 = nxV h t l o p j := by rw [List.getD_eq_getElem?_getD, nxL_get hj]; rfl
    have h2 := nxV_eq ok hp ho ht hl hj
    have h3 := hm j hj
    have h4 : nxV h t l o p j = prV h t l o p j / (h.rooms.getD j ⟨0, 0⟩).st := by omega
    have h5 := Int.mul_ediv_add_emod (prV h t l o p j) (h.rooms.getD j ⟨0, 0⟩).st
    unfold stF
    rw [e1, h4, Int.mul_sub]
    have h6 : prV h t l o p j = (h.rooms.getD j ⟨0, 0⟩).st * t.getD j 0 + (l.getD j 0 + wlS h t o j h.walls.length - clS h (tkL h p t) j h.crs.length) := rfl
    omega
  rw [wlS_sum ok t o _ (Nat.le_refl _), clS_sum ok _ _ (Nat.le_refl _)] at key
  have h7 : ∀ n ≤ h.rooms.length, 0 ≤ sumN (fun j => prV h t l o p j % (h.rooms.getD j ⟨0, 0⟩).st) n ∧ sumN (fun j => prV h t l o p j % (h.rooms.getD j ⟨0, 0⟩).st) n ≤ sumN (loF h) n := by
    intro n
    induction n with
    | zero => intro _; exact ⟨Int.le_refl _, Int.le_refl _⟩
    | succ n ih =>
      intro hn
      have i1 := ih (by omega)
      have h8 := st_pos ok (show n < h.rooms.length by omega)
      have h9 := Int.emod_nonneg (prV h t l o p n) (show (h.rooms.getD n ⟨0, 0⟩).st ≠ 0 by omega)
      have h10 := Int.emod_lt_of_pos (prV h t l o p n) (show 0 < (h.rooms.getD n ⟨0, 0⟩).st by omega)
      simp only [sumN, loF]
      omega
  have h11 := h7 _ (Nat.le_refl _)
  omega
end Go.Proofs.Ytldbciflpnhfpaa
