/- MeterSigned: what its chains are, before and behind a change. -/
import Derived.Test.YtcecbohaajocfaaMtFh
import Derived.Test.YtcecbohaajocfaaMtFi

set_option linter.unusedSimpArgs false
set_option linter.unusedVariables false
namespace Go.Proofs.Ytcecbohaajocfaa
open Go.RowKit

theorem row_set1 {W : World} {B size n c g : Nat} {e : TypeId} {xs : List Value} (h : W.ownsRow B e size (.slice (some ⟨g, 0, none⟩) n c) n xs) (q : Nat) (v : Value) : (W.setCell ⟨g, q, none⟩ v).ownsRow B e size (.slice (some ⟨g, 0, none⟩) n c) n (xs.set q v) := by
  refine ⟨by rw [List.length_set]; exact h.1, ?_⟩
  rcases h.2 with ⟨h1, _⟩ | ⟨g', cap', cur, h1, hbg, hg, hnc, hcm, hcs, htake⟩
  · simp at h1
  · simp only [Value.slice.injEq, Option.some.injEq, Addr.mk.injEq, and_true, true_and] at h1
    obtain ⟨rfl, rfl⟩ := h1
    refine .inr ⟨g, c, cur.setIfInBounds q v, rfl, hbg, ?_, hnc, hcm, by simpa using hcs, ?_⟩
    · rw [setCell_eq_setRow W g q cur e (0, 0) v hg]
      exact setRow_heap W g cur _ e _ hg
    · rw [Array.toList_setIfInBounds, List.take_set, htake]
theorem row_field {W : World} {B n c g : Nat} {e : TypeId} {L : List Lk} (h : W.ownsRow B e 4 (.slice (some ⟨g, 0, none⟩) n c) n (L.flatMap encLk)) {i r : Nat} {x x' : Lk} {v : Value} (hx : L[i]? = some x) (hr : r < 4) (hv : encLk x' = (encLk x).set r v) : (W.setCell ⟨g, i * 4 + r, none⟩ v).ownsRow B e 4 (.slice (some ⟨g, 0, none⟩) n c) n ((L.set i x').flatMap encLk) := by
  rw [flat_set (f := encLk) (size := 4) (fun _ => rfl) L i x x' r v hx hr hv]
  exact row_set1 h _ _
theorem row_link {W : World} {B n c g : Nat} {e : TypeId} {L : List Lk} (h : W.ownsRow B e 4 (.slice (some ⟨g, 0, none⟩) n c) n (L.flatMap encLk)) {i : Nat} (x : Lk) (hi : i < L.length) : ((((W.setCell ⟨g, i * 4, none⟩ (.int .i64 x.1.m)).setCell ⟨g, i * 4 + 1, none⟩ (.int .i64 x.1.h)).setCell ⟨g, i * 4 + 2, none⟩ (.int .i64 x.1.v)).setCell ⟨g, i * 4 + 3, none⟩ (.int .u64 x.2)).ownsRow B e 4 (.slice (some ⟨g, 0, none⟩) n c) n ((L.set i x).flatMap encLk) := by
  have h1 := row_field h (i := i) (r := 0) (x := L[i]) (x' := (⟨x.1.m, L[i].1.h, L[i].1.v⟩, L[i].2)) (List.getElem?_eq_getElem hi) (by decide) rfl
  have h2 := row_field h1 (i := i) (r := 1) (x := (⟨x.1.m, L[i].1.h, L[i].1.v⟩, L[i].2)) (x' := (⟨x.1.m, x.1.h, L[i].1.v⟩, L[i].2)) (v := .int .i64 x.1.h) (by simp [hi]) (by decide) rfl
  have h3 := row_field h2 (i := i) (r := 2) (x := (⟨x.1.m, x.1.h, L[i].1.v⟩, L[i].2)) (x' := (⟨x.1.m, x.1.h, x.1.v⟩, L[i].2)) (v := .int .i64 x.1.v) (by simp [hi]) (by decide) rfl
  have h4 := row_field h3 (i := i) (r := 3) (x := (⟨x.1.m, x.1.h, x.1.v⟩, L[i].2)) (x' := x) (v := .int .u64 x.2) (by simp [hi]) (by decide) rfl
  simp only [List.set_set, Nat.add_zero] at h4
  exact h4
theorem row_frozen {W : World} {B size n c g : Nat} {e : TypeId} {xs : List Value} (h : W.ownsRow B e size (.slice (some ⟨g, 0, none⟩) n c) n xs) (q : Nat) : W.frozen? ⟨g, q, none⟩ = false := by
  rcases h.2 with ⟨h1, _⟩ | ⟨g', cap', cur, h1, hbg, hg, hnc, hcm, hcs, htake⟩
  · simp at h1
  · simp only [Value.slice.injEq, Option.some.injEq, Addr.mk.injEq, and_true, true_and] at h1
    obtain ⟨rfl, rfl⟩ := h1
    simp [World.frozen?, hg]
theorem row_some {W : World} {B size n c : Nat} {e : TypeId} {A : Option Addr} {xs : List Value} (h : W.ownsRow B e size (.slice A n c) n xs) (hn : 0 < n) : ∃ g, A = some ⟨g, 0, none⟩ := by
  rcases h.2 with ⟨h1, h2⟩ | ⟨g', cap', cur, h1, hbg, hg, hnc, hcm, hcs, htake⟩
  · omega
  · simp only [Value.slice.injEq] at h1
    exact ⟨g', h1.1⟩
theorem row_lk {W : World} {B n c g : Nat} {e : TypeId} {L : List Lk} (h : W.ownsRow B e 4 (.slice (some ⟨g, 0, none⟩) n c) n (L.flatMap encLk)) (hl : L.length = n) {k : Nat} (hk : k < n) : W.cell? ⟨g, k * 4, none⟩ = some (.int .i64 (lkA L k).1.m) ∧ W.cell? ⟨g, k * 4 + 1, none⟩ = some (.int .i64 (lkA L k).1.h) ∧ W.cell? ⟨g, k * 4 + 2, none⟩ = some (.int .i64 (lkA L k).1.v) ∧ W.cell? ⟨g, k * 4 + 3, none⟩ = some (.int .u64 (lkA L k).2) := by
  obtain ⟨b, o, e1, _, c0, c1, c2, c3⟩ := lk_at (row_rd (f := encLk) (fun _ => rfl) hl h) hk
  simp only [Option.some.injEq, Addr.mk.injEq, and_true] at e1
  obtain ⟨rfl, rfl⟩ := e1
  rw [Nat.zero_add] at c0 c1 c2 c3
  exact ⟨c0, c1, c2, c3⟩
theorem lkA_get {L : List Lk} {k : Nat} (hk : k < L.length) : L[k]? = some (lkA L k) := by
  unfold lkA
  rw [List.getD_eq_getElem?_getD, List.getElem?_eq_getElem hk]
  rfl
theorem lkA_set (L : List Lk) (i p : Nat) (x : Lk) (hi : i < L.length) : lkA (L.set i x) p = if p = i then x else lkA L p := by
  unfold lkA
  rw [List.getD_eq_getElem?_getD, List.getD_eq_getElem?_getD, List.getElem?_set]
  by_cases h : p = i
  · subst h; simp [hi]
  · rw [if_neg h, if_neg (fun e => h e.symm)]
theorem lkA_erase (L : List Lk) (i p : Nat) : lkA (L.eraseIdx i) p = lkA L (if p < i then p else p + 1) := by
  unfold lkA
  rw [List.getD_eq_getElem?_getD, List.getD_eq_getElem?_getD, List.getElem?_eraseIdx]
  split <;> rfl
/-- Links whose readings are those of others, but for values. -/
theorem ok_via {L L' : List Lk} (h : RgsOk (L.map Prod.fst)) (σ : Nat → Nat) (hσ : ∀ p, p < L'.length → σ p < L.length ∧ (lkA L' p).1.slot = (lkA L (σ p)).1.slot ∧ RgOk (lkA L' p).1) (hi : ∀ p q, p < q → q < L'.length → σ p ≠ σ q) : RgsOk (L'.map Prod.fst) := by
  refine ⟨fun p hp => ?_, fun p q hpq hq => ?_⟩
  · rw [lk_rg]; rw [List.length_map] at hp; exact (hσ p hp).2.2
  · rw [List.length_map] at hq
    rw [lk_rg, lk_rg, (hσ p (by omega)).2.1, (hσ q hq).2.1]
    have h1 := (hσ p (by omega)).1
    have h2 := (hσ q hq).1
    rcases Nat.lt_or_gt_of_ne (hi p q hpq hq) with h3 | h3
    · have := h.dis _ _ h3 (by rw [List.length_map]; exact h2)
      rwa [lk_rg, lk_rg] at this
    · have := h.dis _ _ h3 (by rw [List.length_map]; exact h1)
      rw [lk_rg, lk_rg] at this
      exact fun e => this e.symm
theorem ok_at {L : List Lk} (h : RgsOk (L.map Prod.fst)) {p : Nat} (hp : p < L.length) : RgOk (lkA L p).1 := by
  have := h.ok p (by rw [List.length_map]; exact hp)
  rwa [lk_rg] at this
theorem ok_set {L : List Lk} (h : RgsOk (L.map Prod.fst)) (i : Nat) (x : Lk) (hi : i < L.length) (hs : x.1.slot = (lkA L i).1.slot) (ho : RgOk x.1) : RgsOk ((L.set i x).map Prod.fst) := by
  refine ok_via h id (fun p hp => ?_) (fun p q hpq _ => by simp; omega)
  rw [List.length_set] at hp
  rw [lkA_set _ _ _ _ hi]
  by_cases e : p = i
  · subst e; rw [if_pos rfl]; exact ⟨hp, hs, ho⟩
  · rw [if_neg e]; exact ⟨hp, rfl, ok_at h hp⟩
theorem ok_erase {L : List Lk} (h : RgsOk (L.map Prod.fst)) (i : Nat) (hi : i < L.length) : RgsOk ((L.eraseIdx i).map Prod.fst) := by
  have hl : (L.eraseIdx i).length = L.length - 1 := by rw [List.length_eraseIdx, if_pos hi]
  refine ok_via h (fun p => if p < i then p else p + 1) (fun p hp => ?_) (fun p q hpq _ => by split <;> split <;> omega)
  rw [hl] at hp
  rw [lkA_erase]
  have h1 : (if p < i then p else p + 1) < L.length := by split <;> omega
  exact ⟨h1, rfl, ok_at h h1⟩
theorem ok_swap {L : List Lk} (h : RgsOk (L.map Prod.fst)) (i k : Nat) (hi : i < L.length) (hk : k < L.length) : RgsOk (((L.set i (lkA L k)).set k (lkA L i)).map Prod.fst) := by
  refine ok_via h (fun p => if p = k then i else if p = i then k else p) (fun p hp => ?_) (fun p q hpq _ => by split <;> split <;> (try split) <;> (try split) <;> omega)
  rw [List.length_set, List.length_set] at hp
  rw [lkA_set _ _ _ _ (by rw [List.length_set]; exact hk), lkA_set _ _ _ _ hi]
  by_cases e : p = k
  · rw [if_pos e, if_pos e]; exact ⟨hi, rfl, ok_at h hi⟩
  · rw [if_neg e, if_neg e]
    by_cases e2 : p = i
    · rw [if_pos e2, if_pos e2]; exact ⟨hk, rfl, ok_at h hk⟩
    · rw [if_neg e2, if_neg e2]; exact ⟨hp, rfl, ok_at h hp⟩
theorem chL_map (key : Int) (l : List Rg) : (chL key l l.length).map Prod.fst = l := by
  apply List.ext_getElem
  · simp [chL]
  · intro i h1 h2
    simp [chL, rgA, h2]
theorem lkA_ch (key : Int) (l : List Rg) (n i : Nat) (h : i < n) : lkA (chL key l n) i = (rgA l i, sgK key l (i + 1)) := by
  unfold lkA chL
  rw [List.getD_eq_getElem?_getD, List.getElem?_map, List.getElem?_range h]
  rfl
theorem bad_none (key : Int) (l : List Rg) : BadAt key (chL key l l.length) l.length l.length := by
  refine ⟨Nat.le_refl _, fun i hi => ?_, fun h => absurd h (Nat.lt_irrefl _)⟩
  rw [chL_map, lkA_ch _ _ _ _ hi]
end Go.Proofs.Ytcecbohaajocfaa
