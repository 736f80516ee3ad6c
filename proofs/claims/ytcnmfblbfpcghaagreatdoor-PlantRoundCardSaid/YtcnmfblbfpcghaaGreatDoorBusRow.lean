/- Lists of lists of the call's own; the islands of a list of homes. -/
import Derived.Test.YtcnmfblbfpcghaaGreatDoorConn
import Derived.Test.YtcnmfblbfpcghaaGreatDoorClash
import Derived.Laws.OwnMore

set_option linter.unusedSimpArgs false
set_option linter.unusedVariables false
namespace Go.Proofs.YtcnmfblbfpcghaaGreatDoor
open Go.RowKit Go.Shelf

/-- Lists of whole numbers, each in a row of its own. -/
structure Rows (w : World) (n₀ : Nat) (vs : List Value) (fl : List (List Int)) : Prop where
  len : vs.length = fl.length
  own : ∀ (k : Nat) v xs, vs[k]? = some v → fl[k]? = some xs → w.ownsRow n₀ 3 1 v xs.length (xs.map (Value.int .i64))
  apart : ∀ (j k : Nat) u v, vs[j]? = some u → vs[k]? = some v → j ≠ k → ∀ g, u.ownBlock = some g → v.ownBlock ≠ some g
theorem Rows.nil (w : World) (n₀ : Nat) : Rows w n₀ [] [] := ⟨rfl, fun k v xs h => by simp at h, fun j k u v h => by simp at h⟩
theorem Rows.get {w : World} {n₀ : Nat} {vs : List Value} {fl : List (List Int)} (h : Rows w n₀ vs fl) {k : Nat} {v : Value} (hv : vs[k]? = some v) : ∃ xs, fl[k]? = some xs := by
  have h1 := (List.getElem?_eq_some_iff.1 hv).1
  rw [h.len] at h1
  exact ⟨_, List.getElem?_eq_getElem h1⟩
theorem Rows.kept {w w' : World} {n₀ : Nat} {vs : List Value} {fl : List (List Int)} {row : Option Nat} (h : Rows w n₀ vs fl) (hg : w.grownBy w' row) (hr : ∀ (k : Nat) (v : Value), vs[k]? = some v → v.ownBlock = none ∨ v.ownBlock ≠ row) : Rows w' n₀ vs fl :=
  ⟨h.len, fun k v xs hv hx => (h.own k v xs hv hx).kept hg (hr k v hv), h.apart⟩
theorem Rows.still {w w' : World} {n₀ : Nat} {vs : List Value} {fl : List (List Int)} (h : Rows w n₀ vs fl) (hg : w.grownBy w' none) : Rows w' n₀ vs fl :=
  h.kept hg fun k v _ => by by_cases hu : v.ownBlock = none; exact .inl hu; exact .inr hu
theorem Rows.push2 {w : World} {n₀ : Nat} {vs : List Value} {fl : List (List Int)} (h : Rows w n₀ vs fl) : Rows w n₀ (vs ++ [.slice none 0 0, .slice none 0 0]) (fl ++ [[], []]) := by
  have hc : ∀ (k : Nat) v, (vs ++ [Value.slice none 0 0, .slice none 0 0])[k]? = some v → vs[k]? = some v ∨ (v = .slice none 0 0 ∧ vs.length ≤ k) := by
    intro k v hv
    rw [List.getElem?_append] at hv
    split at hv
    · exact .inl hv
    · rename_i hk
      have := List.mem_of_getElem? hv
      simp only [List.mem_cons, List.mem_nil_iff, or_false, or_self] at this
      exact .inr ⟨this, by omega⟩
  refine ⟨by simp [h.len], ?_, ?_⟩
  · intro k v xs hv hx
    rcases hc k v hv with h1 | ⟨rfl, h1⟩
    · have h2 := (List.getElem?_eq_some_iff.1 h1).1
      rw [List.getElem?_append_left (by rw [← h.len]; exact h2)] at hx
      exact h.own k v xs h1 hx
    · rw [List.getElem?_append_right (by rw [← h.len]; exact h1)] at hx
      have := List.mem_of_getElem? hx
      simp only [List.mem_cons, List.mem_nil_iff, or_false, or_self] at this
      subst this
      exact World.ownsRow_nil _ _ _ _
  · intro j k u v hu hv hjk g hg
    rcases hc j u hu with h1 | ⟨rfl, h1⟩
    · rcases hc k v hv with h2 | ⟨rfl, h2⟩
      · exact h.apart j k u v h1 h2 hjk g hg
      · simp [Value.ownBlock]
    · simp [Value.ownBlock] at hg
/-- One list gets longer. -/
theorem Rows.put {w w' : World} {n₀ n : Nat} {vs : List Value} {fl : List (List Int)} (h : Rows w n₀ vs fl) {k : Nat} {v v' : Value} {ys : List Int} (hk : vs[k]? = some v) (hg : w.grownBy w' v.ownBlock)
    (hown : w'.ownsRow n₀ 3 1 v' ys.length (ys.map (Value.int .i64))) (hn : w.heap.size ≤ n) (hat : v'.ownBlock = v.ownBlock ∨ v'.ownBlock = some n) : Rows w' n₀ (vs.set k v') (fl.set k ys) := by
  have hkl := (List.getElem?_eq_some_iff.1 hk).1
  have hlt : ∀ (j : Nat) u, vs[j]? = some u → ∀ g, u.ownBlock = some g → g < w.heap.size := by
    intro j u hu g hg
    obtain ⟨zs, hz⟩ := h.get hu
    exact ((h.own j u zs hu hz).lt g hg).2
  refine ⟨by simp [h.len], ?_, ?_⟩
  · intro j u zs hu hz
    rw [List.getElem?_set] at hu hz
    split at hu
    · rename_i e
      subst e
      rw [if_pos rfl, if_pos (by rw [← h.len]; exact hkl)] at hz
      cases hu
      cases hz
      exact hown
    · rename_i e
      rw [if_neg e] at hz
      refine (h.own j u zs hu hz).kept hg ?_
      cases hb : u.ownBlock with
      | none => exact .inl rfl
      | some g => exact .inr fun e' => h.apart j k u v hu hk (fun x => e x.symm) g hb e'.symm
  · intro i j a b ha hb hij g hga
    rw [List.getElem?_set] at ha hb
    split at ha
    · rename_i e
      subst e
      cases ha
      rw [if_neg hij] at hb
      intro hgb
      rcases hat with h1 | h1
      · exact h.apart j k b v hb hk (fun x => hij x.symm) g hgb (h1 ▸ hga)
      · have h2 := hlt j b hb g hgb
        rw [h1] at hga
        cases hga
        omega
    · rename_i e
      split at hb
      · rename_i e2
        subst e2
        cases hb
        intro hgb
        rcases hat with h1 | h1
        · exact h.apart i k a v ha hk (fun x => e x.symm) g hga (h1 ▸ hgb)
        · have h2 := hlt i a ha g hga
          rw [h1] at hgb
          cases hgb
          omega
      · exact h.apart i j a b ha hb hij g hga

/-- Homes: -1, or the least bus of an island, whose home is itself. -/
def HomesOk (B : Nat) (H : List Int) : Prop := H.length = B ∧ ∀ (b : Nat) h, H[b]? = some h → h = -1 ∨ ∃ r : Nat, r ≤ b ∧ h = (r : Int) ∧ H[r]? = some (r : Int)
def rootsTo (H : List Int) (k : Nat) : List Nat := (List.range k).filter fun i => H[i]? = some (i : Int)
def busesTo (H : List Int) (k r : Nat) : List Int := ((List.range k).filter fun b => H[b]? = some (r : Int)).map fun b : Nat => (b : Int)
theorem rootsTo_succ (H : List Int) (k : Nat) : rootsTo H (k + 1) = rootsTo H k ++ if H[k]? = some (k : Int) then [k] else [] := by
  unfold rootsTo
  rw [List.range_succ, List.filter_append]
  congr 1
  by_cases h : H[k]? = some (k : Int) <;> simp [h]
theorem busesTo_succ (H : List Int) (k r : Nat) : busesTo H (k + 1) r = busesTo H k r ++ if H[k]? = some (r : Int) then [(k : Int)] else [] := by
  unfold busesTo
  rw [List.range_succ, List.filter_append, List.map_append]
  congr 1
  by_cases h : H[k]? = some (r : Int) <;> simp [h]
theorem mem_rootsTo {H : List Int} {k r : Nat} : r ∈ rootsTo H k ↔ r < k ∧ H[r]? = some (r : Int) := by simp [rootsTo]
theorem rootsTo_nodup (H : List Int) (k : Nat) : (rootsTo H k).Nodup := List.Pairwise.filter _ List.nodup_range
theorem rootsTo_length (H : List Int) (k : Nat) : (rootsTo H k).length ≤ k := by
  have := List.length_filter_le (fun i : Nat => decide (H[i]? = some (i : Int))) (List.range k)
  simpa [rootsTo] using this
theorem busesTo_length (H : List Int) (k r : Nat) : (busesTo H k r).length ≤ k := by
  have := List.length_filter_le (fun b : Nat => decide (H[b]? = some (r : Int))) (List.range k)
  simpa [busesTo] using this
theorem busesTo_none {H : List Int} {B : Nat} (hH : HomesOk B H) (k : Nat) : busesTo H k k = [] := by
  unfold busesTo
  rw [List.map_eq_nil_iff, List.filter_eq_nil_iff]
  intro b hb hc
  rw [decide_eq_true_eq] at hc
  rw [List.mem_range] at hb
  rcases hH.2 b _ hc with h | ⟨r, h1, h2, _⟩ <;> omega
theorem conn_good {B : Nat} {s : Stt} {L : List (LnkOf B)} {n i j : Nat} (h : Joined (condTo s L n) i j) : i = j ∨ (bit s.badBus i = false ∧ bit s.badBus j = false) := by
  have hl : ∀ x ∈ condTo s L n, bit s.badBus x.1.a.toNat = false ∧ bit s.badBus x.1.b.toNat = false := by
    intro x hx
    obtain ⟨k, _, _, hc⟩ := (mem_condTo s L n x).1 hx
    simp only [conds, Bool.and_eq_true, Bool.not_eq_true'] at hc
    exact ⟨hc.1.2, hc.2⟩
  induction h with
  | base e => exact .inl e
  | link hx => exact .inr (hl _ hx)
  | symm _ ih => rcases ih with h | h; exact .inl h.symm; exact .inr ⟨h.2, h.1⟩
  | trans _ _ ih1 ih2 =>
    rcases ih1 with rfl | h1
    · exact ih2
    · rcases ih2 with rfl | h2
      · exact .inr h1
      · exact .inr ⟨h1.1, h2.2⟩
theorem homesOk {B : Nat} (p : Plt) (s : Stt) (L : List (LnkOf B)) : HomesOk B (homeL p s L) := by
  refine ⟨(homeL_isls p s L).1, fun b h hb => ?_⟩
  have hbB : b < B := by
    have := (List.getElem?_eq_some_iff.1 hb).1
    rwa [(homeL_isls p s L).1] at this
  rw [homeL_get p s L b hbB] at hb
  cases hb
  by_cases hbad : bit s.badBus b = true
  · exact .inl (by simp [homeAt, hbad])
  · rw [Bool.not_eq_true] at hbad
    obtain ⟨f, hf⟩ : ∃ f, joinAll (List.range B) (condTo s L p.ln) = f := ⟨_, rfl⟩
    have hfit := joinAll_fit (List.range B) (range_down B) (condTo s L p.ln)
    rw [hf, List.length_range] at hfit
    have hr := rootOf_le f b
    have hrB : rootOf f b < B := by omega
    have hself := rootOf_end (rootOf_self hfit.2 b (by rw [hfit.1]; exact hbB))
    have hgood : bit s.badBus (rootOf f b) = false := by
      have h1 : Joined (condTo s L p.ln) (rootOf f b) b := by
        rw [← root_joined, hf]
        exact hself
      rcases conn_good h1 with e | e
      · rw [e]; exact hbad
      · exact e.1
    refine .inr ⟨rootOf f b, hr, by simp [homeAt, hbad, hf], ?_⟩
    rw [homeL_get p s L _ hrB, hf]
    simp [homeAt, hgood, hself]
end Go.Proofs.YtcnmfblbfpcghaaGreatDoor

/- The list of islands while it grows. -/
namespace Go.Proofs.YtcnmfblbfpcghaaGreatDoor
open Go.RowKit Go.Shelf

theorem own_row {W : World} {n₀ : Nat} {e : TypeId} {size k : Nat} {v : Value} {xs : List Value} {row : Option Nat} (h : W.ownsRow n₀ e size v k xs) (hr : ∀ r, row = some r → ∃ o : Obj, W.heap[r]? = some o ∧ o.isCells = false) : v.ownBlock = none ∨ v.ownBlock ≠ row := by
  rcases h.2 with ⟨rfl, _⟩ | ⟨g, cap, cur, rfl, _, hgb, _⟩
  · exact .inl rfl
  · refine .inr fun e' => ?_
    obtain ⟨o, ho, hc⟩ := hr g (by simpa [Value.ownBlock] using e'.symm)
    rw [hgb] at ho
    cases ho
    cases hc
/-- Rows of different types are apart. -/
theorem own_types {W : World} {n₀ n₁ : Nat} {e e' : TypeId} {size size' k k' : Nat} {v v' : Value} {xs xs' : List Value} (h : W.ownsRow n₀ e size v k xs) (h' : W.ownsRow n₁ e' size' v' k' xs') (hne : e ≠ e') : v.ownBlock = none ∨ v.ownBlock ≠ v'.ownBlock := by
  rcases h.2 with ⟨rfl, _⟩ | ⟨g, cap, cur, rfl, _, hgb, _⟩
  · exact .inl rfl
  · rcases h'.2 with ⟨rfl, _⟩ | ⟨g', cap', cur', rfl, _, hgb', _⟩
    · exact .inr (by simp [Value.ownBlock])
    · refine .inr fun e1 => ?_
      simp only [Value.ownBlock, Option.some.injEq] at e1
      subst e1
      have h1 := hgb.symm.trans hgb'
      simp only [Option.some.injEq, Obj.cells.injEq] at h1
      exact hne h1.2.1
structure IslC (n₀ Bl pg n : Nat) (v : Value) (vs : List Value) (fl : List (List Int)) (P : List Int) (W : World) : Prop where
  box : Boxed W Bl 63 v
  own : W.ownsRow n₀ 156 2 v n vs
  rows : Rows W n₀ vs fl
  plc : IntB W pg P
theorem IslC.keep {n₀ Bl pg n : Nat} {v : Value} {vs : List Value} {fl : List (List Int)} {P : List Int} {W W' : World} {row : Option Nat} (h : IslC n₀ Bl pg n v vs fl P W) (hg : W.grownBy W' row)
    (hr : ∀ r, row = some r → ∃ o : Obj, W.heap[r]? = some o ∧ o.isCells = false) : IslC n₀ Bl pg n v vs fl P W' := by
  have hb : ∀ i T cs, Blk W i T cs → some i ≠ row := fun i T cs hb e => by
    obtain ⟨o, ho, hc⟩ := hr i e.symm
    rw [show W.heap[i]? = _ from hb] at ho
    cases ho
    cases hc
  refine ⟨Boxed.kept h.box hg (hb _ _ _ h.box), h.own.kept hg (own_row h.own hr), h.rows.kept hg fun k v hv => ?_, Blk.kept h.plc hg (hb _ _ _ h.plc)⟩
  obtain ⟨xs, hx⟩ := h.rows.get hv
  exact own_row (h.rows.own k v xs hv hx) hr
theorem IslC.place {n₀ Bl pg n : Nat} {v : Value} {vs : List Value} {fl : List (List Int)} {P : List Int} {W : World} (h : IslC n₀ Bl pg n v vs fl P W) (hp : pg < n₀) (hne : Bl ≠ pg) (k : Nat) (x : Int) :
    IslC n₀ Bl pg n v vs fl (P.set k x) (W.setCell ⟨pg, k, none⟩ (.int .i64 x)) := by
  have hg := grownBy_setAt W pg k (.int .i64 x)
  refine ⟨Boxed.kept h.box hg (by simpa using hne), h.own.kept hg (.inr (own_ge h.own hp).symm), h.rows.kept hg fun k v hv => ?_, IntB.set_ h.plc k x⟩
  obtain ⟨xs, hx⟩ := h.rows.get hv
  exact .inr (own_ge (h.rows.own k v xs hv hx) hp).symm
/-- An island more. -/
theorem IslC.push {n₀ Bl pg n b : Nat} {v v' : Value} {vs : List Value} {fl : List (List Int)} {P : List Int} {W w1 : World} {tmp : Obj} (h : IslC n₀ Bl pg n v vs fl P W) (hB : Bl < n₀) (hb : b ≤ Bl) (hp : pg < n₀) (hne : Bl ≠ pg) (hn₀ : n₀ ≤ W.heap.size)
    (hown : w1.ownsRow n₀ 156 2 v' (n + 1) (vs ++ [.slice none 0 0, .slice none 0 0])) (hg : (W.alloc tmp).grownBy w1 v.ownBlock) :
    Boxed w1 Bl 63 v ∧ IslC n₀ Bl pg (n + 1) v' (vs ++ [.slice none 0 0, .slice none 0 0]) (fl ++ [[], []]) P (w1.setCell ⟨Bl, 0, none⟩ v') ∧ KeepsOthers W (w1.setCell ⟨Bl, 0, none⟩ v') ∧ Below b W (w1.setCell ⟨Bl, 0, none⟩ v') ∧ (∀ i T cs, i ≠ Bl → i < n₀ → Blk W i T cs → Blk (w1.setCell ⟨Bl, 0, none⟩ v') i T cs) := by
  obtain ⟨q1, q2, q3, q4, q5, q6, q7⟩ := Boxed.appended2 (b := b) h.box (by decide) h.own hn₀ hB hb hown hg
  refine ⟨q1, ⟨q2, q3, ?_, q7 _ _ _ hne.symm (own_ge h.own hp) h.plc⟩, q4, q5, fun i T cs hi hin hbk => q7 i T cs hi (own_ge h.own hin) hbk⟩
  refine Rows.push2 ?_
  refine ((h.rows.still (World.grownBy_alloc W tmp none)).kept hg fun k u hu => ?_).kept (grownBy_setCell' w1 Bl v') fun k u hu => ?_
  · obtain ⟨xs, hx⟩ := h.rows.get hu
    exact own_types (h.rows.own k u xs hu hx) h.own (by decide)
  · obtain ⟨xs, hx⟩ := h.rows.get hu
    exact .inr (own_ge (h.rows.own k u xs hu hx) hB).symm
/-- A bus, or a source, more in an island. -/
theorem IslC.put {n₀ Bl pg n b k gl cap : Nat} {u u' : Value} {vs : List Value} {fl : List (List Int)} {P xs : List Int} {x : Int} {W w1 : World} {tmp : Obj} (h : IslC n₀ Bl pg n (.slice (some ⟨gl, 0, none⟩) n cap) vs fl P W) (hB : Bl < n₀) (hb : b ≤ n₀) (hp : pg < n₀) (hn₀ : n₀ ≤ W.heap.size)
    (hu : vs[k]? = some u) (hx : fl[k]? = some xs)
    (hown : w1.ownsRow n₀ 3 1 u' (xs.length + 1) (xs.map (Value.int .i64) ++ [.int .i64 x])) (hg : (W.alloc tmp).grownBy w1 u.ownBlock) (hat : u'.ownBlock = u.ownBlock ∨ u'.ownBlock = some (W.heap.size + 1)) :
    (w1.cell? ⟨gl, k, none⟩ = some u ∧ w1.frozen? ⟨gl, k, none⟩ = false ∧ gl < w1.heap.size) ∧ IslC n₀ Bl pg n (.slice (some ⟨gl, 0, none⟩) n cap) (vs.set k u') (fl.set k (xs ++ [x])) P (w1.setCell ⟨gl, k, none⟩ u') ∧ KeepsOthers W (w1.setCell ⟨gl, k, none⟩ u') ∧ Below b W (w1.setCell ⟨gl, k, none⟩ u') ∧
      (∀ Sf : Nat → Prop, (∀ i, Sf i → i < n₀ ∨ ∃ T cs, Blk W i T cs ∧ T ≠ 3 ∧ T ≠ 156) → KpS Sf W (w1.setCell ⟨gl, k, none⟩ u')) ∧ (∀ i T cs, i < n₀ ∨ (T ≠ 3 ∧ T ≠ 156) → Blk W i T cs → Blk (w1.setCell ⟨gl, k, none⟩ u') i T cs) := by
  have h0 := h.keep (World.grownBy_alloc W tmp none) (by simp)
  have hru := h0.rows.own k u xs hu hx
  have hrl : w1.ownsRow n₀ 156 2 (.slice (some ⟨gl, 0, none⟩) n cap) n vs := h0.own.kept hg (own_types h0.own hru (by decide))
  have hgl : n₀ ≤ gl ∧ gl < w1.heap.size := hrl.lt gl rfl
  have hst := hrl.stored k u'
  have hglu : u'.ownBlock = none ∨ u'.ownBlock ≠ some gl := own_types hown hrl (by decide)
  have hrows : Rows w1 n₀ (vs.set k u') (fl.set k (xs ++ [x])) := h0.rows.put hu hg (by simpa using hown) (n := W.heap.size + 1) (by simp) hat
  have hrows2 : Rows (w1.setCell ⟨gl, k, none⟩ u') n₀ (vs.set k u') (fl.set k (xs ++ [x])) := hrows.kept hst.2 fun j y hy => by
    obtain ⟨zs, hz⟩ := hrows.get hy
    exact own_types (hrows.own j y zs hy hz) hrl (by decide)
  have hblk : ∀ i T cs, i < n₀ ∨ (T ≠ 3 ∧ T ≠ 156) → Blk W i T cs → Blk (w1.setCell ⟨gl, k, none⟩ u') i T cs := by
    intro i T cs hi hbk
    have e1 : some i ≠ u.ownBlock ∧ i ≠ gl := by
      rcases hi with hi | ⟨h1, h2⟩
      · exact ⟨own_ge hru hi, by omega⟩
      · exact ⟨own_ne hru (hbk.alloc _) h1, fun e => own_ne h.own hbk h2 (by rw [e]; rfl)⟩
    exact ((hbk.alloc tmp).kept hg e1.1).kept hst.2 (by simpa using e1.2)
  refine ⟨⟨?_, ?_, hgl.2⟩, ⟨?_, hst.1, hrows2, hblk _ _ _ (.inl hp) h.plc⟩, ?_, ?_, ?_, hblk⟩
  · have := hrl.cells (g := gl) rfl k u hu
    by_cases hk0 : k = 0
    · subst hk0
      simpa [Addr.add] using this
    · simpa [Addr.add, hk0] using this
  · rcases hrl.2 with ⟨e, _⟩ | ⟨g, cap', cur, e, _, hgb, _⟩
    · cases e
    · simp only [Value.slice.injEq, Option.some.injEq, Addr.mk.injEq, and_true, true_and] at e
      obtain ⟨rfl, rfl⟩ := e
      exact Blk.frozen hgb k
  · exact hblk _ _ _ (.inl hB) h.box
  · refine ((KeepsOthers.alloc W tmp).trans (KeepsOthers.of_grownBy hg fun j o ej hj => ?_)).trans (KeepsOthers.of_grownBy hst.2 fun j o ej hj => ?_)
    · rcases hru.2 with ⟨rfl, _⟩ | ⟨g, cap, cur, rfl, _, hgb, _⟩
      · simp [Value.ownBlock] at ej
      · obtain rfl : g = j := by simpa [Value.ownBlock] using ej
        rw [hgb] at hj; cases hj; rfl
    · cases ej
      rcases hrl.2 with ⟨e, _⟩ | ⟨g, cap', cur, e, _, hgb, _⟩
      · cases e
      · simp only [Value.slice.injEq, Option.some.injEq, Addr.mk.injEq, and_true, true_and] at e
        obtain ⟨rfl, rfl⟩ := e
        rw [hgb] at hj; cases hj; rfl
  · refine (((Below.refl b W).alloc (by omega) tmp).grown hg (by simp; omega) fun j ej => ?_).grown hst.2 ?_ fun j ej => ?_
    · have := (hru.lt j ej).1
      omega
    · have := hg.size
      simp at this
      omega
    · cases ej
      omega
  · intro Sf hS
    refine ((KpS.grown (World.grownBy_alloc W tmp none) (by simp)).trans (KpS.grown hg fun r er hr => ?_)).trans (KpS.grown hst.2 fun r er hr => ?_)
    · rcases hS r hr with h1 | ⟨T, cs, h1, h2, h3⟩
      · exact own_ge hru h1 er.symm
      · exact own_ne hru (h1.alloc _) h2 er.symm
    · cases er
      rcases hS _ hr with h1 | ⟨T, cs, h1, h2, h3⟩
      · omega
      · exact own_ne h.own h1 h3 rfl
end Go.Proofs.YtcnmfblbfpcghaaGreatDoor
