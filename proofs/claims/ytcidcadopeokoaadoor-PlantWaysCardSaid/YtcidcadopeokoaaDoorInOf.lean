/- Which island a bus is in, as the law counts it. Nothing here walks. -/
import Derived.Test.YtcidcadopeokoaaDoorWayLive
namespace Go.Proofs.YtcidcadopeokoaaDoor
open Go.RowKit
/-- At island i, behind n of its buses: a bus of an earlier island, or one of the n, has the island's number + 1; every other has 0. -/
structure InOk (H : List Int) (R : List Nat) (i n : Nat) (W : List Int) : Prop where
  len : W.length = H.length
  isl : ∀ (b j r : Nat), H[b]? = some (r : Int) → R[j]? = some r → W[b]? = some (if j < i ∨ (j = i ∧ (b : Int) ∈ (busesTo H H.length r).take n) then (j : Int) + 1 else 0)
  bad : ∀ b : Nat, H[b]? = some (-1) → W[b]? = some 0
theorem InOk.start (H : List Int) (R : List Nat) : InOk H R 0 0 (List.replicate H.length 0) := by
  refine ⟨by simp, fun b j r hb hj => ?_, fun b hb => ?_⟩
  · have := (List.getElem?_eq_some_iff.1 hb).1
    simp [List.getElem?_replicate, this]
  · have := (List.getElem?_eq_some_iff.1 hb).1
    simp [List.getElem?_replicate, this]
theorem InOk.put {H : List Int} {R : List Nat} {i n r : Nat} {W : List Int} {x : Int} (h : InOk H R i n W) (hR : R.Nodup) (hi : R[i]? = some r) (hx : (busesTo H H.length r)[n]? = some x) : InOk H R i (n + 1) (W.set x.toNat ((i : Int) + 1)) := by
  obtain ⟨c, hc, hcr, rfl⟩ := mem_busesTo.1 (List.mem_of_getElem? hx)
  simp only [Int.toNat_natCast]
  refine ⟨by simp [h.len], fun b j r' hb hj => ?_, fun b hb => ?_⟩
  · by_cases e : c = b
    · subst e
      rw [hcr] at hb
      obtain rfl : r = r' := by have := Option.some.inj hb; omega
      obtain rfl : i = j := nodup_get hR hi hj
      have hm : (c : Int) ∈ (busesTo H H.length r).take (n + 1) := by
        rw [List.take_add_one, hx]
        simp
      rw [List.getElem?_set_self (by rw [h.len]; exact hc), if_pos (.inr ⟨rfl, hm⟩)]
    · rw [List.getElem?_set_ne e, h.isl b j r' hb hj]
      congr 1
      by_cases hji : j = i
      · subst hji
        obtain rfl : r = r' := by rw [hi] at hj; exact Option.some.inj hj
        rw [List.take_add_one, hx]
        have : ((b : Int) = (c : Int)) = False := by simp; omega
        simp [this]
      · simp [hji]
  · have e : c ≠ b := fun e => by
      subst e
      rw [hcr] at hb
      have := Option.some.inj hb
      omega
    rw [List.getElem?_set_ne e]
    exact h.bad b hb
theorem InOk.next {H : List Int} {R : List Nat} {i n r : Nat} {W : List Int} (h : InOk H R i n W) (hi : R[i]? = some r) (hn : n = (busesTo H H.length r).length) : InOk H R (i + 1) 0 W := by
  subst hn
  refine ⟨h.len, fun b j r' hb hj => ?_, h.bad⟩
  rw [h.isl b j r' hb hj]
  congr 1
  by_cases hji : j = i
  · subst hji
    obtain rfl : r = r' := by rw [hi] at hj; exact Option.some.inj hj
    have hm : (b : Int) ∈ busesTo H H.length r := mem_busesTo.2 ⟨b, (List.getElem?_eq_some_iff.1 hb).1, hb, rfl⟩
    simp [hm]
  · have : (j < i ∨ j = i ∧ (b : Int) ∈ (busesTo H H.length r').take (busesTo H H.length r).length) = (j < i + 1 ∨ j = i + 1 ∧ (b : Int) ∈ (busesTo H H.length r').take 0) := by
      simp [hji]
      omega
    simp only [this]
/-- A bus that is not yet counted has 0. -/
theorem InOk.fresh {H : List Int} {R : List Nat} {i n r : Nat} {W : List Int} {x : Int} (h : InOk H R i n W) (hi : R[i]? = some r) (hx : (busesTo H H.length r)[n]? = some x) : W[x.toNat]? = some 0 := by
  obtain ⟨c, hc, hcr, rfl⟩ := mem_busesTo.1 (List.mem_of_getElem? hx)
  simp only [Int.toNat_natCast]
  rw [h.isl c i r hcr hi, if_neg]
  rintro (h1 | ⟨_, h2⟩)
  · omega
  · obtain ⟨m, hm, e⟩ := List.getElem_of_mem h2
    rw [List.length_take] at hm
    rw [List.getElem_take] at e
    obtain ⟨hn, e2⟩ := List.getElem?_eq_some_iff.1 hx
    have := List.pairwise_iff_getElem.1 (busesTo_sorted H H.length r) m n (by omega) hn (by omega)
    omega
/-- A bus of the island at hand, behind all of its buses. -/
theorem InOk.at_ {H : List Int} {R : List Nat} {i r b : Nat} {W : List Int} (h : InOk H R (i + 1) 0 W) (hi : R[i]? = some r) (hb : H[b]? = some (r : Int)) : W[b]? = some ((i : Int) + 1) := by
  rw [h.isl b i r hb hi, if_pos (.inl (by omega))]
/-- Behind all islands. -/
theorem InOk.all {H : List Int} {R : List Nat} {b j r : Nat} {W : List Int} (h : InOk H R R.length 0 W) (hj : R[j]? = some r) (hb : H[b]? = some (r : Int)) : W[b]? = some ((j : Int) + 1) := by
  rw [h.isl b j r hb hj, if_pos (.inl (List.getElem?_eq_some_iff.1 hj).1)]
end Go.Proofs.YtcidcadopeokoaaDoor
