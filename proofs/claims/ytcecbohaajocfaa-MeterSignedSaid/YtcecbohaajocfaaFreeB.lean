/- wp_region_free10 within a round of a loop over an iterator. Nothing here names the program. -/
import Derived.Test.YtcecbohaajocfaaFreeA
import Derived.Test.YtcecbohaajocfaaRound

set_option linter.unusedSimpArgs false
set_option linter.unusedVariables false
namespace Go.Proofs.Ytcecbohaajocfaa
open Go.RowKit
section
variable {P : Program} {ops : Array Oper} {Q : Exit → Act → World → Prop}
/-- THE RULE, with the frame written out behind the region. -/
theorem wpIn_round_free10 {l k : Nat} (hnd : noDefer ops.toList = true) (m : Nat) (hlast : lastOf ops m = true) {id : Nat} {tm : Array Value} {df : List Deferred} {w : World} (ds : List (Option Nat)) (af : List (List Nat)) (fx : List (Nat × Value)) (R : World → (Nat → Nat) → Prop) (φ : Nat → Value → World → (Nat → Nat) → Prop) (ψ : Nat → World → (Nat → Nat) → Prop) (hm : P.follows .mixedOrders = true) (hok : freeOk10 ops tm.size = true)
    (hds : ops.toList.map (·.dst) = ds) (haf : ops.toList.map bindsOn = af) (hfx : ∀ x ∈ fx, ((List.range ds.length).all fun j => j == m || ds.getD j none != some x.1) = true ∧ tm.getD x.1 undef = x.2)
    (hφ : ∀ (i : Nat) (v : Value) (w : World) (γ : Nat → Nat), ds[i]? = some none → φ i v w γ → φ i undef w γ) (h0 : ∃ γ, R w.drew γ ∧ ∀ i, i < ds.length → ψ i w.drew γ)
    (hs : Steps10 m P ds af fx (NQ Q) R φ ψ 0 ops.toList)
    (hend : ∀ vs w' γ, vs.length = ds.length → R w' γ → (∀ i, i < ds.length → φ i (vs.getD i undef) w' γ) → Q .normal { tmps := putAll tm ds vs, defers := df } w') :
    (Code.region id ops true).wpIn (Fence.wide.inRound l) k P Q { tmps := tm, defers := df } w := by
  have hlen : ds.length = ops.size := by rw [← hds]; simp
  obtain ⟨γ, hγ, hψ⟩ := h0
  have hdsn : ∀ (i : Nat) (o : Oper), ops[i]? = some o → ds[i]? = some o.dst := by
    intro i o ho
    rw [← hds, List.getElem?_map, Array.getElem?_toList, ho]
    rfl
  have hfree : ∀ x ∈ fx, ∀ (j : Nat) (y : Oper), j ≠ m → ops[j]? = some y → y.dst ≠ some x.1 := by
    intro x hx j y hjm hy e
    have h1 := (hfx x hx).1
    rw [List.all_eq_true] at h1
    have h2 := h1 j (List.mem_range.2 (by rw [hlen]; exact (Array.getElem?_eq_some_iff.1 hy).1))
    rw [List.getD_eq_getElem?_getD, hdsn j y hy, e] at h2
    simp [hjm] at h2
  refine wpIn_region_any hm (wpAnyIn_plain (fun j o ho c e => by
    have h1 := List.all_eq_true.1 hnd o (Array.mem_toList_iff.2 (Array.mem_of_getElem? ho))
    rw [e] at h1
    cases h1) _ _ _ _ (free_sound10 (Q := NQ Q) hlast (a0 := { tmps := tm, defers := df }) (R := R) (φ := φ) (ψ := ψ) (fun i o ho => (freeOk10_spec hok ho).2.1) (fun i o d ho hd => (freeOk10_spec hok ho).2.2 d hd)
    (fun i o v w γ ho hdst hv => hφ i v w γ (by rw [hdsn i o ho, hdst]) hv) (fun i o ho => ?_) (fun a' w' γ h1 h2 h3 h4 h5 => ?_) ops.size _ _ _ γ (by simp) (by simp) ?_))
  · have hstep := Steps10.get ops.toList 0 hs i o (by simpa using ho)
    rw [Nat.zero_add] at hstep
    have haf' : ∀ j, (∀ x, ops[j]? = some x → ∀ e ∈ x.after, Region.binds .any e = true → e.on ≠ i) → i ∉ af.getD j [] := by
      intro j hx hi
      rw [← haf, List.getD_eq_getElem?_getD, List.getElem?_map, Array.getElem?_toList] at hi
      cases hoj : ops[j]? with
      | none => rw [hoj] at hi; simp at hi
      | some x =>
        rw [hoj] at hi
        simp only [Option.map_some, Option.getD_some] at hi
        obtain ⟨e, he, h⟩ := List.mem_map.1 hi
        obtain ⟨h1, h2⟩ := List.mem_filter.1 he
        exact hx x hoj e (Array.mem_toList_iff.1 h1) h2 h
    intro a' w' γ' hrest hR hps hpre
    have hgd : ∀ j b, o.guard = some (j, b) → ∃ x, ops[j]? = some x ∧ left ds a'.eval j = valOf x a' := by
      intro j b e
      obtain ⟨e', he, rfl⟩ := List.mem_map.1 ((freeOk10_spec hok ho).1 j b e)
      obtain ⟨he, hbe⟩ := List.mem_filter.1 he
      have hlt := (freeOk10_spec hok ho).2.1 e' (Array.mem_toList_iff.1 he) hbe
      have hko : ops[e'.on]? = some (ops[e'.on]'(by have := (Array.getElem?_eq_some_iff.1 ho).1; omega)) := Array.getElem?_eq_getElem _
      exact ⟨_, hko, left_eq hds hko a'⟩
    obtain ⟨hy, hn⟩ := hstep a' w' γ' a'.eval (fun _ => rfl) (fun _ => rfl) (fun x hx => (hrest x.1 (hfree x hx)).trans (hfx x hx).2) hR hps (fun k hk => by
      obtain ⟨e, he, rfl⟩ := List.mem_map.1 hk
      obtain ⟨he, hbe⟩ := List.mem_filter.1 he
      have hlt := (freeOk10_spec hok ho).2.1 e (Array.mem_toList_iff.1 he) hbe
      have hko : ops[e.on]? = some (ops[e.on]'(by have := (Array.getElem?_eq_some_iff.1 ho).1; omega)) := Array.getElem?_eq_getElem _
      rw [left_eq hds hko]
      exact hpre e (Array.mem_toList_iff.1 he) hbe _ hko)
    refine ⟨fun hw K hK => hy ?_ K (fun v w1 γ1 q1 q2 q4 q3 => hK v w1 γ1 q1 (fun j u hx hj => q2 j u (haf' j hx) hj) q4 q3), fun j b e hne => ?_⟩
    · split
      · rename_i j b e
        obtain ⟨x, hx, hl⟩ := hgd j b e
        rw [hl]
        exact hw j b e x hx
      · trivial
    · rw [e] at hn
      obtain ⟨x, hx, hl⟩ := hgd j b e
      exact hn (by rw [hl]; exact hne x hx)
  · have e := putAll_eq a'.tmps ds tm h2.symm fun t ht => h3 t fun j x hx e => ht (by
      have h6 := hdsn j x hx
      rw [e] at h6
      exact List.mem_of_getElem? h6)
    have h6 := hend (ds.map (slotOf a'.tmps)) w' γ (by simp) h4 (fun i hi => by
      have hko : ops[i]? = some (ops[i]'(by omega)) := Array.getElem?_eq_getElem _
      have h7 := h5 i _ hko
      have h8 : (ds.map (slotOf a'.tmps)).getD i undef = valOf (ops[i]'(by omega)) a' := by
        rw [List.getD_eq_getElem?_getD, List.getElem?_map, hdsn i _ hko]
        rfl
      rw [h8]
      exact h7)
    rw [e] at h6
    have h9 : a' = { tmps := a'.tmps, defers := df } := by rw [← show a'.defers = df from h1]
    rw [h9]
    exact h6
  · refine ⟨rfl, rfl, fun _ _ => rfl, hγ, fun i o hl => ?_, fun i hi _ => hψ i (by rw [hlen]; exact hi), fun i o hl => ?_⟩
    · rw [Array.getD_eq_getD_getElem?] at hl
      by_cases hi : i < ops.size <;> simp [hi] at hl
    · rw [Array.getD_eq_getD_getElem?] at hl
      by_cases hi : i < ops.size <;> simp [hi] at hl
end
end Go.Proofs.Ytcecbohaajocfaa
