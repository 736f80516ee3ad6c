/- A region that draws its order, whose operations make memory and call, and one of which writes: one step for each operation serves every order. Nothing here names the program. -/
import Derived.Test.YtcecbohaajocfaaFree

set_option linter.unusedSimpArgs false
set_option linter.unusedVariables false
namespace Go.Proofs.Ytcecbohaajocfaa
open Go.RowKit
section
variable {P : Program} {ops : Array Oper} {Q : Exit → Act → World → Prop}
/-- Between two operations: what has been done holds, and what no operation writes is as it was. -/
structure FreeInv2 (ops : Array Oper) (a0 : Act) (t : Nat) (R : Bool → World → Prop) (φ : Nat → Value → World → Prop) (listed : Array Bool) (a : Act) (w : World) : Prop where
  defers : a.defers = a0.defers
  size : a.tmps.size = a0.tmps.size
  rest : ∀ t, (∀ (i : Nat) (o : Oper), ops[i]? = some o → o.dst ≠ some t) → a.tmps.getD t undef = a0.tmps.getD t undef
  world : R (listed.getD t false) w
  done : ∀ (i : Nat) (o : Oper), listed.getD i false = true → ops[i]? = some o → φ i (valOf o a) w
  old : ∀ (i : Nat) (o : Oper) (d : Nat), listed.getD i false = false → ops[i]? = some o → o.dst = some d → a.tmps.getD d undef = a0.tmps.getD d undef
  closed : ∀ (i : Nat) (o : Oper), listed.getD i false = true → ops[i]? = some o → ∀ e ∈ o.after, listed.getD e.on false = true
/-- What is owed for an operation. -/
def FreeStep2 (P : Program) (ops : Array Oper) (Q : Exit → Act → World → Prop) (a0 : Act) (t : Nat) (R : Bool → World → Prop) (φ : Nat → Value → World → Prop) (i : Nat) (o : Oper) : Prop :=
  ∀ (a : Act) (w : World) (c : Bool), (i = t → c = false) → (∀ t, (∀ (j : Nat) (x : Oper), ops[j]? = some x → x.dst = some t → ∃ e ∈ x.after, e.on = i) → a.tmps.getD t undef = a0.tmps.getD t undef) → R c w →
    (∀ e ∈ o.after, ∀ (x : Oper), ops[e.on]? = some x → φ e.on (valOf x a) w) →
    ∀ K : Act → World → Prop, (∀ v w', R (c || decide (i = t)) w' → (∀ j u, (i = t → j < t) → φ j u w → φ j u w') → φ i v w' → K (a.put o.dst v) w') → o.wp P a w K Q
theorem free_sound2 {a0 : Act} {t : Nat} {R : Bool → World → Prop} {φ : Nat → Value → World → Prop}
    (hg : ∀ (i : Nat) (o : Oper), ops[i]? = some o → o.guard = none)
    (hb : ∀ (i : Nat) (o : Oper), ops[i]? = some o → ∀ e ∈ o.after, Region.binds .any e = true ∧ e.on < i)
    (hd : ∀ (i : Nat) (o : Oper) (d : Nat), ops[i]? = some o → o.dst = some d → d < a0.tmps.size ∧ ∀ (j : Nat) (x : Oper), ops[j]? = some x → j ≠ i → x.dst ≠ some d)
    (hφ : ∀ (i : Nat) (o : Oper) (v : Value) (w : World), ops[i]? = some o → o.dst = none → φ i v w → φ i undef w)
    (hT : ∀ (j : Nat) (o : Oper), ops[j]? = some o → t < j → ∃ e ∈ o.after, e.on = t)
    (hs : ∀ (i : Nat) (o : Oper), ops[i]? = some o → FreeStep2 P ops Q a0 t R φ i o)
    (hend : ∀ a w c, (t < ops.size → c = true) → a.defers = a0.defers → a.tmps.size = a0.tmps.size → (∀ t, (∀ (j : Nat) (x : Oper), ops[j]? = some x → x.dst ≠ some t) → a.tmps.getD t undef = a0.tmps.getD t undef) → R c w → (∀ (i : Nat) (o : Oper), ops[i]? = some o → φ i (valOf o a) w) → Q .normal a w) :
    ∀ (fuel : Nat) (listed : Array Bool) (a : Act) (w : World), listed.size = ops.size → listed.toList.count false = fuel → FreeInv2 ops a0 t R φ listed a w → wpAny P .any ops Q fuel listed a w := by
  have hall : ∀ (listed : Array Bool) (a : Act) (w : World), listed.size = ops.size → (∀ i, i < ops.size → listed.getD i false = true) → FreeInv2 ops a0 t R φ listed a w → Q .normal a w := by
    intro listed a w hsz hl hI
    exact hend a w (listed.getD t false) (fun h => hl t h) hI.defers hI.size hI.rest hI.world fun i o ho => hI.done i o (hl i (Array.getElem?_eq_some_iff.1 ho).1) ho
  have hready : ∀ (listed : Array Bool), listed.size = ops.size → Region.ready .any ops listed = [] → ∀ n i, i < n → i < ops.size → listed.getD i false = true := by
    intro listed hsz hr n
    induction n with
    | zero => intro i hi; omega
    | succ n ih =>
      intro i hi hio
      cases hl : listed.getD i false with
      | true => rfl
      | false =>
        exfalso
        have hmem : i ∈ Region.ready .any ops listed := by
          unfold Region.ready
          rw [List.mem_filter]
          refine ⟨List.mem_range.2 hio, ?_⟩
          have h1 : listed.getD i true = false := by
            have hil : i < listed.size := by omega
            simpa [Array.getElem?_eq_getElem hil] using hl
          rw [h1, Array.getElem?_eq_getElem hio]
          simp only [Bool.not_false, Option.map_some, Option.getD_some, Bool.true_and]
          rw [Array.all_eq_true']
          intro e he
          obtain ⟨_, hlt⟩ := hb i _ (Array.getElem?_eq_getElem hio) e he
          rw [ih e.on (by omega) (by omega), Bool.or_true]
        rw [hr] at hmem
        cases hmem
  intro fuel
  induction fuel with
  | zero =>
    intro listed a w hsz hc hI
    have hl : ∀ i, i < ops.size → listed.getD i false = true := by
      intro i hi
      have hil : i < listed.size := by omega
      have hne : listed[i] ≠ false := by
        intro e
        have : 0 < listed.toList.count false := List.count_pos_iff.2 (by rw [← e]; simp)
        omega
      simpa [Array.getElem?_eq_getElem hil] using hne
    refine ⟨?_, hall listed a w hsz hl hI⟩
    unfold Region.ready
    rw [List.filter_eq_nil_iff]
    intro i hi
    have hi := List.mem_range.1 hi
    have hil : i < listed.size := by omega
    have := hl i hi
    simp only [Array.getElem?_eq_getElem hil, Array.getD_eq_getD_getElem?, Option.getD_some] at this ⊢
    simp [this]
  | succ fuel ih =>
    intro listed a w hsz hc hI
    refine ⟨fun hr => hall listed a w hsz (fun i hi => hready listed hsz hr (i + 1) i (by omega) hi) hI, fun i hi => ?_⟩
    unfold Region.ready at hi
    rw [List.mem_filter, List.mem_range] at hi
    obtain ⟨hio, hi⟩ := hi
    rw [Array.getElem?_eq_getElem hio] at hi
    simp only [Option.map_some, Option.getD_some, Bool.and_eq_true, Bool.not_eq_true'] at hi
    obtain ⟨hun, hpre⟩ := hi
    rw [Array.all_eq_true'] at hpre
    have ho : ops[i]? = some ops[i] := Array.getElem?_eq_getElem hio
    generalize ops[i] = o at ho hpre
    unfold wpOp
    rw [ho]
    simp only
    rw [if_pos (by simp [Region.wanted, hg i o ho])]
    refine .inl (hs i o ho a w (listed.getD t false) (fun e => by rw [← e]; rw [Array.getD_eq_getD_getElem?, Array.getElem?_eq_getElem (by omega)] at hun ⊢; simpa using hun) (fun t ht => by
        by_cases hw : ∃ (j : Nat) (x : Oper), ops[j]? = some x ∧ x.dst = some t
        · obtain ⟨j, x, hx, hxd⟩ := hw
          obtain ⟨ed, hed, h2⟩ := ht j x hx hxd
          refine hI.old j x t ?_ hx hxd
          cases hlj : listed.getD j false with
          | false => rfl
          | true =>
            have h3 := hI.closed j x hlj hx ed hed
            rw [h2] at h3
            rw [Array.getD_eq_getD_getElem?, Array.getElem?_eq_getElem (by omega)] at hun h3
            simp only [Option.getD_some] at hun h3
            rw [hun] at h3
            cases h3
        · exact hI.rest t (fun j x hx e => hw ⟨j, x, hx, e⟩)) hI.world (fun e he x hx => hI.done e.on x ?_ hx) _ fun v w' hR' hst hv => ?_)
    · have := hpre e he
      rw [(hb i o ho e he).1] at this
      simpa using this
    · refine ih _ _ _ (by simpa using hsz) (by have := count_set listed i hun; omega) ?_
      refine ⟨by rw [defers_put]; exact hI.defers, by rw [size_put]; exact hI.size, fun t ht => (getD_put_ne (ht i o ho)).trans (hI.rest t ht), ?_, fun j x hj hx => ?_, fun j x d hj hx hd' => ?_, fun j x hj hx ed hed => ?_⟩
      · have e : (listed.setIfInBounds i true).getD t false = (listed.getD t false || decide (i = t)) := by
          have hil : i < listed.size := by omega
          by_cases hit : i = t
          · subst hit
            simp [Array.getD_eq_getD_getElem?, hil]
          · simp [Array.getD_eq_getD_getElem?, Array.getElem?_setIfInBounds_ne hit, hit]
        rw [e]
        exact hR'
      · by_cases hji : j = i
        · subst hji
          rw [ho] at hx
          cases hx
          unfold valOf
          cases hdst : o.dst with
          | none => exact hφ j o v w' ho hdst hv
          | some d =>
            simp only
            rw [getD_put_same (by rw [hI.size]; exact (hd j o d ho hdst).1)]
            exact hv
        · have hj' : listed.getD j false = true := by
            rw [Array.getD_eq_getD_getElem?, Array.getElem?_setIfInBounds_ne (Ne.symm hji)] at hj
            simpa using hj
          have h1 := hst j _ (fun e => by
            rcases Nat.lt_trichotomy j t with h | h | h
            · exact h
            · exact absurd (h.trans e.symm) hji
            · obtain ⟨ed, hed, h2⟩ := hT j x hx h
              have h3 := hI.closed j x hj' hx ed hed
              rw [h2, ← e] at h3
              rw [Array.getD_eq_getD_getElem?, Array.getElem?_eq_getElem (by omega)] at hun h3
              simp only [Option.getD_some] at hun h3
              rw [hun] at h3
              cases h3) (hI.done j x hj' hx)
          have e : valOf x (a.put o.dst v) = valOf x a := by
            unfold valOf
            cases hdx : x.dst with
            | none => rfl
            | some d => exact getD_put_ne (fun e => (hd j x d hx hdx).2 i o ho (Ne.symm hji) e)
          rw [e]
          exact h1
      · have hji : j ≠ i := by
          intro e
          subst e
          rw [Array.getD_eq_getD_getElem?, Array.getElem?_setIfInBounds_self_of_lt (by omega)] at hj
          cases hj
        rw [Array.getD_eq_getD_getElem?, Array.getElem?_setIfInBounds_ne (Ne.symm hji)] at hj
        rw [getD_put_ne (fun e => (hd j x d hx hd').2 i o ho (Ne.symm hji) e)]
        exact hI.old j x d (by simpa using hj) hx hd'
      · by_cases hji : j = i
        · subst hji
          rw [ho] at hx
          cases hx
          have h1 := hpre ed hed
          rw [(hb j o ho ed hed).1] at h1
          exact getD_set_true (by simpa using h1)
        · have hj' : listed.getD j false = true := by
            rw [Array.getD_eq_getD_getElem?, Array.getElem?_setIfInBounds_ne (Ne.symm hji)] at hj
            simpa using hj
          exact getD_set_true (hI.closed j x hj' hx ed hed)
/-- What is owed for an operation, over any reading of its operands. -/
def Step2 (P : Program) (ds : List (Option Nat)) (fx : List (Nat × Value)) (lt : List (Nat × Nat)) (Q : Exit → Act → World → Prop) (t : Nat) (R : Bool → World → Prop) (φ : Nat → Value → World → Prop) (i : Nat) (o : Oper) : Prop :=
  ∀ (a : Act) (w : World) (c : Bool) (ev : Operand → Value), (i = t → c = false) → (∀ v, ev (.const v) = v) → (∀ f, ev (.func f) = .func (.func f) #[] #[]) → (∀ x ∈ fx, (!ds.contains (some x.1) || lt.contains (x.1, i)) = true → ev (.tmp x.1) = x.2) → R c w →
    (∀ k ∈ o.after.toList.map (·.on), φ k (left ds ev k) w) →
    ∀ K : Act → World → Prop, (∀ v w', R (c || decide (i = t)) w' → (∀ j u, (i = t → j < t) → φ j u w → φ j u w') → φ i v w' → K (a.put o.dst v) w') → o.upon P a K Q ((execOp ev o).run P w)
/-- The steps, one for each operation of the list. -/
def Steps2 (P : Program) (ds : List (Option Nat)) (fx : List (Nat × Value)) (lt : List (Nat × Nat)) (Q : Exit → Act → World → Prop) (t : Nat) (R : Bool → World → Prop) (φ : Nat → Value → World → Prop) : Nat → List Oper → Prop
  | _, [] => True
  | i, o :: rest => Step2 P ds fx lt Q t R φ i o ∧ Steps2 P ds fx lt Q t R φ (i + 1) rest
theorem Steps2.get {ds : List (Option Nat)} {fx : List (Nat × Value)} {lt : List (Nat × Nat)} {t : Nat} {R : Bool → World → Prop} {φ : Nat → Value → World → Prop} : ∀ (l : List Oper) (k : Nat), Steps2 P ds fx lt Q t R φ k l → ∀ (i : Nat) (o : Oper), l[i]? = some o → Step2 P ds fx lt Q t R φ (k + i) o := by
  intro l
  induction l with
  | nil => intro k _ i o h; simp at h
  | cons x l ih =>
    intro k h i o ho
    cases i with
    | zero => simp only [List.getElem?_cons_zero, Option.some.injEq] at ho; subst ho; exact h.1
    | succ i => have := ih (k + 1) h.2 i o (by simpa using ho); rwa [show k + (i + 1) = k + 1 + i by omega]
/-- Slots written, one after the other. -/
def putAll : Array Value → List (Option Nat) → List Value → Array Value
  | t, some d :: ds, v :: vs => putAll (t.setIfInBounds d v) ds vs
  | t, none :: ds, _ :: vs => putAll t ds vs
  | t, _, _ => t
def slotOf (T : Array Value) : Option Nat → Value | some d => T.getD d undef | none => undef
theorem putAll_eq (T : Array Value) : ∀ (ds : List (Option Nat)) (S : Array Value), S.size = T.size → (∀ t, some t ∉ ds → T.getD t undef = S.getD t undef) → putAll S ds (ds.map (slotOf T)) = T
  | [], S, hs, h => by
    unfold putAll
    apply Array.ext hs
    intro t h1 h2
    have := h t (by simp)
    simpa [h1, h2] using this.symm
  | none :: ds, S, hs, h => by
    simp only [List.map_cons, putAll]
    exact putAll_eq T ds S hs fun t ht => h t (by simpa using ht)
  | some d :: ds, S, hs, h => by
    simp only [List.map_cons, putAll]
    refine putAll_eq T ds _ (by simpa using hs) fun t ht => ?_
    by_cases hdt : d = t
    · subst hdt
      rcases Nat.lt_or_ge d S.size with hd | hd
      · simp [slotOf, hd]
      · have h2 : T.size ≤ d := by omega
        simp [hd, h2]
    · rw [h t (by simp only [List.mem_cons, Option.some.injEq, not_or]; exact ⟨fun e => hdt e.symm, ht⟩)]
      simp [Array.getD_eq_getD_getElem?, Array.getElem?_setIfInBounds_ne hdt]
/-- THE RULE, with the frame written out behind the region. -/
theorem wp_region_free3 {id : Nat} {tm : Array Value} {df : List Deferred} {w : World} (ds : List (Option Nat)) (fx : List (Nat × Value)) (lt : List (Nat × Nat)) (t : Nat) (R : Bool → World → Prop) (φ : Nat → Value → World → Prop) (hm : P.follows .mixedOrders = true) (hok : freeOk ops tm.size = true)
    (hds : ops.toList.map (·.dst) = ds) (hfx : ∀ x ∈ fx, tm.getD x.1 undef = x.2)
    (hlt : (lt.all fun x => ops.toList.all fun o => o.dst != some x.1 || o.after.any fun e => e.on == x.2) = true)
    (hφ : ∀ (i : Nat) (v : Value) (w : World), ds[i]? = some none → φ i v w → φ i undef w) (h0 : R false w.drew)
    (hT : (ops.toList.zipIdx.all fun (o, j) => decide (j ≤ t) || o.after.any fun e => e.on == t) = true)
    (hs : Steps2 P ds fx lt Q t R φ 0 ops.toList)
    (hend : ∀ vs w' c, (t < ops.size → c = true) → vs.length = ds.length → R c w' → (∀ i, i < ds.length → φ i (vs.getD i undef) w') → Q .normal { tmps := putAll tm ds vs, defers := df } w') :
    (Code.region id ops true).wp P Q { tmps := tm, defers := df } w := by
  have hdsn : ∀ (i : Nat) (o : Oper), ops[i]? = some o → ds[i]? = some o.dst := by
    intro i o ho
    rw [← hds, List.getElem?_map, Array.getElem?_toList, ho]
    rfl
  have hlen : ds.length = ops.size := by rw [← hds]; simp
  have hfree : ∀ x ∈ fx, ∀ i, (!ds.contains (some x.1) || lt.contains (x.1, i)) = true → ∀ (j : Nat) (y : Oper), ops[j]? = some y → y.dst = some x.1 → ∃ e ∈ y.after, e.on = i := by
    intro x hx i h1 j y hy e
    rcases Bool.or_eq_true_iff.1 h1 with h1 | h1
    · exfalso
      simp only [Bool.not_eq_true', List.contains_eq_mem, decide_eq_false_iff_not] at h1
      apply h1
      rw [← hds, ← e]
      exact List.mem_map_of_mem (Array.mem_toList_iff.2 (Array.mem_of_getElem? hy))
    · have h2 := List.all_eq_true.1 (List.all_eq_true.1 hlt _ (by simpa using h1)) y (Array.mem_toList_iff.2 (Array.mem_of_getElem? hy))
      rw [e] at h2
      simp only [bne_self_eq_false, Bool.false_or] at h2
      obtain ⟨ed, h3, h4⟩ := Array.any_eq_true'.1 h2
      exact ⟨ed, h3, by simpa using h4⟩
  refine wp_region_any hm (free_sound2 (a0 := { tmps := tm, defers := df }) (t := t) (R := R) (φ := φ) (fun i o ho => (freeOk_spec hok ho).1) (fun i o ho => (freeOk_spec hok ho).2.1) (fun i o d ho hd => (freeOk_spec hok ho).2.2 d hd)
    (fun i o v w ho hdst hv => hφ i v w (by rw [hdsn i o ho, hdst]) hv) (fun j o ho hlt => by
    have hz : (o, j) ∈ ops.toList.zipIdx := by
      rw [List.mem_zipIdx_iff_getElem?]
      simpa using ho
    have h1 := List.all_eq_true.1 hT _ hz
    simp only [Bool.or_eq_true, decide_eq_true_eq] at h1
    rcases h1 with h1 | h1
    · omega
    · obtain ⟨e, he, h2⟩ := Array.any_eq_true'.1 h1
      exact ⟨e, he, by simpa using h2⟩) (fun i o ho => ?_) (fun a' w' c h0 h1 h2 h3 h4 h5 => ?_) ops.size _ _ _ (by simp) (by simp) ?_)
  · have hstep := Steps2.get ops.toList 0 hs i o (by simpa using ho)
    rw [Nat.zero_add] at hstep
    intro a' w' c' hc' hrest hR hpre K hK
    refine hstep a' w' c' a'.eval hc' (fun _ => rfl) (fun _ => rfl) (fun x hx hx2 => (hrest x.1 (hfree x hx i hx2)).trans (hfx x hx)) hR (fun k hk => ?_) K hK
    obtain ⟨e, he, rfl⟩ := List.mem_map.1 hk
    have hlt := ((freeOk_spec hok ho).2.1 e (Array.mem_toList_iff.1 he)).2
    have hko : ops[e.on]? = some (ops[e.on]'(by have := (Array.getElem?_eq_some_iff.1 ho).1; omega)) := Array.getElem?_eq_getElem _
    rw [left_eq hds hko]
    exact hpre e (Array.mem_toList_iff.1 he) _ hko
  · have e := putAll_eq a'.tmps ds tm h2.symm fun t ht => h3 t fun j x hx e => ht (by
      have h6 := hdsn j x hx
      rw [e] at h6
      exact List.mem_of_getElem? h6)
    have h6 := hend (ds.map (slotOf a'.tmps)) w' c h0 (by simp) h4 (fun i hi => by
      have hko : ops[i]? = some (ops[i]'(by omega)) := Array.getElem?_eq_getElem _
      have h7 := h5 i _ hko
      have h8 : (ds.map (slotOf a'.tmps)).getD i undef = valOf (ops[i]'(by omega)) a' := by
        rw [List.getD_eq_getElem?_getD, List.getElem?_map, hdsn i _ hko]
        rfl
      rw [h8]
      exact h7)
    rw [e] at h6
    have h9 : a' = { tmps := a'.tmps, defers := df } := by
      cases a'
      simp only at h1
      subst h1
      rfl
    rw [h9]
    exact h6
  · have hno : ∀ i, (Array.replicate ops.size false).getD i false = false := by
      intro i
      rw [Array.getD_eq_getD_getElem?]
      by_cases hi : i < ops.size <;> simp [hi]
    refine ⟨rfl, rfl, fun _ _ => rfl, ?_, fun i o hl => ?_, fun _ _ _ _ _ _ => rfl, fun i o hl => ?_⟩
    · have e : (Array.replicate ops.size false).getD t false = false := by
        rw [Array.getD_eq_getD_getElem?]
        by_cases ht : t < ops.size <;> simp [ht]
      rw [e]
      exact h0
    · rw [hno] at hl
      cases hl
    · rw [hno] at hl
      cases hl
end
end Go.Proofs.Ytcecbohaajocfaa
