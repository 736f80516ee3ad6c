/- As wp_region_free9; what is said of operations not yet done needs not be kept by the last one, for then all are done. Nothing here names the program. -/
import Derived.Test.YtcecbohaajocfaaFree6

set_option linter.unusedSimpArgs false
set_option linter.unusedVariables false
namespace Go.Proofs.Ytcecbohaajocfaa
open Go.RowKit
section
variable {P : Program} {ops : Array Oper} {Q : Exit → Act → World → Prop}
/-- Between two operations: what has been done holds, and what no operation writes is as it was. -/
structure FreeInv10 (ops : Array Oper) (a0 : Act) (R : World → (Nat → Nat) → Prop) (φ : Nat → Value → World → (Nat → Nat) → Prop) (ψ : Nat → World → (Nat → Nat) → Prop) (listed : Array Bool) (a : Act) (w : World) (γ : Nat → Nat) : Prop where
  defers : a.defers = a0.defers
  size : a.tmps.size = a0.tmps.size
  rest : ∀ t, (∀ (i : Nat) (o : Oper), listed.getD i false = true → ops[i]? = some o → o.dst ≠ some t) → a.tmps.getD t undef = a0.tmps.getD t undef
  world : R w γ
  done : ∀ (i : Nat) (o : Oper), listed.getD i false = true → ops[i]? = some o → φ i (valOf o a) w γ
  todo : ∀ i, i < ops.size → listed.getD i false = false → ψ i w γ
  shut : ∀ (i : Nat) (o : Oper), listed.getD i false = true → ops[i]? = some o → ∀ e ∈ o.after, Region.binds .any e = true → listed.getD e.on false = true
/-- What is owed for an operation. -/
def FreeStep10 (m : Nat) (P : Program) (ops : Array Oper) (Q : Exit → Act → World → Prop) (a0 : Act) (R : World → (Nat → Nat) → Prop) (φ : Nat → Value → World → (Nat → Nat) → Prop) (ψ : Nat → World → (Nat → Nat) → Prop) (i : Nat) (o : Oper) : Prop :=
  ∀ (a : Act) (w : World) (γ : Nat → Nat), (∀ t, (∀ (j : Nat) (x : Oper), j ≠ m → ops[j]? = some x → x.dst ≠ some t) → a.tmps.getD t undef = a0.tmps.getD t undef) → R w γ → ψ i w γ →
    (∀ e ∈ o.after, Region.binds .any e = true → ∀ (x : Oper), ops[e.on]? = some x → φ e.on (valOf x a) w γ) →
    ((∀ j b, o.guard = some (j, b) → ∀ x, ops[j]? = some x → valOf x a = .bool b) → ∀ K : Act → World → Prop, (∀ v w' γ', R w' γ' → (∀ j u, (∀ x, ops[j]? = some x → ∀ e ∈ x.after, Region.binds .any e = true → e.on ≠ i) → j ≠ i → φ j u w γ → φ j u w' γ') → (i ≠ m → ∀ j, j ≠ i → ψ j w γ → ψ j w' γ') → φ i v w' γ' → K (a.put o.dst v) w') → o.wp P a w K Q)
    ∧ (∀ j b, o.guard = some (j, b) → (∀ x, ops[j]? = some x → valOf x a ≠ .bool b) → φ i undef w γ)
/-- When the last operation is ready, all others are done. -/
theorem all_done {listed : Array Bool} {m : Nat} {o : Oper} (hm : lastOf ops m = true) (ho : ops[m]? = some o) (hpre : ∀ e ∈ o.after, Region.binds .any e = true → listed.getD e.on false = true) (hs : ∀ (i : Nat) (o : Oper), listed.getD i false = true → ops[i]? = some o → ∀ e ∈ o.after, Region.binds .any e = true → listed.getD e.on false = true) (i : Nat) (hi : i < ops.size) : i = m ∨ listed.getD i false = true := by
  have h : ∀ (n : Nat) (S : List Nat), (∀ i ∈ S, i = m ∨ listed.getD i false = true) → ∀ i ∈ waits ops n S, i = m ∨ listed.getD i false = true := by
    intro n
    induction n with
    | zero => intro S h; exact h
    | succ n ih =>
      intro S h
      refine ih _ fun i hi => ?_
      rcases List.mem_append.1 hi with h1 | h1
      · exact h i h1
      · obtain ⟨j, hj, h2⟩ := List.mem_flatMap.1 h1
        cases hoj : ops[j]? with
        | none => rw [hoj] at h2; simp at h2
        | some x =>
          rw [hoj] at h2
          obtain ⟨e, he, rfl⟩ := List.mem_map.1 h2
          obtain ⟨he, hb⟩ := List.mem_filter.1 he
          rcases h j hj with rfl | hl
          · rw [ho] at hoj
            cases hoj
            exact Or.inr (hpre e (Array.mem_toList_iff.1 he) hb)
          · exact Or.inr (hs j x hl hoj e (Array.mem_toList_iff.1 he) hb)
  unfold lastOf at hm
  rw [List.all_eq_true] at hm
  exact h ops.size [m] (fun k hk => Or.inl (List.mem_singleton.1 hk)) i (by simpa using hm i (List.mem_range.2 hi))
theorem free_sound10 {m : Nat} (hlast : lastOf ops m = true) {a0 : Act} {R : World → (Nat → Nat) → Prop} {φ : Nat → Value → World → (Nat → Nat) → Prop} {ψ : Nat → World → (Nat → Nat) → Prop}
    (hb : ∀ (i : Nat) (o : Oper), ops[i]? = some o → ∀ e ∈ o.after, Region.binds .any e = true → e.on < i)
    (hd : ∀ (i : Nat) (o : Oper) (d : Nat), ops[i]? = some o → o.dst = some d → d < a0.tmps.size ∧ ∀ (j : Nat) (x : Oper), ops[j]? = some x → j ≠ i → x.dst ≠ some d)
    (hφ : ∀ (i : Nat) (o : Oper) (v : Value) (w : World) (γ : Nat → Nat), ops[i]? = some o → o.dst = none → φ i v w γ → φ i undef w γ)
    (hs : ∀ (i : Nat) (o : Oper), ops[i]? = some o → FreeStep10 m P ops Q a0 R φ ψ i o)
    (hend : ∀ a w γ, a.defers = a0.defers → a.tmps.size = a0.tmps.size → (∀ t, (∀ (j : Nat) (x : Oper), ops[j]? = some x → x.dst ≠ some t) → a.tmps.getD t undef = a0.tmps.getD t undef) → R w γ → (∀ (i : Nat) (o : Oper), ops[i]? = some o → φ i (valOf o a) w γ) → Q .normal a w) :
    ∀ (fuel : Nat) (listed : Array Bool) (a : Act) (w : World) (γ : Nat → Nat), listed.size = ops.size → listed.toList.count false = fuel → FreeInv10 ops a0 R φ ψ listed a w γ → wpAny P .any ops Q fuel listed a w := by
  have hall : ∀ (listed : Array Bool) (a : Act) (w : World) (γ : Nat → Nat), listed.size = ops.size → (∀ i, i < ops.size → listed.getD i false = true) → FreeInv10 ops a0 R φ ψ listed a w γ → Q .normal a w := by
    intro listed a w γ hsz hl hI
    exact hend a w γ hI.defers hI.size (fun t ht => hI.rest t fun i o _ ho => ht i o ho) hI.world fun i o ho => hI.done i o (hl i (Array.getElem?_eq_some_iff.1 ho).1) ho
  have hready : ∀ (listed : Array Bool), listed.size = ops.size → Region.ready .any ops listed = [] → ∀ n i, i < n → i < ops.size → listed.getD i false = true := by
    intro listed hsz hr n
    induction n with
    | zero => intro i hi; omega
    | succ n ih =>
      intro i hi hio
      cases hl : listed.getD i false with
      | true => rfl
      | false =>
        exfalso
        have hmem : i ∈ Region.ready .any ops listed := by
          unfold Region.ready
          rw [List.mem_filter]
          refine ⟨List.mem_range.2 hio, ?_⟩
          have h1 : listed.getD i true = false := by
            have hil : i < listed.size := by omega
            simpa [Array.getElem?_eq_getElem hil] using hl
          rw [h1, Array.getElem?_eq_getElem hio]
          simp only [Bool.not_false, Option.map_some, Option.getD_some, Bool.true_and]
          rw [Array.all_eq_true']
          intro e he
          cases hbe : Region.binds .any e with
          | false => rfl
          | true =>
            have hlt := hb i _ (Array.getElem?_eq_getElem hio) e he hbe
            rw [ih e.on (by omega) (by omega), Bool.or_true]
        rw [hr] at hmem
        cases hmem
  intro fuel
  induction fuel with
  | zero =>
    intro listed a w γ hsz hc hI
    have hl : ∀ i, i < ops.size → listed.getD i false = true := by
      intro i hi
      have hil : i < listed.size := by omega
      have hne : listed[i] ≠ false := by
        intro e
        have : 0 < listed.toList.count false := List.count_pos_iff.2 (by rw [← e]; simp)
        omega
      simpa [Array.getElem?_eq_getElem hil] using hne
    refine ⟨?_, hall listed a w γ hsz hl hI⟩
    unfold Region.ready
    rw [List.filter_eq_nil_iff]
    intro i hi
    have hi := List.mem_range.1 hi
    have hil : i < listed.size := by omega
    have := hl i hi
    simp only [Array.getElem?_eq_getElem hil, Array.getD_eq_getD_getElem?, Option.getD_some] at this ⊢
    simp [this]
  | succ fuel ih =>
    intro listed a w γ hsz hc hI
    refine ⟨fun hr => hall listed a w γ hsz (fun i hi => hready listed hsz hr (i + 1) i (by omega) hi) hI, fun i hi => ?_⟩
    unfold Region.ready at hi
    rw [List.mem_filter, List.mem_range] at hi
    obtain ⟨hio, hi⟩ := hi
    rw [Array.getElem?_eq_getElem hio] at hi
    simp only [Option.map_some, Option.getD_some, Bool.and_eq_true, Bool.not_eq_true'] at hi
    obtain ⟨hun, hpre⟩ := hi
    rw [Array.all_eq_true'] at hpre
    have ho : ops[i]? = some ops[i] := Array.getElem?_eq_getElem hio
    generalize ops[i] = o at ho hpre
    have step : ∀ v w' γ', R w' γ' → (∀ j u, (∀ x, ops[j]? = some x → ∀ e ∈ x.after, Region.binds .any e = true → e.on ≠ i) → j ≠ i → φ j u w γ → φ j u w' γ') → (i ≠ m → ∀ j, j ≠ i → ψ j w γ → ψ j w' γ') → φ i v w' γ' → wpAny P .any ops Q fuel (listed.setIfInBounds i true) (a.put o.dst v) w' := by
      intro v w' γ' hR' hst hps hv
      refine ih _ _ _ γ' (by simpa using hsz) (by have := count_set listed i hun; omega) ?_
      refine ⟨by rw [defers_put]; exact hI.defers, by rw [size_put]; exact hI.size, fun t ht => (getD_put_ne (ht i o (by rw [Array.getD_eq_getD_getElem?, Array.getElem?_setIfInBounds_self_of_lt (by omega)]; rfl) ho)).trans (hI.rest t fun j x hj hx => ht j x (by by_cases e : j = i; subst e; rw [Array.getD_eq_getD_getElem?, Array.getElem?_setIfInBounds_self_of_lt (by omega)]; rfl; rw [Array.getD_eq_getD_getElem?, Array.getElem?_setIfInBounds_ne (Ne.symm e)]; simpa using hj) hx), hR', fun j x hj hx => ?_, fun j hjs hj => ?_, fun j x hj hx e he hbe => ?_⟩
      rotate_left
      · have hji : j ≠ i := fun e => by
          subst e
          rw [Array.getD_eq_getD_getElem?, Array.getElem?_setIfInBounds_self_of_lt (by omega)] at hj
          cases hj
        have hj2 : listed.getD j false = false := by
          rw [Array.getD_eq_getD_getElem?, Array.getElem?_setIfInBounds_ne (Ne.symm hji)] at hj
          simpa using hj
        refine hps (fun him => ?_) j hji (hI.todo j hjs hj2)
        subst him
        rcases all_done hlast ho (fun e he hbe => by
          have h9 := hpre e he
          rw [hbe] at h9
          simpa using h9) hI.shut j hjs with h9 | h9
        · exact hji h9
        · rw [h9] at hj2
          cases hj2
      · by_cases hji : j = i
        · subst hji
          rw [ho] at hx
          cases hx
          have h1 := hpre e he
          rw [hbe] at h1
          have h2 : listed.getD e.on false = true := by simpa using h1
          have hne : e.on ≠ j := by have := hb j o ho e he hbe; omega
          rw [Array.getD_eq_getD_getElem?, Array.getElem?_setIfInBounds_ne (Ne.symm hne)]
          simpa using h2
        · have hj' : listed.getD j false = true := by
            rw [Array.getD_eq_getD_getElem?, Array.getElem?_setIfInBounds_ne (Ne.symm hji)] at hj
            simpa using hj
          have h2 := hI.shut j x hj' hx e he hbe
          have hne : e.on ≠ i := fun e0 => by
            rw [e0] at h2
            rw [Array.getD_eq_getD_getElem?, Array.getElem?_eq_getElem (by omega)] at h2 hun
            simp at h2 hun
            rw [h2] at hun
            cases hun
          rw [Array.getD_eq_getD_getElem?, Array.getElem?_setIfInBounds_ne (Ne.symm hne)]
          simpa using h2
      by_cases hji : j = i
      · subst hji
        rw [ho] at hx
        cases hx
        unfold valOf
        cases hdst : o.dst with
        | none => exact hφ j o v w' γ' ho hdst hv
        | some d =>
          simp only
          rw [getD_put_same (by rw [hI.size]; exact (hd j o d ho hdst).1)]
          exact hv
      · have hj' : listed.getD j false = true := by
          rw [Array.getD_eq_getD_getElem?, Array.getElem?_setIfInBounds_ne (Ne.symm hji)] at hj
          simpa using hj
        have hsep : ∀ y, ops[j]? = some y → ∀ e ∈ y.after, Region.binds .any e = true → e.on ≠ i := fun y hy e he hbe e0 => by
          have h2 := hI.shut j y hj' hy e he hbe
          rw [e0] at h2
          rw [Array.getD_eq_getD_getElem?, Array.getElem?_eq_getElem (by omega)] at h2 hun
          simp at h2 hun
          rw [h2] at hun
          cases hun
        have h1 := hst j _ hsep hji (hI.done j x hj' hx)
        have e : valOf x (a.put o.dst v) = valOf x a := by
          unfold valOf
          cases hdx : x.dst with
          | none => rfl
          | some d => exact getD_put_ne (fun e => (hd j x d hx hdx).2 i o ho (Ne.symm hji) e)
        rw [e]
        exact h1
    have pre : ∀ e ∈ o.after, Region.binds .any e = true → ∀ (x : Oper), ops[e.on]? = some x → φ e.on (valOf x a) w γ := by
      intro e he hbe x hx
      refine hI.done e.on x ?_ hx
      have := hpre e he
      rw [hbe] at this
      simpa using this
    have hml : listed.getD m false = false := last_waits hlast hio (by
      rw [Array.getD_eq_getD_getElem?] at hun ⊢
      cases h : listed[i]? with
      | none => rfl
      | some b => rw [h] at hun; simpa using hun) hI.shut
    obtain ⟨hyes, hno⟩ := hs i o ho a w γ (fun t ht => hI.rest t fun j x hj hx e => by
      by_cases hjm : j = m
      · subst hjm
        rw [hml] at hj
        cases hj
      · exact ht j x hjm hx e) hI.world (hI.todo i hio (by
        rw [Array.getD_eq_getD_getElem?] at hun ⊢
        cases h : listed[i]? with
        | none => rfl
        | some b => rw [h] at hun; simpa using hun)) pre
    unfold wpOp
    rw [ho]
    simp only
    by_cases hw : Region.wanted o (yielded ops a.tmps) = true
    · rw [if_pos hw]
      refine .inl (hyes (fun j b hgd x hx => ?_) _ step)
      unfold Region.wanted at hw
      rw [hgd] at hw
      exact (yielded_of hx).1 (by simpa using hw)
    · rw [if_neg hw]
      cases hgd : o.guard with
      | none => exact absurd (by unfold Region.wanted; rw [hgd]) hw
      | some jb =>
        obtain ⟨j, b⟩ := jb
        refine step undef w γ hI.world (fun _ _ _ _ h => h) (fun _ _ _ h => h) (hno j b hgd (fun x hx e => hw ?_))
        unfold Region.wanted
        rw [hgd]
        simpa using (yielded_of hx).2 e
def freeOk10 (ops : Array Oper) (n : Nat) : Bool :=
  ops.toList.zipIdx.all fun (o, i) => (match o.guard with | some (j, _) => (bindsOn o).contains j | none => true) && (bindsOn o).all (fun k => decide (k < i)) &&
    match o.dst with
    | some d => decide (d < n) && ops.toList.zipIdx.all (fun (x, j) => j == i || x.dst != some d)
    | none => true
theorem freeOk10_spec {n : Nat} (h : freeOk10 ops n = true) {i : Nat} {o : Oper} (ho : ops[i]? = some o) :
    (∀ j b, o.guard = some (j, b) → j ∈ bindsOn o) ∧ (∀ e ∈ o.after, Region.binds .any e = true → e.on < i) ∧ ∀ d, o.dst = some d → d < n ∧ ∀ (j : Nat) (x : Oper), ops[j]? = some x → j ≠ i → x.dst ≠ some d := by
  have hz : ∀ (i : Nat) (o : Oper), ops[i]? = some o → (o, i) ∈ ops.toList.zipIdx := by
    intro i o ho
    rw [List.mem_zipIdx_iff_getElem?]
    simpa using ho
  unfold freeOk10 at h
  rw [List.all_eq_true] at h
  have h1 := h _ (hz i o ho)
  simp only [Bool.and_eq_true] at h1
  obtain ⟨⟨hg, ha⟩, hd⟩ := h1
  refine ⟨fun j b e => by rw [e] at hg; simpa using hg, ?_, ?_⟩
  · intro e he hb
    rw [List.all_eq_true] at ha
    simpa using ha e.on (List.mem_map.2 ⟨e, List.mem_filter.2 ⟨Array.mem_toList_iff.2 he, hb⟩, rfl⟩)
  · intro d hdst
    rw [hdst] at hd
    simp only [Bool.and_eq_true, decide_eq_true_eq] at hd
    refine ⟨hd.1, fun j x hx hne => ?_⟩
    have h2 := List.all_eq_true.1 hd.2 _ (hz j x hx)
    simp only [Bool.or_eq_true, beq_iff_eq, hne, false_or] at h2
    simpa using h2
/-- What is owed for an operation, over any reading of its operands. -/
def Step10 (m : Nat) (P : Program) (ds : List (Option Nat)) (af : List (List Nat)) (fx : List (Nat × Value)) (Q : Exit → Act → World → Prop) (R : World → (Nat → Nat) → Prop) (φ : Nat → Value → World → (Nat → Nat) → Prop) (ψ : Nat → World → (Nat → Nat) → Prop) (i : Nat) (o : Oper) : Prop :=
  ∀ (a : Act) (w : World) (γ : Nat → Nat) (ev : Operand → Value), (∀ v, ev (.const v) = v) → (∀ f, ev (.func f) = .func (.func f) #[] #[]) → (∀ x ∈ fx, ev (.tmp x.1) = x.2) → R w γ → ψ i w γ →
    (∀ k ∈ bindsOn o, φ k (left ds ev k) w γ) →
    ((match o.guard with | some (j, b) => left ds ev j = .bool b | none => True) → ∀ K : Act → World → Prop, (∀ v w' γ', R w' γ' → (∀ j u, i ∉ af.getD j [] → j ≠ i → φ j u w γ → φ j u w' γ') → (i ≠ m → ∀ j, j ≠ i → ψ j w γ → ψ j w' γ') → φ i v w' γ' → K (a.put o.dst v) w') → o.upon P a K Q ((execOp ev o).run P w))
    ∧ (match o.guard with | some (j, b) => left ds ev j ≠ .bool b → φ i undef w γ | none => True)
/-- The steps, one for each operation of the list. -/
def Steps10 (m : Nat) (P : Program) (ds : List (Option Nat)) (af : List (List Nat)) (fx : List (Nat × Value)) (Q : Exit → Act → World → Prop) (R : World → (Nat → Nat) → Prop) (φ : Nat → Value → World → (Nat → Nat) → Prop) (ψ : Nat → World → (Nat → Nat) → Prop) : Nat → List Oper → Prop
  | _, [] => True
  | i, o :: rest => Step10 m P ds af fx Q R φ ψ i o ∧ Steps10 m P ds af fx Q R φ ψ (i + 1) rest
theorem Steps10.get {m : Nat} {ds : List (Option Nat)} {af : List (List Nat)} {fx : List (Nat × Value)} {R : World → (Nat → Nat) → Prop} {φ : Nat → Value → World → (Nat → Nat) → Prop} {ψ : Nat → World → (Nat → Nat) → Prop} : ∀ (l : List Oper) (k : Nat), Steps10 m P ds af fx Q R φ ψ k l → ∀ (i : Nat) (o : Oper), l[i]? = some o → Step10 m P ds af fx Q R φ ψ (k + i) o := by
  intro l
  induction l with
  | nil => intro k _ i o h; simp at h
  | cons x l ih =>
    intro k h i o ho
    cases i with
    | zero => simp only [List.getElem?_cons_zero, Option.some.injEq] at ho; subst ho; exact h.1
    | succ i => have := ih (k + 1) h.2 i o (by simpa using ho); rwa [show k + (i + 1) = k + 1 + i by omega]
/-- THE RULE, with the frame written out behind the region. -/
theorem wp_region_free10 (m : Nat) (hlast : lastOf ops m = true) {id : Nat} {tm : Array Value} {df : List Deferred} {w : World} (ds : List (Option Nat)) (af : List (List Nat)) (fx : List (Nat × Value)) (R : World → (Nat → Nat) → Prop) (φ : Nat → Value → World → (Nat → Nat) → Prop) (ψ : Nat → World → (Nat → Nat) → Prop) (hm : P.follows .mixedOrders = true) (hok : freeOk10 ops tm.size = true)
    (hds : ops.toList.map (·.dst) = ds) (haf : ops.toList.map bindsOn = af) (hfx : ∀ x ∈ fx, ((List.range ds.length).all fun j => j == m || ds.getD j none != some x.1) = true ∧ tm.getD x.1 undef = x.2)
    (hφ : ∀ (i : Nat) (v : Value) (w : World) (γ : Nat → Nat), ds[i]? = some none → φ i v w γ → φ i undef w γ) (h0 : ∃ γ, R w.drew γ ∧ ∀ i, i < ds.length → ψ i w.drew γ)
    (hs : Steps10 m P ds af fx Q R φ ψ 0 ops.toList)
    (hend : ∀ vs w' γ, vs.length = ds.length → R w' γ → (∀ i, i < ds.length → φ i (vs.getD i undef) w' γ) → Q .normal { tmps := putAll tm ds vs, defers := df } w') :
    (Code.region id ops true).wp P Q { tmps := tm, defers := df } w := by
  have hlen : ds.length = ops.size := by rw [← hds]; simp
  obtain ⟨γ, hγ, hψ⟩ := h0
  have hdsn : ∀ (i : Nat) (o : Oper), ops[i]? = some o → ds[i]? = some o.dst := by
    intro i o ho
    rw [← hds, List.getElem?_map, Array.getElem?_toList, ho]
    rfl
  have hfree : ∀ x ∈ fx, ∀ (j : Nat) (y : Oper), j ≠ m → ops[j]? = some y → y.dst ≠ some x.1 := by
    intro x hx j y hjm hy e
    have h1 := (hfx x hx).1
    rw [List.all_eq_true] at h1
    have h2 := h1 j (List.mem_range.2 (by rw [hlen]; exact (Array.getElem?_eq_some_iff.1 hy).1))
    rw [List.getD_eq_getElem?_getD, hdsn j y hy, e] at h2
    simp [hjm] at h2
  refine wp_region_any hm (free_sound10 hlast (a0 := { tmps := tm, defers := df }) (R := R) (φ := φ) (ψ := ψ) (fun i o ho => (freeOk10_spec hok ho).2.1) (fun i o d ho hd => (freeOk10_spec hok ho).2.2 d hd)
    (fun i o v w γ ho hdst hv => hφ i v w γ (by rw [hdsn i o ho, hdst]) hv) (fun i o ho => ?_) (fun a' w' γ h1 h2 h3 h4 h5 => ?_) ops.size _ _ _ γ (by simp) (by simp) ?_)
  · have hstep := Steps10.get ops.toList 0 hs i o (by simpa using ho)
    rw [Nat.zero_add] at hstep
    have haf' : ∀ j, (∀ x, ops[j]? = some x → ∀ e ∈ x.after, Region.binds .any e = true → e.on ≠ i) → i ∉ af.getD j [] := by
      intro j hx hi
      rw [← haf, List.getD_eq_getElem?_getD, List.getElem?_map, Array.getElem?_toList] at hi
      cases hoj : ops[j]? with
      | none => rw [hoj] at hi; simp at hi
      | some x =>
        rw [hoj] at hi
        simp only [Option.map_some, Option.getD_some] at hi
        obtain ⟨e, he, h⟩ := List.mem_map.1 hi
        obtain ⟨h1, h2⟩ := List.mem_filter.1 he
        exact hx x hoj e (Array.mem_toList_iff.1 h1) h2 h
    intro a' w' γ' hrest hR hps hpre
    have hgd : ∀ j b, o.guard = some (j, b) → ∃ x, ops[j]? = some x ∧ left ds a'.eval j = valOf x a' := by
      intro j b e
      obtain ⟨e', he, rfl⟩ := List.mem_map.1 ((freeOk10_spec hok ho).1 j b e)
      obtain ⟨he, hbe⟩ := List.mem_filter.1 he
      have hlt := (freeOk10_spec hok ho).2.1 e' (Array.mem_toList_iff.1 he) hbe
      have hko : ops[e'.on]? = some (ops[e'.on]'(by have := (Array.getElem?_eq_some_iff.1 ho).1; omega)) := Array.getElem?_eq_getElem _
      exact ⟨_, hko, left_eq hds hko a'⟩
    obtain ⟨hy, hn⟩ := hstep a' w' γ' a'.eval (fun _ => rfl) (fun _ => rfl) (fun x hx => (hrest x.1 (hfree x hx)).trans (hfx x hx).2) hR hps (fun k hk => by
      obtain ⟨e, he, rfl⟩ := List.mem_map.1 hk
      obtain ⟨he, hbe⟩ := List.mem_filter.1 he
      have hlt := (freeOk10_spec hok ho).2.1 e (Array.mem_toList_iff.1 he) hbe
      have hko : ops[e.on]? = some (ops[e.on]'(by have := (Array.getElem?_eq_some_iff.1 ho).1; omega)) := Array.getElem?_eq_getElem _
      rw [left_eq hds hko]
      exact hpre e (Array.mem_toList_iff.1 he) hbe _ hko)
    refine ⟨fun hw K hK => hy ?_ K (fun v w1 γ1 q1 q2 q4 q3 => hK v w1 γ1 q1 (fun j u hx hj => q2 j u (haf' j hx) hj) q4 q3), fun j b e hne => ?_⟩
    · split
      · rename_i j b e
        obtain ⟨x, hx, hl⟩ := hgd j b e
        rw [hl]
        exact hw j b e x hx
      · trivial
    · rw [e] at hn
      obtain ⟨x, hx, hl⟩ := hgd j b e
      exact hn (by rw [hl]; exact hne x hx)
  · have e := putAll_eq a'.tmps ds tm h2.symm fun t ht => h3 t fun j x hx e => ht (by
      have h6 := hdsn j x hx
      rw [e] at h6
      exact List.mem_of_getElem? h6)
    have h6 := hend (ds.map (slotOf a'.tmps)) w' γ (by simp) h4 (fun i hi => by
      have hko : ops[i]? = some (ops[i]'(by omega)) := Array.getElem?_eq_getElem _
      have h7 := h5 i _ hko
      have h8 : (ds.map (slotOf a'.tmps)).getD i undef = valOf (ops[i]'(by omega)) a' := by
        rw [List.getD_eq_getElem?_getD, List.getElem?_map, hdsn i _ hko]
        rfl
      rw [h8]
      exact h7)
    rw [e] at h6
    have h9 : a' = { tmps := a'.tmps, defers := df } := by rw [← show a'.defers = df from h1]
    rw [h9]
    exact h6
  · refine ⟨rfl, rfl, fun _ _ => rfl, hγ, fun i o hl => ?_, fun i hi _ => hψ i (by rw [hlen]; exact hi), fun i o hl => ?_⟩
    · rw [Array.getD_eq_getD_getElem?] at hl
      by_cases hi : i < ops.size <;> simp [hi] at hl
    · rw [Array.getD_eq_getD_getElem?] at hl
      by_cases hi : i < ops.size <;> simp [hi] at hl
end
end Go.Proofs.Ytcecbohaajocfaa
