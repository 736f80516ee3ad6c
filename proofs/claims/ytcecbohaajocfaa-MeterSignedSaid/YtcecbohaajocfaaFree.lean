/- A region that draws its order, whose operations make memory and call: one step for each operation serves every order. Nothing here names the program. -/
import Derived.Test.YtcecbohaajocfaaData
import Derived.RegionTactic
import Derived.Orders

set_option linter.unusedSimpArgs false
set_option linter.unusedVariables false
namespace Go.Proofs.Ytcecbohaajocfaa
open Go.RowKit

theorem only_setCell {a w : World} {g : Nat} (h : a.grownBy w (some g)) {p : Addr} (hp : p.block = g) (u : Value) : a.grownBy (w.setCell p u) (some g) :=
  ⟨h.os, h.tape, h.output, by simpa [World.setCell] using h.size, fun i hi hne => (Below.heap_setCell w p u i (by rintro rfl; exact hne (by rw [hp]))).trans (h.block i hi hne)⟩
/-- A block that is known whole. -/
def Blk (w : World) (g : Nat) (t : TypeId) (cs : Array Value) : Prop := w.heap[g]? = some (.cells cs t (0, 0))
theorem Blk.lt {w : World} {g : Nat} {t : TypeId} {cs : Array Value} (h : Blk w g t cs) : g < w.heap.size := (Array.getElem?_eq_some_iff.1 h).1
theorem Blk.cell {w : World} {g : Nat} {t : TypeId} {cs : Array Value} (h : Blk w g t cs) (i : Nat) : w.cell? ⟨g, i, none⟩ = cs[i]? := cell_of_row w g i cs t (0, 0) h
theorem Blk.frozen {w : World} {g : Nat} {t : TypeId} {cs : Array Value} (h : Blk w g t cs) (i : Nat) : w.frozen? ⟨g, i, none⟩ = false := by
  unfold Blk at h
  simp [World.frozen?, h]
theorem Blk.set_ {w : World} {g : Nat} {t : TypeId} {cs : Array Value} (h : Blk w g t cs) (i : Nat) (u : Value) : Blk (w.setCell ⟨g, i, none⟩ u) g t (cs.setIfInBounds i u) := by
  unfold Blk at h ⊢
  simp [World.setCell, Array.getElem?_modify, h]
theorem Blk.far {w : World} {g : Nat} {t : TypeId} {cs : Array Value} (h : Blk w g t cs) {p : Addr} (hp : g ≠ p.block) (u : Value) : Blk (w.setCell p u) g t cs := (Below.heap_setCell w p u g hp).trans h
theorem Blk.alloc {w : World} {g : Nat} {t : TypeId} {cs : Array Value} (h : Blk w g t cs) (o : Obj) : Blk (w.alloc o) g t cs := (Below.heap_alloc w o g h.lt).trans h
theorem Blk.below {w w' : World} {g B : Nat} {t : TypeId} {cs : Array Value} (h : Blk w g t cs) (hb : Below B w w') (hg : g < B) : Blk w' g t cs := (hb.block g hg).trans h
section
variable {P : Program} {ops : Array Oper} {Q : Exit → Act → World → Prop}
/-- What an operation has left: its slot, or nothing. -/
def valOf (o : Oper) (a : Act) : Value := match o.dst with | some d => a.tmps.getD d undef | none => undef
/-- Between two operations: what has been done holds, and what no operation writes is as it was. -/
structure FreeInv (ops : Array Oper) (a0 : Act) (R : World → (Nat → Nat) → Prop) (φ : Nat → Value → World → (Nat → Nat) → Prop) (listed : Array Bool) (a : Act) (w : World) (γ : Nat → Nat) : Prop where
  defers : a.defers = a0.defers
  size : a.tmps.size = a0.tmps.size
  rest : ∀ t, (∀ (i : Nat) (o : Oper), ops[i]? = some o → o.dst ≠ some t) → a.tmps.getD t undef = a0.tmps.getD t undef
  world : R w γ
  done : ∀ (i : Nat) (o : Oper), listed.getD i false = true → ops[i]? = some o → φ i (valOf o a) w γ
/-- What is owed for an operation. -/
def FreeStep (P : Program) (ops : Array Oper) (Q : Exit → Act → World → Prop) (a0 : Act) (R : World → (Nat → Nat) → Prop) (φ : Nat → Value → World → (Nat → Nat) → Prop) (i : Nat) (o : Oper) : Prop :=
  ∀ (a : Act) (w : World) (γ : Nat → Nat), (∀ t, (∀ (j : Nat) (x : Oper), ops[j]? = some x → x.dst ≠ some t) → a.tmps.getD t undef = a0.tmps.getD t undef) → R w γ →
    (∀ e ∈ o.after, ∀ (x : Oper), ops[e.on]? = some x → φ e.on (valOf x a) w γ) →
    ∀ K : Act → World → Prop, (∀ v w' γ', R w' γ' → (∀ j u, φ j u w γ → φ j u w' γ') → φ i v w' γ' → K (a.put o.dst v) w') → o.wp P a w K Q
theorem getD_put_ne {a : Act} {dst : Option Tmp} {v : Value} {t : Nat} (h : dst ≠ some t) : (a.put dst v).tmps.getD t undef = a.tmps.getD t undef := by
  cases dst with
  | none => rfl
  | some d =>
    have hne : d ≠ t := fun e => h (by rw [e])
    simp [Act.put, Array.getElem?_setIfInBounds_ne hne]
theorem getD_put_same {a : Act} {d : Nat} {v : Value} (h : d < a.tmps.size) : (a.put (some d) v).tmps.getD d undef = v := by
  simp [Act.put, h]
theorem size_put (a : Act) (dst : Option Tmp) (v : Value) : (a.put dst v).tmps.size = a.tmps.size := by cases dst <;> simp [Act.put]
theorem defers_put (a : Act) (dst : Option Tmp) (v : Value) : (a.put dst v).defers = a.defers := by cases dst <;> rfl
theorem count_set (l : Array Bool) (i : Nat) (h : l.getD i true = false) : (l.setIfInBounds i true).toList.count false + 1 = l.toList.count false := by
  have hi : i < l.size := by
    rcases Nat.lt_or_ge i l.size with h' | h'
    · exact h'
    · simp [Array.getElem?_eq_none h'] at h
  have he : l[i] = false := by simpa [Array.getElem?_eq_getElem hi] using h
  obtain ⟨l⟩ := l
  simp only [List.size_toArray] at hi
  simp only [List.getElem_toArray] at he
  simp only [List.setIfInBounds_toArray]
  rw [List.count_set (by simpa using hi)]
  simp [he]
  have : 0 < l.count false := List.count_pos_iff.2 (he ▸ List.getElem_mem hi)
  omega
theorem free_sound {a0 : Act} {R : World → (Nat → Nat) → Prop} {φ : Nat → Value → World → (Nat → Nat) → Prop}
    (hg : ∀ (i : Nat) (o : Oper), ops[i]? = some o → o.guard = none)
    (hb : ∀ (i : Nat) (o : Oper), ops[i]? = some o → ∀ e ∈ o.after, Region.binds .any e = true ∧ e.on < i)
    (hd : ∀ (i : Nat) (o : Oper) (d : Nat), ops[i]? = some o → o.dst = some d → d < a0.tmps.size ∧ ∀ (j : Nat) (x : Oper), ops[j]? = some x → j ≠ i → x.dst ≠ some d)
    (hφ : ∀ (i : Nat) (o : Oper) (v : Value) (w : World) (γ : Nat → Nat), ops[i]? = some o → o.dst = none → φ i v w γ → φ i undef w γ)
    (hs : ∀ (i : Nat) (o : Oper), ops[i]? = some o → FreeStep P ops Q a0 R φ i o)
    (hend : ∀ a w γ, a.defers = a0.defers → a.tmps.size = a0.tmps.size → (∀ t, (∀ (j : Nat) (x : Oper), ops[j]? = some x → x.dst ≠ some t) → a.tmps.getD t undef = a0.tmps.getD t undef) → R w γ → (∀ (i : Nat) (o : Oper), ops[i]? = some o → φ i (valOf o a) w γ) → Q .normal a w) :
    ∀ (fuel : Nat) (listed : Array Bool) (a : Act) (w : World) (γ : Nat → Nat), listed.size = ops.size → listed.toList.count false = fuel → FreeInv ops a0 R φ listed a w γ → wpAny P .any ops Q fuel listed a w := by
  have hall : ∀ (listed : Array Bool) (a : Act) (w : World) (γ : Nat → Nat), listed.size = ops.size → (∀ i, i < ops.size → listed.getD i false = true) → FreeInv ops a0 R φ listed a w γ → Q .normal a w := by
    intro listed a w γ hsz hl hI
    exact hend a w γ hI.defers hI.size hI.rest hI.world fun i o ho => hI.done i o (hl i (Array.getElem?_eq_some_iff.1 ho).1) ho
  have hready : ∀ (listed : Array Bool), listed.size = ops.size → Region.ready .any ops listed = [] → ∀ n i, i < n → i < ops.size → listed.getD i false = true := by
    intro listed hsz hr n
    induction n with
    | zero => intro i hi; omega
    | succ n ih =>
      intro i hi hio
      cases hl : listed.getD i false with
      | true => rfl
      | false =>
        exfalso
        have hmem : i ∈ Region.ready .any ops listed := by
          unfold Region.ready
          rw [List.mem_filter]
          refine ⟨List.mem_range.2 hio, ?_⟩
          have h1 : listed.getD i true = false := by
            have hil : i < listed.size := by omega
            simpa [Array.getElem?_eq_getElem hil] using hl
          rw [h1, Array.getElem?_eq_getElem hio]
          simp only [Bool.not_false, Option.map_some, Option.getD_some, Bool.true_and]
          rw [Array.all_eq_true']
          intro e he
          obtain ⟨_, hlt⟩ := hb i _ (Array.getElem?_eq_getElem hio) e he
          rw [ih e.on (by omega) (by omega), Bool.or_true]
        rw [hr] at hmem
        cases hmem
  intro fuel
  induction fuel with
  | zero =>
    intro listed a w γ hsz hc hI
    have hl : ∀ i, i < ops.size → listed.getD i false = true := by
      intro i hi
      have hil : i < listed.size := by omega
      have hne : listed[i] ≠ false := by
        intro e
        have : 0 < listed.toList.count false := List.count_pos_iff.2 (by rw [← e]; simp)
        omega
      simpa [Array.getElem?_eq_getElem hil] using hne
    refine ⟨?_, hall listed a w γ hsz hl hI⟩
    unfold Region.ready
    rw [List.filter_eq_nil_iff]
    intro i hi
    have hi := List.mem_range.1 hi
    have hil : i < listed.size := by omega
    have := hl i hi
    simp only [Array.getElem?_eq_getElem hil, Array.getD_eq_getD_getElem?, Option.getD_some] at this ⊢
    simp [this]
  | succ fuel ih =>
    intro listed a w γ hsz hc hI
    refine ⟨fun hr => hall listed a w γ hsz (fun i hi => hready listed hsz hr (i + 1) i (by omega) hi) hI, fun i hi => ?_⟩
    unfold Region.ready at hi
    rw [List.mem_filter, List.mem_range] at hi
    obtain ⟨hio, hi⟩ := hi
    rw [Array.getElem?_eq_getElem hio] at hi
    simp only [Option.map_some, Option.getD_some, Bool.and_eq_true, Bool.not_eq_true'] at hi
    obtain ⟨hun, hpre⟩ := hi
    rw [Array.all_eq_true'] at hpre
    have ho : ops[i]? = some ops[i] := Array.getElem?_eq_getElem hio
    generalize ops[i] = o at ho hpre
    unfold wpOp
    rw [ho]
    simp only
    rw [if_pos (by simp [Region.wanted, hg i o ho])]
    refine .inl (hs i o ho a w γ hI.rest hI.world (fun e he x hx => hI.done e.on x ?_ hx) _ fun v w' γ' hR' hst hv => ?_)
    · have := hpre e he
      rw [(hb i o ho e he).1] at this
      simpa using this
    · refine ih _ _ _ γ' (by simpa using hsz) (by have := count_set listed i hun; omega) ?_
      refine ⟨by rw [defers_put]; exact hI.defers, by rw [size_put]; exact hI.size, fun t ht => (getD_put_ne (ht i o ho)).trans (hI.rest t ht), hR', fun j x hj hx => ?_⟩
      by_cases hji : j = i
      · subst hji
        rw [ho] at hx
        cases hx
        unfold valOf
        cases hdst : o.dst with
        | none => exact hφ j o v w' γ' ho hdst hv
        | some d =>
          simp only
          rw [getD_put_same (by rw [hI.size]; exact (hd j o d ho hdst).1)]
          exact hv
      · have hj' : listed.getD j false = true := by
          rw [Array.getD_eq_getD_getElem?, Array.getElem?_setIfInBounds_ne (Ne.symm hji)] at hj
          simpa using hj
        have h1 := hst j _ (hI.done j x hj' hx)
        have e : valOf x (a.put o.dst v) = valOf x a := by
          unfold valOf
          cases hdx : x.dst with
          | none => rfl
          | some d => exact getD_put_ne (fun e => (hd j x d hx hdx).2 i o ho (Ne.symm hji) e)
        rw [e]
        exact h1
/-- What a program can look at of such a region. -/
def freeOk (ops : Array Oper) (n : Nat) : Bool :=
  ops.toList.zipIdx.all fun (o, i) => o.guard.isNone && o.after.all (fun e => Region.binds .any e && decide (e.on < i)) &&
    match o.dst with
    | some d => decide (d < n) && ops.toList.zipIdx.all (fun (x, j) => j == i || x.dst != some d)
    | none => true
theorem freeOk_spec {n : Nat} (h : freeOk ops n = true) {i : Nat} {o : Oper} (ho : ops[i]? = some o) :
    o.guard = none ∧ (∀ e ∈ o.after, Region.binds .any e = true ∧ e.on < i) ∧ ∀ d, o.dst = some d → d < n ∧ ∀ (j : Nat) (x : Oper), ops[j]? = some x → j ≠ i → x.dst ≠ some d := by
  have hz : ∀ (i : Nat) (o : Oper), ops[i]? = some o → (o, i) ∈ ops.toList.zipIdx := by
    intro i o ho
    rw [List.mem_zipIdx_iff_getElem?]
    simpa using ho
  unfold freeOk at h
  rw [List.all_eq_true] at h
  have h1 := h _ (hz i o ho)
  simp only [Bool.and_eq_true] at h1
  obtain ⟨⟨hg, ha⟩, hd⟩ := h1
  refine ⟨by simpa using hg, ?_, ?_⟩
  · intro e he
    rw [Array.all_eq_true'] at ha
    simpa using ha e he
  · intro d hdst
    rw [hdst] at hd
    simp only [Bool.and_eq_true, decide_eq_true_eq] at hd
    refine ⟨hd.1, fun j x hx hne => ?_⟩
    have h2 := List.all_eq_true.1 hd.2 _ (hz j x hx)
    simp only [Bool.or_eq_true, beq_iff_eq, hne, false_or] at h2
    simpa using h2
/-- What an operation has left, by the list of the slots. -/
def left (ds : List (Option Nat)) (ev : Operand → Value) (k : Nat) : Value := match ds[k]? with | some (some d) => ev (.tmp d) | _ => undef
/-- What is owed for an operation, over any reading of its operands. -/
def Step (P : Program) (ds : List (Option Nat)) (fx : List (Nat × Value)) (Q : Exit → Act → World → Prop) (R : World → (Nat → Nat) → Prop) (φ : Nat → Value → World → (Nat → Nat) → Prop) (i : Nat) (o : Oper) : Prop :=
  ∀ (a : Act) (w : World) (γ : Nat → Nat) (ev : Operand → Value), (∀ v, ev (.const v) = v) → (∀ f, ev (.func f) = .func (.func f) #[] #[]) → (∀ x ∈ fx, ev (.tmp x.1) = x.2) → R w γ →
    (∀ k ∈ o.after.toList.map (·.on), φ k (left ds ev k) w γ) →
    ∀ K : Act → World → Prop, (∀ v w' γ', R w' γ' → (∀ j u, φ j u w γ → φ j u w' γ') → φ i v w' γ' → K (a.put o.dst v) w') → o.upon P a K Q ((execOp ev o).run P w)
/-- The steps, one for each operation of the list. -/
def Steps' (P : Program) (ds : List (Option Nat)) (fx : List (Nat × Value)) (Q : Exit → Act → World → Prop) (R : World → (Nat → Nat) → Prop) (φ : Nat → Value → World → (Nat → Nat) → Prop) : Nat → List Oper → Prop
  | _, [] => True
  | i, o :: rest => Step P ds fx Q R φ i o ∧ Steps' P ds fx Q R φ (i + 1) rest
theorem Steps'.get {ds : List (Option Nat)} {fx : List (Nat × Value)} {R : World → (Nat → Nat) → Prop} {φ : Nat → Value → World → (Nat → Nat) → Prop} : ∀ (l : List Oper) (k : Nat), Steps' P ds fx Q R φ k l → ∀ (i : Nat) (o : Oper), l[i]? = some o → Step P ds fx Q R φ (k + i) o := by
  intro l
  induction l with
  | nil => intro k _ i o h; simp at h
  | cons x l ih =>
    intro k h i o ho
    cases i with
    | zero => simp only [List.getElem?_cons_zero, Option.some.injEq] at ho; subst ho; exact h.1
    | succ i => have := ih (k + 1) h.2 i o (by simpa using ho); rwa [show k + (i + 1) = k + 1 + i by omega]
theorem left_eq {ds : List (Option Nat)} (hds : ops.toList.map (·.dst) = ds) {k : Nat} {x : Oper} (hx : ops[k]? = some x) (a : Act) : left ds a.eval k = valOf x a := by
  subst hds
  unfold left valOf
  simp only [List.getElem?_map, Array.getElem?_toList, hx, Option.map_some]
  cases x.dst <;> rfl
/-- THE RULE: a region that draws its order, with no guards. fx: slots that it doesn't write. -/
theorem wp_region_free {id : Nat} {a : Act} {w : World} (ds : List (Option Nat)) (fx : List (Nat × Value)) (R : World → (Nat → Nat) → Prop) (φ : Nat → Value → World → (Nat → Nat) → Prop) (hm : P.follows .mixedOrders = true) (hok : freeOk ops a.tmps.size = true)
    (hds : ops.toList.map (·.dst) = ds) (hfx : ∀ x ∈ fx, (!ds.contains (some x.1)) = true ∧ a.tmps.getD x.1 undef = x.2)
    (hφ : ∀ (i : Nat) (v : Value) (w : World) (γ : Nat → Nat), ds[i]? = some none → φ i v w γ → φ i undef w γ) (h0 : ∃ γ, R w.drew γ)
    (hs : Steps' P ds fx Q R φ 0 ops.toList)
    (hend : ∀ a' w' γ, a'.defers = a.defers → a'.tmps.size = a.tmps.size → (∀ x ∈ fx, a'.tmps.getD x.1 undef = x.2) → R w' γ → (∀ i, i < ds.length → φ i (left ds a'.eval i) w' γ) → Q .normal a' w') :
    (Code.region id ops true).wp P Q a w := by
  obtain ⟨γ, hγ⟩ := h0
  have hfree : ∀ x ∈ fx, ∀ (j : Nat) (y : Oper), ops[j]? = some y → y.dst ≠ some x.1 := by
    intro x hx j y hy e
    have h1 := (hfx x hx).1
    simp only [Bool.not_eq_true', List.contains_eq_mem, decide_eq_false_iff_not] at h1
    apply h1
    rw [← hds, ← e]
    exact List.mem_map_of_mem (Array.mem_toList_iff.2 (Array.mem_of_getElem? hy))
  have hdsn : ∀ (i : Nat) (o : Oper), ops[i]? = some o → ds[i]? = some o.dst := by
    intro i o ho
    rw [← hds, List.getElem?_map, Array.getElem?_toList, ho]
    rfl
  refine wp_region_any hm (free_sound (a0 := a) (R := R) (φ := φ) (fun i o ho => (freeOk_spec hok ho).1) (fun i o ho => (freeOk_spec hok ho).2.1) (fun i o d ho hd => (freeOk_spec hok ho).2.2 d hd)
    (fun i o v w γ ho hdst hv => hφ i v w γ (by rw [hdsn i o ho, hdst]) hv) (fun i o ho => ?_) (fun a' w' γ h1 h2 h3 h4 h5 => hend a' w' γ h1 h2 (fun x hx => (h3 x.1 (hfree x hx)).trans (hfx x hx).2) h4 (fun i hi => ?_)) ops.size _ a _ γ (by simp) (by simp) ?_)
  · have hstep := Steps'.get ops.toList 0 hs i o (by simpa using ho)
    rw [Nat.zero_add] at hstep
    intro a' w' γ' hrest hR hpre K hK
    refine hstep a' w' γ' a'.eval (fun _ => rfl) (fun _ => rfl) (fun x hx => (hrest x.1 (hfree x hx)).trans (hfx x hx).2) hR (fun k hk => ?_) K hK
    obtain ⟨e, he, rfl⟩ := List.mem_map.1 hk
    have hlt := ((freeOk_spec hok ho).2.1 e (Array.mem_toList_iff.1 he)).2
    have hko : ops[e.on]? = some (ops[e.on]'(by have := (Array.getElem?_eq_some_iff.1 ho).1; omega)) := Array.getElem?_eq_getElem _
    rw [left_eq hds hko]
    exact hpre e (Array.mem_toList_iff.1 he) _ hko
  · have hi' : i < ops.size := by rw [← hds] at hi; simpa using hi
    have hko : ops[i]? = some ops[i] := Array.getElem?_eq_getElem hi'
    rw [left_eq hds hko]
    exact h5 i _ hko
  · refine ⟨rfl, rfl, fun _ _ => rfl, hγ, fun i o hl => ?_⟩
    rw [Array.getD_eq_getD_getElem?] at hl
    by_cases hi : i < ops.size <;> simp [hi] at hl
end
end Go.Proofs.Ytcecbohaajocfaa
