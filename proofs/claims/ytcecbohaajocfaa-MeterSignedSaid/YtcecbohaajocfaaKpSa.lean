/- What every statement over lists of small numbers needs: how its arguments are read. (The first part of bank's text XBkWg.) -/
import Derived.Test.YtcecbohaajocfaaKpG
import Derived.Test.YtcecbohaajocfaaRows
import Derived.OpenShut
import Derived.ProofKit
import Derived.Deep.Slices
import Derived.Deep.DeepHandedRow
import Derived.Deep.DeepWitnessRowRef

set_option linter.unusedSimpArgs false
set_option linter.unusedVariables false
namespace Go.Proofs.Ytcecbohaajocfaa
open Go.ChangeShapes Go.WideShapes Go.ChangeAt Go.RowKit Go.Deep

section
variable {H : Type} {enc : TypeId × Value → H} {P : Program} {w : World} {base : Nat} {spare : Nat → Bool} {held : Bool}
theorem cell_spot {w : World} {a : Addr} {v : Value} (h : w.cell? a = some v) : a.spot = none ∧ a.block < w.heap.size := by
  unfold World.cell? at h
  split at h
  · rename_i c _ _ hb
    split at h
    · cases h
    · rename_i hs
      exact ⟨by simpa using hs, (Array.getElem?_eq_some_iff.1 hb).1⟩
  · cases h
/-- A SLICE OF ELEMENTS OF SO MANY CELLS, READ. -/
theorem rd_of {α : Type} [Inhabited α] {t e : TypeId} {size fuel : Nat} {cs : List Value} {x : DataW H × List MemPlace} (f : α → List Value) (R : α → Prop) (ht : P.underlying t = some (.slice e)) (hc : P.cellsOf e = size) (hpos : 0 < size)
    (h : DataW.trod enc P w base spare held fuel t cs = some x)
    (hel : ∀ n cs' y, cs'.length = size → DataW.trod enc P w base spare held n e cs' = some y → ∃ z : α, cs' = f z ∧ R z) :
    ∃ (A : Option Addr) (n c : Nat) (l : List α), cs = [.slice A n c] ∧ Rd w w.heap.size size f A n l ∧ n ≤ c ∧ n ≤ maxLen ∧ ∀ z ∈ l, R z := by
  rcases open_slice ht h with ⟨rfl, _⟩ | ⟨a, len, cap, m, k, D, Pl, rfl, _, hl, hm, hmm, _, hx⟩
  · exact ⟨none, 0, 0, [], rfl, Rd.nil _ _ _ _, Nat.le_refl _, Nat.zero_le _, fun _ h => by simp at h⟩
  have hml : len ≤ m := by rw [hmm]; split <;> omega
  obtain ⟨F, hF⟩ := choose_lt (α := α) (n := len) (p := fun i z => w.cells? base (a.add (i * size)) size = some (f z) ∧ R z) (fun i hi => by
    obtain ⟨cs', h1, h2⟩ := hx i (by omega)
    rw [hc] at h1
    obtain ⟨z, rfl, hz⟩ := hel k cs' _ (World.cells?_some h1).2.1 h2
    exact ⟨z, h1, hz⟩)
  have hcell : ∀ i, i < len → ∀ j u, (f (F i))[j]? = some u → w.cell? (a.add (i * size + j)) = some u := fun i hi j u hu => by
    obtain ⟨_, h1, h2⟩ := World.cells?_some (hF i hi).1
    have hj : j < size := by rw [← h1]; exact (List.getElem?_eq_some_iff.1 hu).1
    have := h2 j hj
    rw [add_add] at this
    rw [this, hu]
  refine ⟨some a, len, cap, (List.range len).map F, rfl, ⟨by simp, fun h0 => ?_⟩, hl, by omega, ?_⟩
  · obtain ⟨_, h1, h2⟩ := World.cells?_some (hF 0 h0).1
    have h3 := h2 0 hpos
    rw [List.getElem?_eq_getElem (by omega), add_add] at h3
    have h4 : w.cell? a = some ((f (F 0))[0]'(by omega)) := by simpa [Addr.add] using h3
    obtain ⟨e1, e2⟩ := cell_spot h4
    obtain ⟨b, off, sp⟩ := a
    simp only at e1 e2
    subst e1
    refine ⟨b, off, rfl, e2, fun i z hz j u hu => ?_⟩
    obtain ⟨hi, rfl⟩ : i < len ∧ F i = z := by
      rw [List.getElem?_map] at hz
      obtain ⟨i', h5, h6⟩ := Option.map_eq_some_iff.1 hz
      obtain ⟨h7, h8⟩ := List.getElem?_eq_some_iff.1 h5
      simp only [List.length_range] at h7
      simp only [List.getElem_range] at h8
      subst h8
      exact ⟨h7, h6⟩
    have := hcell i hi j u hu
    unfold Addr.add at this
    split at this
    · rename_i h9
      rw [show off + i * size + j = off by omega]
      exact this
    · rw [show off + i * size + j = off + (i * size + j) by omega]
      exact this
  · intro z hz
    obtain ⟨i, hi, rfl⟩ := List.mem_map.1 hz
    exact (hF i (List.mem_range.1 hi)).2
set_option maxRecDepth 100000 in
theorem u8s_of {r : Reach} {b0 : Nat} {v : Value} {d : DataW H} {ps : List MemPlace} (hv : Value.okWide Try.prog w r b0 31 v) (h : DataW.Trod enc Try.prog w base spare held 31 v d ps) :
    ∃ (A : Option Addr) (n c : Nat) (l : List Int), v = .slice A n c ∧ Rd w w.heap.size 1 encU A n l ∧ U8s l ∧ n ≤ 9223372036854775807 := by
  obtain ⟨a1, a2, a3, rfl⟩ := okWide_slice Try.underlying31 hv
  obtain ⟨fuel, hf⟩ := h
  obtain ⟨A, n, c, l, e, hr, _, hm, hl⟩ := rd_of encU (fun x => 0 ≤ x ∧ x ≤ 255) Try.underlying31 (size := 1) (by kernel_rfl) (by decide) hf (fun n cs' y hlen hy => by
    obtain ⟨m, e, _, hw⟩ := DataW.trod_int Try.underlying5 hy
    refine ⟨m, e, ?_⟩
    simp only [Lit.wf, Bool.and_eq_true, decide_eq_true_eq] at hw
    have e1 : IntKind.u8.min = 0 := rfl
    have e2 : IntKind.u8.max = 255 := rfl
    rw [e1, e2] at hw
    exact hw)
  unfold maxLen at hm
  refine ⟨A, n, c, l, ?_, hr, hl, by omega⟩
  simpa [Value.cells] using e
end
theorem ownKnobs : ownKnob Try.prog.godebug = none := by kernel_rfl
theorem laidOuts : laidOutB Try.prog = true := by kernel_rfl
theorem bytes_reads : Try.prog.readableRec 31 = true ∧ 31 < Try.prog.types.size := ⟨by kernel_rfl, of_decide_eq_true (by kernel_rfl)⟩
theorem stays {H : Type} {enc : TypeId × Value → H} {t : TypeId} (hr : Try.prog.readableRec t = true ∧ t < Try.prog.types.size) {W W' : World} {v : Value} {d : DataW H} {ps : List MemPlace} {sp : Nat → Bool}
    (h : DataW.Trod enc Try.prog W 0 (fun _ => true) true t v d ps) (hb : Below W.heap.size W W') (hlt : ∀ x ∈ ps, x.block < W.heap.size) (hsp : ∀ x ∈ ps, sp x.block = true) :
    DataW.Trod enc Try.prog W' 0 sp true t v d ps :=
  WideElems.Trod_stays laidOuts hr.1 hr.2 h (fun x hx => hb.same (hlt x hx)) hsp
/-- BEHIND THE CALL: what lay below is as it was, the arguments read as they did. -/
theorem post_below {H : Type} {enc : TypeId × Value → H} {P : Program} {f : Func} {s : ChangeSpec} {W W' : World} {args : Array Value} {v : Value} {ds gs : List (DataW H)} {before pa pv : List MemPlace}
    (hW : DataW.Whole enc P f.params.toList s.vars false W args.toList ds gs before)
    (hres : ∀ (b : Nat) (sp : Nat → Bool) (hd : Bool), DataW.TrodAll enc P W' b sp hd f.resultTypes.toList (v.resultList f.resultTypes.size) (s.fn H (ds ++ gs)).results [])
    (hargs : ∀ sp : Nat → Bool, (∀ p ∈ before, sp p.block = true) → DataW.TrodAll enc P W' 0 sp true f.params.toList args.toList (s.fn H (ds ++ gs)).args pa)
    (hvars : ∀ sp : Nat → Bool, (∀ p ∈ before, sp p.block = true) → DataW.TrodVars enc P W' sp s.vars (s.fn H (ds ++ gs)).vars pv)
    (hps : before = pa ++ pv) (hb : Below W.heap.size W W')
    (hok : ∀ (j : Nat) (t : TypeId) (r : Value), f.resultTypes[j]? = some t → (v.resultList f.resultTypes.size)[j]? = some r → Value.okWide P W' .any 0 t r) :
    s.post enc P f false true false false W args v W' := by
  have hold : ∀ p ∈ before, (fun b => decide (b < W.heap.size)) p.block = true := fun p hp => by simpa using hW.lt p hp
  refine ⟨ds, gs, before, [], pa, pv, hW, hres _ _ _, hargs _ hold, hvars _ hold, hb.frame _, fun _ => ?_⟩
  have hlt := hW.lt
  obtain ⟨_, _, _, _, _, hz, hn⟩ := hW
  refine ⟨hok, _, _, ([] ++ pa) ++ pv, ⟨[] ++ pa, pv, trodAll_append (hargs _ (fun _ _ => rfl)) (hres _ _ _), hvars _ (fun _ _ => rfl), rfl, ?_, ?_⟩, ?_⟩
  · intro b off hp
    have hp' : MemPlace.cell b off ∈ before := by rw [hps]; simpa using hp
    rw [hb.frozen (p := ⟨b, off, none⟩) (hlt _ hp')]
    exact hz b off hp'
  · intro ha
    have := hn ha
    rw [hps] at this
    simpa using this
  · intro p hp _
    rw [hps]
    simpa using hp
noncomputable def bareWorld (os : Os) : World := World.holding Try.prog os ⟨#[], #[], []⟩
end Go.Proofs.Ytcecbohaajocfaa
