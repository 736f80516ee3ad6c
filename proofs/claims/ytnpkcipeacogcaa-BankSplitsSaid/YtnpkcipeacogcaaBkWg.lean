/-
  BankBalance returns true for every three lists of small numbers, and leaves them as they were: what the batteries have at the end and what was served are together what they had at first and what the generators gave; no battery has less than nothing or more than it holds; what was served is the load of all seconds before it became dark.
  No condition but the row's own.
-/
import Derived.Test.YtnpkcipeacogcaaBkWf
import Derived.Test.YtnpkcipeacogcaaRows
import Derived.OpenShut
import Derived.ProofKit
import Derived.Deep.Slices
import Derived.Deep.DeepHandedRow
import Derived.Deep.DeepWitnessRowRef

set_option linter.unusedSimpArgs false
set_option linter.unusedVariables false
namespace Go.Proofs.Ytnpkcipeacogcaa
open Go.ChangeShapes Go.WideShapes Go.ChangeAt Go.RowKit Go.Deep

section
variable {H : Type} {enc : TypeId × Value → H} {P : Program} {w : World} {base : Nat} {spare : Nat → Bool} {held : Bool}
theorem cell_spot {w : World} {a : Addr} {v : Value} (h : w.cell? a = some v) : a.spot = none ∧ a.block < w.heap.size := by
  unfold World.cell? at h
  split at h
  · rename_i c _ _ hb
    split at h
    · cases h
    · rename_i hs
      exact ⟨by simpa using hs, (Array.getElem?_eq_some_iff.1 hb).1⟩
  · cases h
/-- A SLICE OF ELEMENTS OF SO MANY CELLS, READ. -/
theorem rd_of {α : Type} [Inhabited α] {t e : TypeId} {size fuel : Nat} {cs : List Value} {x : DataW H × List MemPlace} (f : α → List Value) (R : α → Prop) (ht : P.underlying t = some (.slice e)) (hc : P.cellsOf e = size) (hpos : 0 < size)
    (h : DataW.trod enc P w base spare held fuel t cs = some x)
    (hel : ∀ n cs' y, cs'.length = size → DataW.trod enc P w base spare held n e cs' = some y → ∃ z : α, cs' = f z ∧ R z) :
    ∃ (A : Option Addr) (n c : Nat) (l : List α), cs = [.slice A n c] ∧ Rd w w.heap.size size f A n l ∧ n ≤ c ∧ n ≤ maxLen ∧ ∀ z ∈ l, R z := by
  rcases open_slice ht h with ⟨rfl, _⟩ | ⟨a, len, cap, m, k, D, Pl, rfl, _, hl, hm, hmm, _, hx⟩
  · exact ⟨none, 0, 0, [], rfl, Rd.nil _ _ _ _, Nat.le_refl _, Nat.zero_le _, fun _ h => by simp at h⟩
  have hml : len ≤ m := by rw [hmm]; split <;> omega
  obtain ⟨F, hF⟩ := choose_lt (α := α) (n := len) (p := fun i z => w.cells? base (a.add (i * size)) size = some (f z) ∧ R z) (fun i hi => by
    obtain ⟨cs', h1, h2⟩ := hx i (by omega)
    rw [hc] at h1
    obtain ⟨z, rfl, hz⟩ := hel k cs' _ (World.cells?_some h1).2.1 h2
    exact ⟨z, h1, hz⟩)
  have hcell : ∀ i, i < len → ∀ j u, (f (F i))[j]? = some u → w.cell? (a.add (i * size + j)) = some u := fun i hi j u hu => by
    obtain ⟨_, h1, h2⟩ := World.cells?_some (hF i hi).1
    have hj : j < size := by rw [← h1]; exact (List.getElem?_eq_some_iff.1 hu).1
    have := h2 j hj
    rw [add_add] at this
    rw [this, hu]
  refine ⟨some a, len, cap, (List.range len).map F, rfl, ⟨by simp, fun h0 => ?_⟩, hl, by omega, ?_⟩
  · obtain ⟨_, h1, h2⟩ := World.cells?_some (hF 0 h0).1
    have h3 := h2 0 hpos
    rw [List.getElem?_eq_getElem (by omega), add_add] at h3
    have h4 : w.cell? a = some ((f (F 0))[0]'(by omega)) := by simpa [Addr.add] using h3
    obtain ⟨e1, e2⟩ := cell_spot h4
    obtain ⟨b, off, sp⟩ := a
    simp only at e1 e2
    subst e1
    refine ⟨b, off, rfl, e2, fun i z hz j u hu => ?_⟩
    obtain ⟨hi, rfl⟩ : i < len ∧ F i = z := by
      rw [List.getElem?_map] at hz
      obtain ⟨i', h5, h6⟩ := Option.map_eq_some_iff.1 hz
      obtain ⟨h7, h8⟩ := List.getElem?_eq_some_iff.1 h5
      simp only [List.length_range] at h7
      simp only [List.getElem_range] at h8
      subst h8
      exact ⟨h7, h6⟩
    have := hcell i hi j u hu
    unfold Addr.add at this
    split at this
    · rename_i h9
      rw [show off + i * size + j = off by omega]
      exact this
    · rw [show off + i * size + j = off + (i * size + j) by omega]
      exact this
  · intro z hz
    obtain ⟨i, hi, rfl⟩ := List.mem_map.1 hz
    exact (hF i (List.mem_range.1 hi)).2
set_option maxRecDepth 100000 in
theorem u8s_of {r : Reach} {b0 : Nat} {v : Value} {d : DataW H} {ps : List MemPlace} (hv : Value.okWide Try.prog w r b0 22 v) (h : DataW.Trod enc Try.prog w base spare held 22 v d ps) :
    ∃ (A : Option Addr) (n c : Nat) (l : List Int), v = .slice A n c ∧ Rd w w.heap.size 1 encU A n l ∧ U8s l ∧ n ≤ 9223372036854775807 := by
  obtain ⟨a1, a2, a3, rfl⟩ := okWide_slice Try.underlying22 hv
  obtain ⟨fuel, hf⟩ := h
  obtain ⟨A, n, c, l, e, hr, _, hm, hl⟩ := rd_of encU (fun x => 0 ≤ x ∧ x ≤ 255) Try.underlying22 (size := 1) (by kernel_rfl) (by decide) hf (fun n cs' y hlen hy => by
    obtain ⟨m, e, _, hw⟩ := DataW.trod_int Try.underlying5 hy
    refine ⟨m, e, ?_⟩
    simp only [Lit.wf, Bool.and_eq_true, decide_eq_true_eq] at hw
    have e1 : IntKind.u8.min = 0 := rfl
    have e2 : IntKind.u8.max = 255 := rfl
    rw [e1, e2] at hw
    exact hw)
  unfold maxLen at hm
  refine ⟨A, n, c, l, ?_, hr, hl, by omega⟩
  simpa [Value.cells] using e
end
theorem ownKnobs : ownKnob Try.prog.godebug = none := by kernel_rfl
theorem laidOuts : laidOutB Try.prog = true := by kernel_rfl
theorem bytes_reads : Try.prog.readableRec 22 = true ∧ 22 < Try.prog.types.size := ⟨by kernel_rfl, of_decide_eq_true (by kernel_rfl)⟩
theorem stays {H : Type} {enc : TypeId × Value → H} {t : TypeId} (hr : Try.prog.readableRec t = true ∧ t < Try.prog.types.size) {W W' : World} {v : Value} {d : DataW H} {ps : List MemPlace} {sp : Nat → Bool}
    (h : DataW.Trod enc Try.prog W 0 (fun _ => true) true t v d ps) (hb : Below W.heap.size W W') (hlt : ∀ x ∈ ps, x.block < W.heap.size) (hsp : ∀ x ∈ ps, sp x.block = true) :
    DataW.Trod enc Try.prog W' 0 sp true t v d ps :=
  WideElems.Trod_stays laidOuts hr.1 hr.2 h (fun x hx => hb.same (hlt x hx)) hsp
/-- BEHIND THE CALL: what lay below is as it was, the arguments read as they did. -/
theorem post_below {H : Type} {enc : TypeId × Value → H} {P : Program} {f : Func} {s : ChangeSpec} {W W' : World} {args : Array Value} {v : Value} {ds gs : List (DataW H)} {before pa pv : List MemPlace}
    (hW : DataW.Whole enc P f.params.toList s.vars false W args.toList ds gs before)
    (hres : ∀ (b : Nat) (sp : Nat → Bool) (hd : Bool), DataW.TrodAll enc P W' b sp hd f.resultTypes.toList (v.resultList f.resultTypes.size) (s.fn H (ds ++ gs)).results [])
    (hargs : ∀ sp : Nat → Bool, (∀ p ∈ before, sp p.block = true) → DataW.TrodAll enc P W' 0 sp true f.params.toList args.toList (s.fn H (ds ++ gs)).args pa)
    (hvars : ∀ sp : Nat → Bool, (∀ p ∈ before, sp p.block = true) → DataW.TrodVars enc P W' sp s.vars (s.fn H (ds ++ gs)).vars pv)
    (hps : before = pa ++ pv) (hb : Below W.heap.size W W')
    (hok : ∀ (j : Nat) (t : TypeId) (r : Value), f.resultTypes[j]? = some t → (v.resultList f.resultTypes.size)[j]? = some r → Value.okWide P W' .any 0 t r) :
    s.post enc P f false true false false W args v W' := by
  have hold : ∀ p ∈ before, (fun b => decide (b < W.heap.size)) p.block = true := fun p hp => by simpa using hW.lt p hp
  refine ⟨ds, gs, before, [], pa, pv, hW, hres _ _ _, hargs _ hold, hvars _ hold, hb.frame _, fun _ => ?_⟩
  have hlt := hW.lt
  obtain ⟨_, _, _, _, _, hz, hn⟩ := hW
  refine ⟨hok, _, _, ([] ++ pa) ++ pv, ⟨[] ++ pa, pv, trodAll_append (hargs _ (fun _ _ => rfl)) (hres _ _ _), hvars _ (fun _ _ => rfl), rfl, ?_, ?_⟩, ?_⟩
  · intro b off hp
    have hp' : MemPlace.cell b off ∈ before := by rw [hps]; simpa using hp
    rw [hb.frozen (p := ⟨b, off, none⟩) (hlt _ hp')]
    exact hz b off hp'
  · intro ha
    have := hn ha
    rw [hps] at this
    simpa using this
  · intro p hp _
    rw [hps]
    simpa using hp
set_option maxRecDepth 100000 in
theorem contract (H : Type) (enc : TypeId × Value → H) (W : World) (base : Nat) (args : Array Value) (ds gs : List (DataW H)) (before : List MemPlace)
    (hval : ∀ (j : Nat) t v, Try.f4.params[j]? = some t → args[j]? = some v → Value.okWide Try.prog W .any base t v)
    (hW : DataW.Whole enc Try.prog Try.f4.params.toList Rows.bankBalanceSpec.vars false W args.toList ds gs before) :
    Calls Try.prog 4 args W fun e W' => ∃ v, e = .returned v ∧ Rows.bankBalanceSpec.post enc Try.prog Try.f4 false true false false W args v W' := by
  have hW' := hW
  obtain ⟨p, q, hA0, hV, rfl, hfz, hnd⟩ := hW
  have hA : DataW.TrodAll enc Try.prog W 0 (fun _ => true) true Try.f4.params.toList args.toList ds p := hA0
  rw [Try.params4] at hA hval
  obtain ⟨v0, vs0, d0, ds0, p0, q0, hargs, rfl, rfl, h0, r0⟩ := trodAll_cons hA
  obtain ⟨v1, vs1, d1, ds1, p1, q1, rfl, rfl, rfl, h1, r1⟩ := trodAll_cons r0
  obtain ⟨v2, vs2, d2, ds2, p2, q2, rfl, rfl, rfl, h2, r2⟩ := trodAll_cons r1
  obtain ⟨rfl, rfl, rfl⟩ := trodAll_nil r2
  obtain rfl : args = #[v0, v1, v2] := by cases args; simp_all
  obtain ⟨rfl, rfl⟩ := trodVars_none hV
  obtain ⟨A0, n0, c0, l0, rfl, k0, b0, m0⟩ := u8s_of (hval 0 22 v0 rfl rfl) h0
  obtain ⟨A1, n1, c1, l1, rfl, k1, b1, m1⟩ := u8s_of (hval 1 22 v1 rfl rfl) h1
  obtain ⟨A2, n2, c2, l2, rfl, k2, b2, m2⟩ := u8s_of (hval 2 22 v2 rfl rfl) h2
  clear hA0
  simp only [List.append_nil] at hW'
  have hlt : ∀ z ∈ p0 ++ (p1 ++ p2), z.block < W.heap.size := fun z hz => by simpa using hW'.lt z (by simpa using hz)
  refine (balance_any A0 A1 A2 n0 c0 n1 c1 n2 c2 l0 l1 l2 W k0 k1 k2 b0 b1 b2 m0 m1 m2).mono fun e W' ⟨he, hg⟩ => ?_
  subst he
  have again : ∀ sp : Nat → Bool, (∀ z ∈ p0 ++ (p1 ++ p2), sp z.block = true) → DataW.TrodAll enc Try.prog W' 0 sp true [22, 22, 22] [.slice A0 n0 c0, .slice A1 n1 c1, .slice A2 n2 c2] [d0, d1, d2] (p0 ++ (p1 ++ (p2 ++ []))) := fun sp hsp =>
    trodAll_cons_mk (stays bytes_reads h0 hg (fun z hz => hlt z (by simp [hz])) (fun z hz => hsp z (by simp [hz])))
      (trodAll_cons_mk (stays bytes_reads h1 hg (fun z hz => hlt z (by simp [hz])) (fun z hz => hsp z (by simp [hz])))
        (trodAll_cons_mk (stays bytes_reads h2 hg (fun z hz => hlt z (by simp [hz])) (fun z hz => hsp z (by simp [hz]))) trodAll_mk0))
  have again' : ∀ sp : Nat → Bool, (∀ z ∈ p0 ++ (p1 ++ p2), sp z.block = true) → DataW.TrodAll enc Try.prog W' 0 sp true [22, 22, 22] [.slice A0 n0 c0, .slice A1 n1 c1, .slice A2 n2 c2] [d0, d1, d2] (p0 ++ (p1 ++ p2)) := fun sp hsp => by simpa using again sp hsp
  exact ⟨_, rfl, post_below (pa := p0 ++ (p1 ++ p2)) (pv := []) (v := .bool true) hW' (fun _ _ _ => trodAll_cons_mk (shut_bool Try.underlying4 _) trodAll_mk0) (fun sp hsp => again' sp (fun z hz => hsp z hz)) (fun _ _ => rfl) (by simp) hg (ok_one (by kernel_rfl) rfl (okWide_bool_mk Try.underlying4 _))⟩
def args0 : Array Value := #[.slice none 0 0, .slice none 0 0, .slice none 0 0]
noncomputable def bareWorld (os : Os) : World := World.holding Try.prog os ⟨#[], #[], []⟩
theorem reads (os : Os) {H : Type} (enc : TypeId × Value → H) : ∃ ds places, DataW.whole enc Try.prog ((bareWorld os).forCall (fun _ _ => 0) ⟨#[], args0, []⟩).memory Try.f4.params.toList Rows.bankBalanceSpec.vars false args0.toList 8 = some (ds, [], places) :=
  ⟨[.nil, .nil, .nil], [], by kernel_rfl⟩
theorem laid_met (os : Os) : laidMet Try.prog Rows.bankBalanceRow.laid ((bareWorld os).forCall (fun _ _ => 0) ⟨#[], args0, []⟩).memory :=
  by first | exact ⟨[], rfl, List.nodup_nil, fun b off h => by cases h⟩ | exact ⟨[], trivial, List.nodup_nil, fun b off h => by cases h⟩ | exact ⟨[], .nil, List.nodup_nil, fun b off h => by cases h⟩
set_option maxRecDepth 100000 in
theorem lifted (os : Os) (started : os.Started) (H : Type) (enc : TypeId × Value → H) (F : Stop.Interp) :
    ReturnsInHanded {} Try.checked os 4 .any ((OpenSpec.ofChange Rows.bankBalanceSpec).preRow enc Try.prog Try.f4 Rows.bankBalanceRow.domain false Rows.bankBalanceRow.laid) (((OpenSpec.ofChange Rows.bankBalanceSpec).at F).post enc Try.prog Try.f4 false true false false) := by
  obtain ⟨ds, places, hx⟩ := reads os enc
  refine returnsInHanded_of_row (C := Try.checked) (s := OpenSpec.ofChange Rows.bankBalanceSpec) ownKnobs started (by kernel_rfl) Try.func4
    (witness_row_at (enc := enc) (C := Try.checked) false (bareWorld os) args0 rfl (by kernel_rfl) (by kernel_rfl) (by kernel_rfl)
      (OpenSpec.preRow_of_cond 8 hx (by kernel_rfl) (fun k hk => by cases hk) (by kernel_rfl) (laid_met os))) ?_
  intro W base args ds gs before hval hW _ _ _ _ _ _
  exact contract H enc W base args ds gs before hval hW
theorem balance_said : Rows.BankBalanceSaid :=
  OpenClaim.holds_of_cond 4 Try.f4 rfl rfl rfl rfl rfl rfl rfl ⟨rfl, rfl, rfl, rfl, rfl⟩ rfl rfl rfl rfl rfl (by kernel_rfl) Try.func4 (by kernel_rfl)
    (of_decide_eq_true (by kernel_rfl)) (by unfold Func.isWrapper; first | (rw [if_pos (by decide +kernel)]; kernel_rfl) | (rw [if_neg (by decide +kernel)]; exact ⟨rfl, rfl⟩))
    (fun os started H enc _ F => by rw [OpenClaim.pre_eq_preRow]; exact lifted os started H enc F)
end Go.Proofs.Ytnpkcipeacogcaa
