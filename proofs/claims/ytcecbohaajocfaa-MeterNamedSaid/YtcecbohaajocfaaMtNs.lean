/-
  MeterNamed returns true for every two lists of small numbers and every list of numbers of 16 bits, and leaves them as they were: if the values were right but for some meters, these explain the case, and the least sets have at most as many nodes; if one meter was false and a balance is broken, it is one of the least sets, and all of them are single meters; if no balance is broken, the only least set is the empty one.
  No condition but the row's own.
-/
import Derived.Test.YtcecbohaajocfaaMtNm
import Derived.Test.YtcecbohaajocfaaKpSa

set_option linter.unusedSimpArgs false
set_option linter.unusedVariables false
namespace Go.Proofs.Ytcecbohaajocfaa.namd
open Go.ChangeShapes Go.WideShapes Go.ChangeAt Go.RowKit Go.Deep

set_option maxRecDepth 100000 in
theorem u8c_of {H : Type} {enc : TypeId × Value → H} {w : World} {base : Nat} {spare : Nat → Bool} {held : Bool} {r : Reach} {b0 : Nat} {v : Value} {d : DataW H} {ps : List MemPlace} (hv : Value.okWide Try.prog w r b0 31 v) (h : DataW.Trod enc Try.prog w base spare held 31 v d ps) :
    ∃ (A : Option Addr) (n c : Nat) (l : List Int), v = .slice A n c ∧ Rd w w.heap.size 1 encU A n l ∧ U8s l ∧ n ≤ c ∧ n ≤ 9223372036854775807 := by
  obtain ⟨a1, a2, a3, rfl⟩ := okWide_slice Try.underlying31 hv
  obtain ⟨fuel, hf⟩ := h
  obtain ⟨A, n, c, l, e, hr, hc, hm, hl⟩ := rd_of encU (fun x => 0 ≤ x ∧ x ≤ 255) Try.underlying31 (size := 1) (by kernel_rfl) (by decide) hf (fun n cs' y hlen hy => by
    obtain ⟨m, e, _, hw⟩ := DataW.trod_int Try.underlying5 hy
    refine ⟨m, e, ?_⟩
    simp only [Lit.wf, Bool.and_eq_true, decide_eq_true_eq] at hw
    have e1 : IntKind.u8.min = 0 := rfl
    have e2 : IntKind.u8.max = 255 := rfl
    rw [e1, e2] at hw
    exact hw)
  unfold maxLen at hm
  refine ⟨A, n, c, l, ?_, hr, hl, hc, by omega⟩
  simpa [Value.cells] using e
set_option maxRecDepth 100000 in
theorem w16s_of {H : Type} {enc : TypeId × Value → H} {w : World} {base : Nat} {spare : Nat → Bool} {held : Bool} {r : Reach} {b0 : Nat} {v : Value} {d : DataW H} {ps : List MemPlace} (hv : Value.okWide Try.prog w r b0 32 v) (h : DataW.Trod enc Try.prog w base spare held 32 v d ps) :
    ∃ (A : Option Addr) (n c : Nat) (l : List Int), v = .slice A n c ∧ Rd w w.heap.size 1 encW A n l ∧ U16s l ∧ n ≤ 9223372036854775807 := by
  obtain ⟨a1, a2, a3, rfl⟩ := okWide_slice Try.underlying32 hv
  obtain ⟨fuel, hf⟩ := h
  obtain ⟨A, n, c, l, e, hr, _, hm, hl⟩ := rd_of encW (fun x => 0 ≤ x ∧ x ≤ 65535) Try.underlying32 (size := 1) (by kernel_rfl) (by decide) hf (fun n cs' y hlen hy => by
    obtain ⟨m, e, _, hw⟩ := DataW.trod_int Try.underlying40 hy
    refine ⟨m, e, ?_⟩
    simp only [Lit.wf, Bool.and_eq_true, decide_eq_true_eq] at hw
    have e1 : IntKind.u16.min = 0 := rfl
    have e2 : IntKind.u16.max = 65535 := rfl
    rw [e1, e2] at hw
    exact hw)
  unfold maxLen at hm
  refine ⟨A, n, c, l, ?_, hr, hl, by omega⟩
  simpa [Value.cells] using e
theorem words_reads : Try.prog.readableRec 32 = true ∧ 32 < Try.prog.types.size := ⟨by kernel_rfl, of_decide_eq_true (by kernel_rfl)⟩
theorem named_any (A0 A1 A2 : Option Addr) (n0 c0 n1 c1 n2 c2 : Nat) (l0 l1 l2 : List Int) (w : World) (r0 : Rd w w.heap.size 1 encU A0 n0 l0) (r1 : Rd w w.heap.size 1 encU A1 n1 l1) (r2 : Rd w w.heap.size 1 encW A2 n2 l2) (u0 : U8s l0) (u1 : U8s l1) (u2 : U16s l2) (m0 : n0 ≤ 9223372036854775807) (m1 : n1 ≤ c1 ∧ n1 ≤ 9223372036854775807) (m2 : n2 ≤ 9223372036854775807) :
    Calls Try.prog 4 #[.slice A0 n0 c0, .slice A1 n1 c1, .slice A2 n2 c2] w fun e w' => e = .returned (.bool true) ∧ Below w.heap.size w w' :=
  named_dev A0 A1 A2 n0 c0 n1 c1 n2 c2 l0 l1 l2 w r0 u0 r1 u1 r2 u2 m1 m2
set_option maxRecDepth 100000 in
theorem contract (H : Type) (enc : TypeId × Value → H) (W : World) (base : Nat) (args : Array Value) (ds gs : List (DataW H)) (before : List MemPlace)
    (hval : ∀ (j : Nat) t v, Try.f4.params[j]? = some t → args[j]? = some v → Value.okWide Try.prog W .any base t v)
    (hW : DataW.Whole enc Try.prog Try.f4.params.toList Rows.meterNamedSpec.vars false W args.toList ds gs before) :
    Calls Try.prog 4 args W fun e W' => ∃ v, e = .returned v ∧ Rows.meterNamedSpec.post enc Try.prog Try.f4 false true false false W args v W' := by
  have hW' := hW
  obtain ⟨p, q, hA0, hV, rfl, hfz, hnd⟩ := hW
  have hA : DataW.TrodAll enc Try.prog W 0 (fun _ => true) true Try.f4.params.toList args.toList ds p := hA0
  rw [Try.params4] at hA hval
  obtain ⟨v0, vs0, d0, ds0, p0, q0, hargs, rfl, rfl, h0, r0⟩ := trodAll_cons hA
  obtain ⟨v1, vs1, d1, ds1, p1, q1, rfl, rfl, rfl, h1, r1⟩ := trodAll_cons r0
  obtain ⟨v2, vs2, d2, ds2, p2, q2, rfl, rfl, rfl, h2, r2⟩ := trodAll_cons r1
  obtain ⟨rfl, rfl, rfl⟩ := trodAll_nil r2
  obtain rfl : args = #[v0, v1, v2] := by cases args; simp_all
  obtain ⟨rfl, rfl⟩ := trodVars_none hV
  obtain ⟨A0, n0, c0, l0, rfl, k0, b0, m0⟩ := u8s_of (hval 0 31 v0 rfl rfl) h0
  obtain ⟨A1, n1, c1, l1, rfl, k1, b1, m1⟩ := u8c_of (hval 1 31 v1 rfl rfl) h1
  obtain ⟨A2, n2, c2, l2, rfl, k2, b2, m2⟩ := w16s_of (hval 2 32 v2 rfl rfl) h2
  clear hA0
  simp only [List.append_nil] at hW'
  have hlt : ∀ z ∈ p0 ++ (p1 ++ p2), z.block < W.heap.size := fun z hz => by simpa using hW'.lt z (by simpa using hz)
  refine (named_any A0 A1 A2 n0 c0 n1 c1 n2 c2 l0 l1 l2 W k0 k1 k2 b0 b1 b2 m0 m1 m2).mono fun e W' ⟨he, hg⟩ => ?_
  subst he
  have again : ∀ sp : Nat → Bool, (∀ z ∈ p0 ++ (p1 ++ p2), sp z.block = true) → DataW.TrodAll enc Try.prog W' 0 sp true [31, 31, 32] [.slice A0 n0 c0, .slice A1 n1 c1, .slice A2 n2 c2] [d0, d1, d2] (p0 ++ (p1 ++ (p2 ++ []))) := fun sp hsp =>
    trodAll_cons_mk (stays bytes_reads h0 hg (fun z hz => hlt z (by simp [hz])) (fun z hz => hsp z (by simp [hz]))) (trodAll_cons_mk (stays bytes_reads h1 hg (fun z hz => hlt z (by simp [hz])) (fun z hz => hsp z (by simp [hz]))) (trodAll_cons_mk (stays words_reads h2 hg (fun z hz => hlt z (by simp [hz])) (fun z hz => hsp z (by simp [hz]))) (trodAll_mk0)))
  have again' : ∀ sp : Nat → Bool, (∀ z ∈ p0 ++ (p1 ++ p2), sp z.block = true) → DataW.TrodAll enc Try.prog W' 0 sp true [31, 31, 32] [.slice A0 n0 c0, .slice A1 n1 c1, .slice A2 n2 c2] [d0, d1, d2] (p0 ++ (p1 ++ p2)) := fun sp hsp => by simpa using again sp hsp
  exact ⟨_, rfl, post_below (pa := p0 ++ (p1 ++ p2)) (pv := []) (v := .bool true) hW' (fun _ _ _ => trodAll_cons_mk (shut_bool Try.underlying4 _) trodAll_mk0) (fun sp hsp => again' sp (fun z hz => hsp z hz)) (fun _ _ => rfl) (by simp) hg (ok_one (by kernel_rfl) rfl (okWide_bool_mk Try.underlying4 _))⟩
def args0 : Array Value := #[.slice none 0 0, .slice none 0 0, .slice none 0 0]
theorem reads (os : Os) {H : Type} (enc : TypeId × Value → H) : ∃ ds places, DataW.whole enc Try.prog ((bareWorld os).forCall (fun _ _ => 0) ⟨#[], args0, []⟩).memory Try.f4.params.toList Rows.meterNamedSpec.vars false args0.toList 8 = some (ds, [], places) :=
  ⟨[.nil, .nil, .nil], [], by kernel_rfl⟩
theorem laid_met (os : Os) : laidMet Try.prog Rows.meterNamedRow.laid ((bareWorld os).forCall (fun _ _ => 0) ⟨#[], args0, []⟩).memory :=
  by first | exact ⟨[], rfl, List.nodup_nil, fun b off h => by cases h⟩ | exact ⟨[], trivial, List.nodup_nil, fun b off h => by cases h⟩ | exact ⟨[], .nil, List.nodup_nil, fun b off h => by cases h⟩
set_option maxRecDepth 100000 in
theorem lifted (os : Os) (started : os.Started) (H : Type) (enc : TypeId × Value → H) (F : Stop.Interp) :
    ReturnsInHanded {} Try.checked os 4 .any ((OpenSpec.ofChange Rows.meterNamedSpec).preRow enc Try.prog Try.f4 Rows.meterNamedRow.domain false Rows.meterNamedRow.laid) (((OpenSpec.ofChange Rows.meterNamedSpec).at F).post enc Try.prog Try.f4 false true false false) := by
  obtain ⟨ds, places, hx⟩ := reads os enc
  refine returnsInHanded_of_row (C := Try.checked) (s := OpenSpec.ofChange Rows.meterNamedSpec) ownKnobs started (by kernel_rfl) Try.func4
    (witness_row_at (enc := enc) (C := Try.checked) false (bareWorld os) args0 rfl (by kernel_rfl) (by kernel_rfl) (by kernel_rfl)
      (OpenSpec.preRow_of_cond 8 hx (by kernel_rfl) (fun k hk => by cases hk) (by kernel_rfl) (laid_met os))) ?_
  intro W base args ds gs before hval hW _ _ _ _ _ _
  exact contract H enc W base args ds gs before hval hW
theorem namd_said : Rows.MeterNamedSaid :=
  OpenClaim.holds_of_cond 4 Try.f4 rfl rfl rfl rfl rfl rfl rfl ⟨rfl, rfl, rfl, rfl, rfl⟩ rfl rfl rfl rfl rfl (by kernel_rfl) Try.func4 (by kernel_rfl)
    (of_decide_eq_true (by kernel_rfl)) (by unfold Func.isWrapper; first | (rw [if_pos (by decide +kernel)]; kernel_rfl) | (rw [if_neg (by decide +kernel)]; exact ⟨rfl, rfl⟩))
    (fun os started H enc _ F => by rw [OpenClaim.pre_eq_preRow]; exact lifted os started H enc F)
end Go.Proofs.Ytcecbohaajocfaa.namd
