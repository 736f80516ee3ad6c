/-
  MeterSigned returns true for every key, every list of small numbers and every three small numbers, and leaves them as they were: Verify accepts the chain that Sign makes, and finds the first link at which a chain differs from that of its readings, if a reading or a sign is changed, left out, or two are exchanged.
  No condition but the row's own.
-/
import Derived.Test.YtcecbohaajocfaaMtFk
import Derived.Test.YtcecbohaajocfaaKpSa

set_option linter.unusedSimpArgs false
set_option linter.unusedVariables false
namespace Go.Proofs.Ytcecbohaajocfaa.sgnd
open Go.ChangeShapes Go.WideShapes Go.ChangeAt Go.RowKit Go.Deep

theorem sgnd_any (A1 : Option Addr) (n1 c1 : Nat) (l1 : List Int) (x0 x2 x3 x4 : Int) (w : World) (r1 : Rd w w.heap.size 1 encU A1 n1 l1) (u1 : U8s l1) (m1 : n1 ≤ 9223372036854775807) (b0 : 0 ≤ x0 ∧ x0 ≤ 18446744073709551615) (b2 : 0 ≤ x2 ∧ x2 ≤ 255) (b3 : 0 ≤ x3 ∧ x3 ≤ 255) (b4 : 0 ≤ x4 ∧ x4 ≤ 255) :
    Calls Try.prog 6 #[.int .u64 x0, .slice A1 n1 c1, .int .u8 x2, .int .u8 x3, .int .u8 x4] w fun e w' => e = .returned (.bool true) ∧ Below w.heap.size w w' :=
  signed_any x0 A1 n1 c1 l1 x2 x3 x4 w r1 u1 m1 b2 b3 b4
theorem u8_bd {x : Int} (h : (Lit.int .u8 x).wf = true) : 0 ≤ x ∧ x ≤ 255 := by
  simp only [Lit.wf, Bool.and_eq_true, decide_eq_true_eq] at h
  have e1 : IntKind.u8.min = 0 := rfl
  have e2 : IntKind.u8.max = 255 := rfl
  rw [e1, e2] at h
  exact h
theorem u64_bd {x : Int} (h : (Lit.int .u64 x).wf = true) : 0 ≤ x ∧ x ≤ 18446744073709551615 := by
  simp only [Lit.wf, Bool.and_eq_true, decide_eq_true_eq] at h
  have e1 : IntKind.u64.min = 0 := rfl
  have e2 : IntKind.u64.max = 18446744073709551615 := rfl
  rw [e1, e2] at h
  exact h
set_option maxRecDepth 100000 in
theorem contract (H : Type) (enc : TypeId × Value → H) (W : World) (base : Nat) (args : Array Value) (ds gs : List (DataW H)) (before : List MemPlace)
    (hval : ∀ (j : Nat) t v, Try.f6.params[j]? = some t → args[j]? = some v → Value.okWide Try.prog W .any base t v)
    (hW : DataW.Whole enc Try.prog Try.f6.params.toList Rows.meterSignedSpec.vars false W args.toList ds gs before) :
    Calls Try.prog 6 args W fun e W' => ∃ v, e = .returned v ∧ Rows.meterSignedSpec.post enc Try.prog Try.f6 false true false false W args v W' := by
  have hW' := hW
  obtain ⟨p, q, hA0, hV, rfl, hfz, hnd⟩ := hW
  have hA : DataW.TrodAll enc Try.prog W 0 (fun _ => true) true Try.f6.params.toList args.toList ds p := hA0
  rw [Try.params6] at hA hval
  obtain ⟨v0, vs0, d0, ds0, p0, q0, hargs, rfl, rfl, h0, r0⟩ := trodAll_cons hA
  obtain ⟨v1, vs1, d1, ds1, p1, q1, rfl, rfl, rfl, h1, r1⟩ := trodAll_cons r0
  obtain ⟨v2, vs2, d2, ds2, p2, q2, rfl, rfl, rfl, h2, r2⟩ := trodAll_cons r1
  obtain ⟨v3, vs3, d3, ds3, p3, q3, rfl, rfl, rfl, h3, r3⟩ := trodAll_cons r2
  obtain ⟨v4, vs4, d4, ds4, p4, q4, rfl, rfl, rfl, h4, r4⟩ := trodAll_cons r3
  obtain ⟨rfl, rfl, rfl⟩ := trodAll_nil r4
  obtain rfl : args = #[v0, v1, v2, v3, v4] := by cases args; simp_all
  obtain ⟨rfl, rfl⟩ := trodVars_none hV
  obtain ⟨x0, rfl, rfl, rfl, hx0⟩ := open_int Try.underlying55 (hval 0 55 v0 rfl rfl) h0
  obtain ⟨A1, n1, c1, l1, rfl, k1, b1, m1⟩ := u8s_of (hval 1 31 v1 rfl rfl) h1
  obtain ⟨x2, rfl, rfl, rfl, hx2⟩ := open_int Try.underlying5 (hval 2 5 v2 rfl rfl) h2
  obtain ⟨x3, rfl, rfl, rfl, hx3⟩ := open_int Try.underlying5 (hval 3 5 v3 rfl rfl) h3
  obtain ⟨x4, rfl, rfl, rfl, hx4⟩ := open_int Try.underlying5 (hval 4 5 v4 rfl rfl) h4
  clear hA0
  simp only [List.append_nil] at hW'
  have hlt : ∀ z ∈ p1, z.block < W.heap.size := fun z hz => by simpa using hW'.lt z (by simpa using hz)
  refine (sgnd_any A1 n1 c1 l1 x0 x2 x3 x4 W k1 b1 m1 (u64_bd hx0) (u8_bd hx2) (u8_bd hx3) (u8_bd hx4)).mono fun e W' ⟨he, hg⟩ => ?_
  subst he
  have again : ∀ sp : Nat → Bool, (∀ z ∈ p1, sp z.block = true) → DataW.TrodAll enc Try.prog W' 0 sp true [55, 31, 5, 5, 5] [.int .u64 x0, .slice A1 n1 c1, .int .u8 x2, .int .u8 x3, .int .u8 x4] [.lit (.int .u64 x0), d1, .lit (.int .u8 x2), .lit (.int .u8 x3), .lit (.int .u8 x4)] ([] ++ (p1 ++ ([] ++ ([] ++ ([] ++ []))))) := fun sp hsp =>
    trodAll_cons_mk (shut_int Try.underlying55 hx0) (trodAll_cons_mk (stays bytes_reads h1 hg (fun z hz => hlt z (by simp [hz])) (fun z hz => hsp z (by simp [hz]))) (trodAll_cons_mk (shut_int Try.underlying5 hx2) (trodAll_cons_mk (shut_int Try.underlying5 hx3) (trodAll_cons_mk (shut_int Try.underlying5 hx4) (trodAll_mk0)))))
  have again' : ∀ sp : Nat → Bool, (∀ z ∈ p1, sp z.block = true) → DataW.TrodAll enc Try.prog W' 0 sp true [55, 31, 5, 5, 5] [.int .u64 x0, .slice A1 n1 c1, .int .u8 x2, .int .u8 x3, .int .u8 x4] [.lit (.int .u64 x0), d1, .lit (.int .u8 x2), .lit (.int .u8 x3), .lit (.int .u8 x4)] (p1) := fun sp hsp => by simpa using again sp hsp
  exact ⟨_, rfl, post_below (pa := p1) (pv := []) (v := .bool true) hW' (fun _ _ _ => trodAll_cons_mk (shut_bool Try.underlying4 _) trodAll_mk0) (fun sp hsp => again' sp (fun z hz => hsp z hz)) (fun _ _ => rfl) (by simp) hg (ok_one (by kernel_rfl) rfl (okWide_bool_mk Try.underlying4 _))⟩
def args0 : Array Value := #[.int .u64 0, .slice none 0 0, .int .u8 0, .int .u8 0, .int .u8 0]
theorem reads (os : Os) {H : Type} (enc : TypeId × Value → H) : ∃ ds places, DataW.whole enc Try.prog ((bareWorld os).forCall (fun _ _ => 0) ⟨#[], args0, []⟩).memory Try.f6.params.toList Rows.meterSignedSpec.vars false args0.toList 8 = some (ds, [], places) :=
  ⟨[.lit (.int .u64 0), .nil, .lit (.int .u8 0), .lit (.int .u8 0), .lit (.int .u8 0)], [], by kernel_rfl⟩
theorem laid_met (os : Os) : laidMet Try.prog Rows.meterSignedRow.laid ((bareWorld os).forCall (fun _ _ => 0) ⟨#[], args0, []⟩).memory :=
  by first | exact ⟨[], rfl, List.nodup_nil, fun b off h => by cases h⟩ | exact ⟨[], trivial, List.nodup_nil, fun b off h => by cases h⟩ | exact ⟨[], .nil, List.nodup_nil, fun b off h => by cases h⟩
set_option maxRecDepth 100000 in
theorem lifted (os : Os) (started : os.Started) (H : Type) (enc : TypeId × Value → H) (F : Stop.Interp) :
    ReturnsInHanded {} Try.checked os 6 .any ((OpenSpec.ofChange Rows.meterSignedSpec).preRow enc Try.prog Try.f6 Rows.meterSignedRow.domain false Rows.meterSignedRow.laid) (((OpenSpec.ofChange Rows.meterSignedSpec).at F).post enc Try.prog Try.f6 false true false false) := by
  obtain ⟨ds, places, hx⟩ := reads os enc
  refine returnsInHanded_of_row (C := Try.checked) (s := OpenSpec.ofChange Rows.meterSignedSpec) ownKnobs started (by kernel_rfl) Try.func6
    (witness_row_at (enc := enc) (C := Try.checked) false (bareWorld os) args0 rfl (by kernel_rfl) (by kernel_rfl) (by kernel_rfl)
      (OpenSpec.preRow_of_cond 8 hx (by kernel_rfl) (fun k hk => by cases hk) (by kernel_rfl) (laid_met os))) ?_
  intro W base args ds gs before hval hW _ _ _ _ _ _
  exact contract H enc W base args ds gs before hval hW
theorem sgnd_said : Rows.MeterSignedSaid :=
  OpenClaim.holds_of_cond 6 Try.f6 rfl rfl rfl rfl rfl rfl rfl ⟨rfl, rfl, rfl, rfl, rfl⟩ rfl rfl rfl rfl rfl (by kernel_rfl) Try.func6 (by kernel_rfl)
    (of_decide_eq_true (by kernel_rfl)) (by unfold Func.isWrapper; first | (rw [if_pos (by decide +kernel)]; kernel_rfl) | (rw [if_neg (by decide +kernel)]; exact ⟨rfl, rfl⟩))
    (fun os started H enc _ F => by rw [OpenClaim.pre_eq_preRow]; exact lifted os started H enc F)
end Go.Proofs.Ytcecbohaajocfaa.sgnd
