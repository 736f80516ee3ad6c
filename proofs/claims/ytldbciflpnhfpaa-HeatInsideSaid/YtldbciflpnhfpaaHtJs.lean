/-
  HeatInside returns true for every six lists of small numbers and every list of lists of small numbers, and leaves them as they were: whatever cases of a class come, and whatever the temperatures of a box are at first, the temperatures stay between the bounds; before the second that Ride says no room is above its limit, and with the upper case in each second, from the upper corner, one is above it just then.
  No condition but the row's own.
-/
import Derived.Test.YtldbciflpnhfpaaHtJw

set_option linter.unusedSimpArgs false
set_option linter.unusedVariables false
namespace Go.Proofs.Ytldbciflpnhfpaa.hinside
open Go.ChangeShapes Go.WideShapes Go.ChangeAt Go.RowKit Go.Deep

set_option maxRecDepth 100000 in
theorem contract (H : Type) (enc : TypeId × Value → H) (W : World) (base : Nat) (args : Array Value) (ds gs : List (DataW H)) (before : List MemPlace)
    (hval : ∀ (j : Nat) t v, Try.f4.params[j]? = some t → args[j]? = some v → Value.okWide Try.prog W .any base t v)
    (hW : DataW.Whole enc Try.prog Try.f4.params.toList Rows.heatInsideSpec.vars false W args.toList ds gs before) :
    Calls Try.prog 4 args W fun e W' => ∃ v, e = .returned v ∧ Rows.heatInsideSpec.post enc Try.prog Try.f4 false true false false W args v W' := by
  have hW' := hW
  obtain ⟨p, q, hA0, hV, rfl, hfz, hnd⟩ := hW
  have hA : DataW.TrodAll enc Try.prog W 0 (fun _ => true) true Try.f4.params.toList args.toList ds p := hA0
  rw [Try.params4] at hA hval
  obtain ⟨v0, vs0, d0, ds0, p0, q0, hargs, rfl, rfl, h0, r0⟩ := trodAll_cons hA
  obtain ⟨v1, vs1, d1, ds1, p1, q1, rfl, rfl, rfl, h1, r1⟩ := trodAll_cons r0
  obtain ⟨v2, vs2, d2, ds2, p2, q2, rfl, rfl, rfl, h2, r2⟩ := trodAll_cons r1
  obtain ⟨v3, vs3, d3, ds3, p3, q3, rfl, rfl, rfl, h3, r3⟩ := trodAll_cons r2
  obtain ⟨v4, vs4, d4, ds4, p4, q4, rfl, rfl, rfl, h4, r4⟩ := trodAll_cons r3
  obtain ⟨v5, vs5, d5, ds5, p5, q5, rfl, rfl, rfl, h5, r5⟩ := trodAll_cons r4
  obtain ⟨v6, vs6, d6, ds6, p6, q6, rfl, rfl, rfl, h6, r6⟩ := trodAll_cons r5
  obtain ⟨rfl, rfl, rfl⟩ := trodAll_nil r6
  obtain rfl : args = #[v0, v1, v2, v3, v4, v5, v6] := by cases args; simp_all
  obtain ⟨rfl, rfl⟩ := trodVars_none hV
  obtain ⟨A0, n0, c0, l0, rfl, k0, b0, m0⟩ := u8s_of (hval 0 22 v0 rfl rfl) h0
  obtain ⟨A1, n1, c1, l1, rfl, k1, b1, m1⟩ := u8s_of (hval 1 22 v1 rfl rfl) h1
  obtain ⟨A2, n2, c2, l2, rfl, k2, b2, m2⟩ := u8s_of (hval 2 22 v2 rfl rfl) h2
  obtain ⟨A3, n3, c3, l3, rfl, k3, b3, m3⟩ := u8s_of (hval 3 22 v3 rfl rfl) h3
  obtain ⟨A4, n4, c4, l4, rfl, k4, b4, m4⟩ := u8s_of (hval 4 22 v4 rfl rfl) h4
  obtain ⟨A5, n5, c5, l5, rfl, k5, b5, m5⟩ := u8ss_of (hval 5 47 v5 rfl rfl) h5
  obtain ⟨A6, n6, c6, l6, rfl, k6, b6, m6⟩ := u8s_of (hval 6 22 v6 rfl rfl) h6
  clear hA0
  simp only [List.append_nil] at hW'
  have hlt : ∀ z ∈ p0 ++ (p1 ++ (p2 ++ (p3 ++ (p4 ++ (p5 ++ p6))))), z.block < W.heap.size := fun z hz => by simpa using hW'.lt z (by simpa using hz)
  refine (insideSaid_any A0 A1 A2 A3 A4 A5 A6 n0 c0 n1 c1 n2 c2 n3 c3 n4 c4 n5 c5 n6 c6 l0 l1 l2 l3 l4 l5 l6 W k0 k1 k2 k3 k4 k5 k6 b0 b1 b2 b3 b4 b5 b6 m0 m1 m2 m3 m4 m5 m6).mono fun e W' ⟨he, hg⟩ => ?_
  subst he
  have again : ∀ sp : Nat → Bool, (∀ z ∈ p0 ++ (p1 ++ (p2 ++ (p3 ++ (p4 ++ (p5 ++ p6))))), sp z.block = true) → DataW.TrodAll enc Try.prog W' 0 sp true [22, 22, 22, 22, 22, 47, 22] [.slice A0 n0 c0, .slice A1 n1 c1, .slice A2 n2 c2, .slice A3 n3 c3, .slice A4 n4 c4, .slice A5 n5 c5, .slice A6 n6 c6] [d0, d1, d2, d3, d4, d5, d6] (p0 ++ (p1 ++ (p2 ++ (p3 ++ (p4 ++ (p5 ++ (p6 ++ []))))))) := fun sp hsp =>
    trodAll_cons_mk (stays bytes_reads h0 hg (fun z hz => hlt z (by simp [hz])) (fun z hz => hsp z (by simp [hz]))) (trodAll_cons_mk (stays bytes_reads h1 hg (fun z hz => hlt z (by simp [hz])) (fun z hz => hsp z (by simp [hz]))) (trodAll_cons_mk (stays bytes_reads h2 hg (fun z hz => hlt z (by simp [hz])) (fun z hz => hsp z (by simp [hz]))) (trodAll_cons_mk (stays bytes_reads h3 hg (fun z hz => hlt z (by simp [hz])) (fun z hz => hsp z (by simp [hz]))) (trodAll_cons_mk (stays bytes_reads h4 hg (fun z hz => hlt z (by simp [hz])) (fun z hz => hsp z (by simp [hz]))) (trodAll_cons_mk (stays bytess_reads h5 hg (fun z hz => hlt z (by simp [hz])) (fun z hz => hsp z (by simp [hz]))) (trodAll_cons_mk (stays bytes_reads h6 hg (fun z hz => hlt z (by simp [hz])) (fun z hz => hsp z (by simp [hz]))) (trodAll_mk0)))))))
  have again' : ∀ sp : Nat → Bool, (∀ z ∈ p0 ++ (p1 ++ (p2 ++ (p3 ++ (p4 ++ (p5 ++ p6))))), sp z.block = true) → DataW.TrodAll enc Try.prog W' 0 sp true [22, 22, 22, 22, 22, 47, 22] [.slice A0 n0 c0, .slice A1 n1 c1, .slice A2 n2 c2, .slice A3 n3 c3, .slice A4 n4 c4, .slice A5 n5 c5, .slice A6 n6 c6] [d0, d1, d2, d3, d4, d5, d6] (p0 ++ (p1 ++ (p2 ++ (p3 ++ (p4 ++ (p5 ++ p6)))))) := fun sp hsp => by simpa using again sp hsp
  exact ⟨_, rfl, post_below (pa := p0 ++ (p1 ++ (p2 ++ (p3 ++ (p4 ++ (p5 ++ p6)))))) (pv := []) (v := .bool true) hW' (fun _ _ _ => trodAll_cons_mk (shut_bool Try.underlying4 _) trodAll_mk0) (fun sp hsp => again' sp (fun z hz => hsp z hz)) (fun _ _ => rfl) (by simp) hg (ok_one (by kernel_rfl) rfl (okWide_bool_mk Try.underlying4 _))⟩
def args0 : Array Value := #[.slice none 0 0, .slice none 0 0, .slice none 0 0, .slice none 0 0, .slice none 0 0, .slice none 0 0, .slice none 0 0]
theorem reads (os : Os) {H : Type} (enc : TypeId × Value → H) : ∃ ds places, DataW.whole enc Try.prog ((bareWorld os).forCall (fun _ _ => 0) ⟨#[], args0, []⟩).memory Try.f4.params.toList Rows.heatInsideSpec.vars false args0.toList 8 = some (ds, [], places) :=
  ⟨[.nil, .nil, .nil, .nil, .nil, .nil, .nil], [], by kernel_rfl⟩
theorem laid_met (os : Os) : laidMet Try.prog Rows.heatInsideRow.laid ((bareWorld os).forCall (fun _ _ => 0) ⟨#[], args0, []⟩).memory :=
  by first | exact ⟨[], rfl, List.nodup_nil, fun b off h => by cases h⟩ | exact ⟨[], trivial, List.nodup_nil, fun b off h => by cases h⟩ | exact ⟨[], .nil, List.nodup_nil, fun b off h => by cases h⟩
set_option maxRecDepth 100000 in
theorem lifted (os : Os) (started : os.Started) (H : Type) (enc : TypeId × Value → H) (F : Stop.Interp) :
    ReturnsInHanded {} Try.checked os 4 .any ((OpenSpec.ofChange Rows.heatInsideSpec).preRow enc Try.prog Try.f4 Rows.heatInsideRow.domain false Rows.heatInsideRow.laid) (((OpenSpec.ofChange Rows.heatInsideSpec).at F).post enc Try.prog Try.f4 false true false false) := by
  obtain ⟨ds, places, hx⟩ := reads os enc
  refine returnsInHanded_of_row (C := Try.checked) (s := OpenSpec.ofChange Rows.heatInsideSpec) ownKnobs started (by kernel_rfl) Try.func4
    (witness_row_at (enc := enc) (C := Try.checked) false (bareWorld os) args0 rfl (by kernel_rfl) (by kernel_rfl) (by kernel_rfl)
      (OpenSpec.preRow_of_cond 8 hx (by kernel_rfl) (fun k hk => by cases hk) (by kernel_rfl) (laid_met os))) ?_
  intro W base args ds gs before hval hW _ _ _ _ _ _
  exact contract H enc W base args ds gs before hval hW
theorem hinside_said : Rows.HeatInsideSaid :=
  OpenClaim.holds_of_cond 4 Try.f4 rfl rfl rfl rfl rfl rfl rfl ⟨rfl, rfl, rfl, rfl, rfl⟩ rfl rfl rfl rfl rfl (by kernel_rfl) Try.func4 (by kernel_rfl)
    (of_decide_eq_true (by kernel_rfl)) (by unfold Func.isWrapper; first | (rw [if_pos (by decide +kernel)]; kernel_rfl) | (rw [if_neg (by decide +kernel)]; exact ⟨rfl, rfl⟩))
    (fun os started H enc _ F => by rw [OpenClaim.pre_eq_preRow]; exact lifted os started H enc F)
end Go.Proofs.Ytldbciflpnhfpaa.hinside
