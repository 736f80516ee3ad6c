/- law07: HeatInside, with its arguments as they are read. -/
import Derived.Test.YtldbciflpnhfpaaHtJl
import Derived.Test.YtldbciflpnhfpaaKpSa

set_option linter.unusedSimpArgs false
set_option linter.unusedVariables false
namespace Go.Proofs.Ytldbciflpnhfpaa
open Go.ChangeShapes Go.WideShapes Go.ChangeAt Go.RowKit Go.Deep

theorem bytess_reads : Try.prog.readableRec 47 = true ∧ 47 < Try.prog.types.size := ⟨by kernel_rfl, of_decide_eq_true (by kernel_rfl)⟩
theorem rd_fst {α β : Type} {f : α → List Value} {w : World} {B size n : Nat} {A : Option Addr} {l : List (α × β)} (h : Rd w B size (fun x : α × β => f x.1) A n l) : Rd w B size f A n (l.map Prod.fst) := by
  refine ⟨by rw [List.length_map]; exact h.1, fun hn => ?_⟩
  obtain ⟨b, o, e, hb, hc⟩ := h.2 hn
  refine ⟨b, o, e, hb, fun i x hx j u hu => ?_⟩
  rw [List.getElem?_map] at hx
  cases h9 : l[i]? with
  | none => rw [h9] at hx; cases hx
  | some y => rw [h9] at hx; cases hx; exact hc i y h9 j u hu
instance : Inhabited Ls := ⟨⟨none, 0, 0⟩⟩
set_option maxRecDepth 100000 in
theorem u8ss_of {H : Type} {enc : TypeId × Value → H} {w : World} {base : Nat} {spare : Nat → Bool} {held : Bool} {r : Reach} {b0 : Nat} {v : Value} {d : DataW H} {ps : List MemPlace} (hv : Value.okWide Try.prog w r b0 47 v) (h : DataW.Trod enc Try.prog w base spare held 47 v d ps) :
    ∃ (A : Option Addr) (n c : Nat) (l : List (Ls × List Int)), v = .slice A n c ∧ Rd w w.heap.size 1 Ls.enc A n (l.map Prod.fst) ∧ (∀ x ∈ l, Rd w w.heap.size 1 encU x.1.A x.1.n x.2 ∧ U8s x.2) ∧ n ≤ c := by
  obtain ⟨a1, a2, a3, rfl⟩ := okWide_slice Try.underlying47 hv
  obtain ⟨fuel, hf⟩ := h
  obtain ⟨A, n, c, l, e, hr, hnc, hm, hl⟩ := rd_of (fun x : Ls × List Int => x.1.enc) (fun x => Rd w w.heap.size 1 encU x.1.A x.1.n x.2 ∧ U8s x.2) Try.underlying47 (size := 1) (by kernel_rfl) (by decide) hf (fun n cs' y hlen hy => by
    obtain ⟨A9, n9, c9, l9, e9, hr9, _, _, hl9⟩ := rd_of encU (fun x => 0 ≤ x ∧ x ≤ 255) Try.underlying22 (size := 1) (by kernel_rfl) (by decide) hy (fun n cs' y hlen hy => by
      obtain ⟨m, e, _, hw⟩ := DataW.trod_int Try.underlying5 hy
      refine ⟨m, e, ?_⟩
      simp only [Lit.wf, Bool.and_eq_true, decide_eq_true_eq] at hw
      have e1 : IntKind.u8.min = 0 := rfl
      have e2 : IntKind.u8.max = 255 := rfl
      rw [e1, e2] at hw
      exact hw)
    exact ⟨(⟨A9, n9, c9⟩, l9), e9, hr9, hl9⟩)
  refine ⟨A, n, c, l, ?_, rd_fst hr, hl, hnc⟩
  simpa [Value.cells] using e
theorem insideSaid_any (A0 A1 A2 A3 A4 A5 A6 : Option Addr) (n0 c0 n1 c1 n2 c2 n3 c3 n4 c4 n5 c5 n6 c6 : Nat) (l0 l1 l2 l3 l4 : List Int) (l5 : List (Ls × List Int)) (l6 : List Int) (w : World) (k0 : Rd w w.heap.size 1 encU A0 n0 l0) (k1 : Rd w w.heap.size 1 encU A1 n1 l1) (k2 : Rd w w.heap.size 1 encU A2 n2 l2) (k3 : Rd w w.heap.size 1 encU A3 n3 l3) (k4 : Rd w w.heap.size 1 encU A4 n4 l4) (k5 : Rd w w.heap.size 1 Ls.enc A5 n5 (l5.map Prod.fst)) (k6 : Rd w w.heap.size 1 encU A6 n6 l6)
    (b0 : U8s l0) (b1 : U8s l1) (b2 : U8s l2) (b3 : U8s l3) (b4 : U8s l4) (b5 : ∀ x ∈ l5, Rd w w.heap.size 1 encU x.1.A x.1.n x.2 ∧ U8s x.2) (b6 : U8s l6) (m0 : n0 ≤ 9223372036854775807) (m1 : n1 ≤ 9223372036854775807) (m2 : n2 ≤ 9223372036854775807) (m3 : n3 ≤ 9223372036854775807) (m4 : n4 ≤ 9223372036854775807) (m5 : n5 ≤ c5) (m6 : n6 ≤ 9223372036854775807) :
    Calls Try.prog 4 #[.slice A0 n0 c0, .slice A1 n1 c1, .slice A2 n2 c2, .slice A3 n3 c3, .slice A4 n4 c4, .slice A5 n5 c5, .slice A6 n6 c6] w fun e w' => e = .returned (.bool true) ∧ Below w.heap.size w w' :=
  insideLaw_any A0 A1 A2 A3 A4 A5 A6 n0 c0 n1 c1 n2 c2 n3 c3 n4 c4 n5 c5 n6 c6 l0 l1 l2 l3 l4 l6 l5 w k0 k1 k2 k3 k4 k6 b0 b1 b2 b3 b4 b6 k5 b5 m5
end Go.Proofs.Ytldbciflpnhfpaa
