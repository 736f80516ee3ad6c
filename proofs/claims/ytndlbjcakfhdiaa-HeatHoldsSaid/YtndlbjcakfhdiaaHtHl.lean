/- law07: HeatHolds. -/
import Derived.Test.YtndlbjcakfhdiaaHtHf
import Derived.Test.YtndlbjcakfhdiaaHtHt
import Derived.ChangeShapes
import Derived.WideShapes

set_option linter.unusedSimpArgs false
set_option linter.unusedVariables false
namespace Go.Proofs.Ytndlbjcakfhdiaa
open Go.RowKit

theorem open_bool9 {H : Type} {enc : TypeId × Value → H} {P : Program} {w : World} {base : Nat} {spare : Nat → Bool} {held : Bool} {r : Reach} {b0 : Nat} {t : TypeId} {v : Value} {d : DataW H} {ps : List MemPlace} (ht : P.underlying t = some .bool) (hval : Value.okWide P w r b0 t v) (hd : DataW.Trod enc P w base spare held t v d ps) :
    ∃ b, v = .bool b ∧ d = .lit (.bool b) ∧ ps = [] := by
  obtain ⟨b, rfl⟩ := Go.WideShapes.okWide_bool ht hval
  obtain ⟨fuel, hf⟩ := hd
  obtain ⟨b', h, hx⟩ := DataW.trod_bool ht hf
  simp [Value.cells] at h
  subst h
  simp only [Prod.mk.injEq] at hx
  exact ⟨b, rfl, hx.1, hx.2⟩
theorem holdsLaw_any (A0 A1 A2 A3 A4 A5 A6 : Option Addr) (n0 c0 n1 c1 n2 c2 n3 c3 n4 c4 n5 c5 n6 c6 : Nat) (l0 l1 l2 l3 l4 l5 l6 : List Int) (s : Bool) (w : World) (k0 : Rd w w.heap.size 1 encU A0 n0 l0) (k1 : Rd w w.heap.size 1 encU A1 n1 l1) (k2 : Rd w w.heap.size 1 encU A2 n2 l2) (k3 : Rd w w.heap.size 1 encU A3 n3 l3) (k4 : Rd w w.heap.size 1 encU A4 n4 l4) (k5 : Rd w w.heap.size 1 encU A5 n5 l5) (k6 : Rd w w.heap.size 1 encU A6 n6 l6) (b0 : U8s l0) (b1 : U8s l1) (b2 : U8s l2) (b3 : U8s l3) (b4 : U8s l4) (b5 : U8s l5) (b6 : U8s l6) (m0 : n0 ≤ 9223372036854775807) (m1 : n1 ≤ 9223372036854775807) (m2 : n2 ≤ 9223372036854775807) (m3 : n3 ≤ 9223372036854775807) (m4 : n4 ≤ 9223372036854775807) (m5 : n5 ≤ 9223372036854775807) (m6 : n6 ≤ 9223372036854775807) :
    Calls Try.prog 5 #[.slice A0 n0 c0, .slice A1 n1 c1, .slice A2 n2 c2, .slice A3 n3 c3, .slice A4 n4 c4, .slice A5 n5 c5, .slice A6 n6 c6, .bool s] w fun e w' => e = .returned (.bool true) ∧ Below w.heap.size w w' := by
  cases s
  · exact holdsF_any A0 A1 A2 A3 A4 A5 A6 n0 c0 n1 c1 n2 c2 n3 c3 n4 c4 n5 c5 n6 c6 l0 l1 l2 l3 l4 l5 l6 w k0 k1 k2 k3 k4 k5 k6 b0 b1 b2 b3 b4 b5 b6 m0 m1 m2 m3 m4 m5 m6
  · exact holdsT_any A0 A1 A2 A3 A4 A5 A6 n0 c0 n1 c1 n2 c2 n3 c3 n4 c4 n5 c5 n6 c6 l0 l1 l2 l3 l4 l5 l6 w k0 k1 k2 k3 k4 k5 k6 b0 b1 b2 b3 b4 b5 b6 m0 m1 m2 m3 m4 m5 m6
end Go.Proofs.Ytndlbjcakfhdiaa
