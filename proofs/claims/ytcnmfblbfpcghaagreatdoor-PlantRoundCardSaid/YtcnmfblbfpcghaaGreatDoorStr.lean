/- The table of powers; strconv.Itoa; strings as lists of bytes. -/
import Derived.Test.YtcnmfblbfpcghaaGreatDoorShelf
import Derived.Test.YtcnmfblbfpcghaaGreatDoorData
import Derived.Lib.ItoaLen
import Derived.WideMake

set_option linter.unusedSimpArgs false
set_option linter.unusedVariables false
namespace Go.Proofs.YtcnmfblbfpcghaaGreatDoor
open Go.RowKit Go.Shelf

/-- The table of powers lies as its initialiser lays it. -/
def Pow (w : World) : Prop := ∃ t fz, w.heap[1]? = some (.cells (Lib.pow10Tab.map fun z => Value.int .u64 z).toArray t fz)
theorem Pow.below {w w' : World} (h : Pow w) (hb : Below w.heap.size w w') : Pow w' := by
  obtain ⟨t, fz, h⟩ := h
  exact ⟨t, fz, (hb.block _ (Array.getElem?_eq_some_iff.1 h).1).trans h⟩
theorem Pow.from_ {w w' : World} {n : Nat} (h : Pow w) (hb : Below n w w') (hn : w.heap.size ≤ n) : Pow w' := h.below (hb.mono hn)
def ba (l : List UInt8) : ByteArray := ⟨l.toArray⟩
theorem ba_list (l : List UInt8) : (ba l).data.toList = l := rfl
theorem below_grow (w : World) (k : Nat) (os : Array Obj) : Below w.heap.size w (Go.Sort.grow (w.drewN k) os) :=
  ⟨rfl, rfl, rfl, by simp [Go.Sort.grow, World.drewN], fun i hi => by simp [Go.Sort.grow, World.drewN, Array.getElem?_append, hi]⟩
theorem itoa_any (n : Int) (h0 : -9223372036854775808 ≤ n) (h1 : n ≤ 9223372036854775807) (w : World) (hP : Pow w) :
    Calls Tryz.prog 53 #[.int .i64 n] w fun e w' => e = .returned (.string (ba (Lib.itoa n))) ∧ Below w.heap.size w w' := by
  have h := Any.strconv_Itoa laysM171 n h0 h1 w (by
    unfold Lib.TabIs World.var?
    rw [show Tryz.prog.globalNamed _ = some 1 from by kernel_rfl]
    obtain ⟨t, fz, h⟩ := hP
    rw [Option.bind_some, h])
  refine h.mono ?_
  rintro e w' ⟨rfl, k, os, rfl⟩
  exact ⟨rfl, below_grow w k os⟩
end Go.Proofs.YtcnmfblbfpcghaaGreatDoor
