/- The law's example. -/
import Derived.Test.YtcnmfblbfpcghaaGreatDoorParts

set_option linter.unusedSimpArgs false
set_option linter.unusedVariables false
namespace Go.Proofs.YtcnmfblbfpcghaaGreatDoor
open Go.RowKit

def exSrcs : List Src := [⟨0, 1, 500, 0, 20⟩, ⟨2, 2, 300, 0, 40⟩]
def exTrips : List Trp := [⟨1000, 400⟩, ⟨5000, 50⟩]
def exLnks (b : Nat) : List Lnk := [⟨0, 1, 3, 400, 10, some ⟨b, 0, none⟩, 2, 2, exTrips⟩, ⟨1, 2, 3, 400, 10, none, 0, 0, []⟩]
def exRcks : List Rck := [⟨1, -1, 100, 1⟩]
/-- The example; b: the block behind its own. -/
def exP (b : Nat) : Plt := ⟨3, some ⟨b, 0, none⟩, 2, 2, some ⟨b + 1 + 1, 0, none⟩, 2, 2, some ⟨b + 1 + 1 + 1, 0, none⟩, 1, 1, exSrcs, exLnks (b + 1), exRcks⟩
theorem exP_in (w : World) (o : Obj) : PltIn (((((w.alloc o).alloc (.cells (exSrcs.flatMap Src.enc).toArray 110)).alloc (.cells (exTrips.flatMap Trp.enc).toArray 112)).alloc (.cells ((exLnks (w.heap.size + 1 + 1)).flatMap Lnk.enc).toArray 79)).alloc (.cells (exRcks.flatMap Rck.enc).toArray 115))
    (w.heap.size + 5) (exP (w.heap.size + 1)) := by
  have r1 := Rd.lit (w.alloc o) 110 Src.enc 5 exSrcs (fun _ _ => rfl)
  have r2 := Rd.lit ((w.alloc o).alloc (.cells (exSrcs.flatMap Src.enc).toArray 110)) 112 Trp.enc 2 exTrips (fun _ _ => rfl)
  have r3 := Rd.lit (((w.alloc o).alloc (.cells (exSrcs.flatMap Src.enc).toArray 110)).alloc (.cells (exTrips.flatMap Trp.enc).toArray 112)) 79 Lnk.enc 6 (exLnks (w.heap.size + 1 + 1)) (fun _ _ => rfl)
  have r4 := Rd.lit ((((w.alloc o).alloc (.cells (exSrcs.flatMap Src.enc).toArray 110)).alloc (.cells (exTrips.flatMap Trp.enc).toArray 112)).alloc (.cells ((exLnks (w.heap.size + 1 + 1)).flatMap Lnk.enc).toArray 79)) 115 Rck.enc 4 exRcks (fun _ _ => rfl)
  simp only [World.size_alloc] at r1 r2 r3 r4
  have t2 := (r2.below (((Below.refl _ _).alloc (by simp) (.cells ((exLnks (w.heap.size + 1 + 1)).flatMap Lnk.enc).toArray 79)).alloc (by first | (simp; done) | (simp; omega)) (.cells (exRcks.flatMap Rck.enc).toArray 115))).more (B' := w.heap.size + 5) (by omega)
  refine ⟨(r1.below ((((Below.refl _ _).alloc (by simp) _).alloc (by first | (simp; done) | (simp; omega)) _).alloc (by first | (simp; done) | (simp; omega)) _)).more (by omega), (r3.below ((Below.refl _ _).alloc (by simp) _)).more (by omega), r4.more (by omega), ?_, ?_, ?_, ?_, ?_⟩
  rotate_left
  · show (2 : Nat) ≤ _
    omega
  · show (2 : Nat) ≤ _
    omega
  · show (1 : Nat) ≤ _
    omega
  rotate_left
  · intro x hx
    rcases List.mem_cons.1 hx with rfl | hx
    · exact t2
    · rcases List.mem_cons.1 hx with rfl | hx
      · exact Rd.nil _ _ _ _
      · cases hx
  · intro x hx
    rcases List.mem_cons.1 hx with rfl | hx
    · show (2 : Nat) ≤ _
      omega
    · rcases List.mem_cons.1 hx with rfl | hx
      · show (0 : Nat) ≤ _
        omega
      · cases hx
theorem example_any (w : World) : Calls Tryz.prog 28 #[] w fun e w' => e = .returned (exP (w.heap.size + 1)).val ∧ Below w.heap.size w w' ∧ PltIn w' w'.heap.size (exP (w.heap.size + 1)) := by
  go_enter Tryz.func28, Tryz.ntmps28
  go_wp2
  refine bodyPost_ret (v := (exP (w.heap.size + 1)).val) ?_ rfl ⟨rfl, by (repeat' (first | (with_reducible exact Below.refl _ _) | (with_reducible assumption) | (with_reducible refine below_drewN ?_ _) | (with_reducible refine below_after (by assumption) ?_ ?_) | (with_reducible refine Below.drew ?_) | (with_reducible refine Below.alloc ?_ ?_ _) | (with_reducible refine Below.setCell ?_ ?_ _) | omega | (simp; omega) | (simp; done))), ?_⟩
  · simp [results, Tryz.results28, go_sem, Plt.val, exP]
  · have h := exP_in w (.cells #[.int .i64 3, .slice (some ⟨w.heap.size + 1, 0, none⟩) 2 2, .slice (some ⟨w.heap.size + 1 + 1 + 1, 0, none⟩) 2 2, .slice (some ⟨w.heap.size + 1 + 1 + 1 + 1, 0, none⟩) 1 1] 26)
    exact PltIn.more h (by simp)
theorem exP_check (b : Nat) : check (exP b) = 0 := by rfl
end Go.Proofs.YtcnmfblbfpcghaaGreatDoor
