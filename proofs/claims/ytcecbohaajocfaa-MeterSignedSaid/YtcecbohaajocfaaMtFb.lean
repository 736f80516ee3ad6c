/- meter: a register of readings: its map. -/
import Derived.Test.YtcecbohaajocfaaMtA
import Derived.Maps.OwnSet
import Derived.Maps.Views
import Derived.DeepKeys4

set_option linter.unusedSimpArgs false
set_option linter.unusedVariables false
namespace Go.Proofs.Ytcecbohaajocfaa
open Go.RowKit Go.Maps

theorem slotLaw : WideMaps.KeyLaw Try.prog 159 := deep_law_laid (by kernel_rfl) (m := 2) (by omega) (of_decide_eq_true (by kernel_rfl)) (by kernel_rfl) (by rw [Try.underlying159])
theorem slotKeyed : Keyed Try.prog 159 := .of_law slotLaw
theorem slotCells : Try.prog.cellsOf 159 = 2 := by kernel_rfl
theorem intCells : Try.prog.cellsOf 3 = 1 := by kernel_rfl
theorem slot_lits (m h : Int) (hm : (Lit.int .i64 m).wf = true) (hh : (Lit.int .i64 h).wf = true) (d : Nat) : Try.prog.keyLits (d + 2) 159 [.int .i64 m, .int .i64 h] = some [.int .i64 m, .int .i64 h] := by
  have hI : ∀ (x : Int), (Lit.int .i64 x).wf = true → Try.prog.keyLits (d + 1) 3 [.int .i64 x] = some [.int .i64 x] := fun x hx => by
    unfold Program.keyLits
    rw [Try.underlying3]
    simp [hx]
  have h1 := hI m hm
  have h2 := hI h hh
  unfold Program.keyLits
  rw [Try.underlying159]
  simp [slotCells, intCells, h1, h2]
theorem slot_key (m h : Int) (hm : (Lit.int .i64 m).wf = true) (hh : (Lit.int .i64 h).wf = true) : ∃ kl, keyOf Try.prog 159 (.agg #[.int .i64 m, .int .i64 h]) = some kl := by
  have h9 : Try.prog.types.size + 1 = (Try.prog.types.size - 1) + 2 := by
    have : 1 ≤ Try.prog.types.size := of_decide_eq_true (by kernel_rfl)
    omega
  refine ⟨.string (keyBytes [.int .i64 m, .int .i64 h]), ?_⟩
  unfold keyOf
  rw [Try.underlying159, h9]
  have hf : (Value.agg #[Value.int IntKind.i64 m, Value.int IntKind.i64 h]).formed Try.prog 159 = true := by simp [Value.formed, Try.underlying159, slotCells]
  have hk : Try.prog.keyType 159 = true := by kernel_rfl
  have hl : (Value.agg #[Value.int IntKind.i64 m, Value.int IntKind.i64 h]).cells.toList = [.int .i64 m, .int .i64 h] := rfl
  rw [hl, slot_lits m h hm hh]
  simp [hf, hk]
/-- A register in memory. -/
def RegS (W : World) (b : Nat) (met : List (Int × Int)) : Prop := ∃ D : DataW Unit, W.ownsMap Try.prog 159 (plainElem Try.prog 4) b met.length D ∧ ∀ m h kl, keyOf Try.prog 159 (.agg #[.int .i64 m, .int .i64 h]) = some kl → D.atKey kl (.lit (.bool false)) = .lit (.bool (decide ((m, h) ∈ met)))
theorem RegS.next {W W' : World} {b : Nat} {met : List (Int × Int)} (h : RegS W b met) (hb : Below W.heap.size W W') : RegS W' b met := by
  obtain ⟨D, h1, h2⟩ := h
  exact ⟨D, h1.kept (grown_of_below hb) (fun e => by cases e), h2⟩
theorem RegS.made (W : World) : RegS (W.alloc (.map #[] 0)) W.heap.size [] :=
  ⟨.map [], World.ownsMap_made W _ _ _, fun m h kl _ => by
    rw [show decide ((m, h) ∈ ([] : List (Int × Int))) = false from by simp]
    rfl⟩
set_option maxRecDepth 100000 in
theorem RegS.look {W : World} {b : Nat} {met : List (Int × Int)} (hr : RegS W b met) (m h : Int) (hm : (Lit.int .i64 m).wf = true) (hh : (Lit.int .i64 h).wf = true) :
    (Instr.lookup 126 (.map (some b)) (.agg #[.int .i64 m, .int .i64 h]) false).run Try.prog W = .ok (.bool (decide ((m, h) ∈ met))) W := by
  obtain ⟨D, h1, h2⟩ := hr
  obtain ⟨kl, hk⟩ := slot_key m h hm hh
  obtain ⟨v, ps, hrun, hv⟩ := h1.lookup slotKeyed Try.underlying126 (z := .bool false) (by kernel_rfl) (plainElem_bool Try.underlying4 false) hk
  rw [h2 m h kl hk] at hv
  have e : v = .bool (decide ((m, h) ∈ met)) := by
    unfold plainElem at hv
    rw [Try.underlying4] at hv
    cases v <;> simp at hv
    rw [hv.1]
  rw [hrun, e]
theorem RegS.put {W : World} {b : Nat} {met : List (Int × Int)} (hr : RegS W b met) (m h : Int) (hm : (Lit.int .i64 m).wf = true) (hh : (Lit.int .i64 h).wf = true) (hn : met.length ≤ 10000) :
    ∃ W', (Instr.mapUpdate 126 (.map (some b)) (.agg #[.int .i64 m, .int .i64 h]) (.bool true)).run Try.prog W = .ok () W' ∧ RegS W' b ((m, h) :: met) ∧ W.grownBy W' (some b) := by
  obtain ⟨D, h1, h2⟩ := hr
  obtain ⟨kl, hk⟩ := slot_key m h hm hh
  obtain ⟨W', hrun, ho, hg⟩ := h1.update slotKeyed Try.underlying126 (by unfold maxLen; omega) hk (plainElem_bool Try.underlying4 true)
  refine ⟨W', hrun, ⟨_, ho, fun m' h' kl' hk' => ?_⟩, hg⟩
  by_cases e : kl' = kl
  · subst e
    have e2 := slotKeyed.inj hk' hk
    simp only [Value.agg.injEq, Array.mk.injEq, List.cons.injEq, Value.int.injEq, true_and, and_true] at e2
    obtain ⟨rfl, rfl⟩ := e2
    rw [atKey_put_same h1.isMap (slotKeyed.key hk)]
    simp
  · rw [atKey_put_other e, h2 m' h' kl' hk']
    have hne : ¬ ((m', h') = (m, h)) := fun e2 => by
      cases e2
      rw [hk] at hk'
      exact e (Option.some.inj hk').symm
    simp [hne]
end Go.Proofs.Ytcecbohaajocfaa
