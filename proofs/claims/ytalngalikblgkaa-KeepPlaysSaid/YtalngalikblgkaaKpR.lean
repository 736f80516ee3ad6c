/- keep: bits.Mul as the shelf has it; slices.Repeat of one number. -/
import Derived.Test.YtalngalikblgkaaKpF
import Derived.Shelf.Bits.Mul64
import Derived.Shelf.Spec.SlicesInsert
import Derived.Laws.CopyRow

set_option linter.unusedSimpArgs false
set_option linter.unusedVariables false
namespace Go.Proofs.Ytalngalikblgkaa
open Go.RowKit Go.Lib

def renMul : Go.Shelf.Ren := ⟨fun | 212 => 84 | 263 => 86 | 264 => 87 | n => n, fun | 46 => 44 | 51 => 114 | 53 => 117 | 146 => 115 | 148 => 118 | n => n, fun n => n⟩
theorem laysMul : Lays.n212 Try.prog renMul where
  mixed := by kernel_rfl
  f212 := Try.func84.trans (congrArg some (by kernel_rfl))
  f263 := Try.func86.trans (congrArg some (by kernel_rfl))
  f264 := Try.func87.trans (congrArg some (by kernel_rfl))
  t46 := Try.underlying44
  a46 := Try.isAgg44
  z46 := Try.sizeOf44
  v46 := Try.zeroValue44
  t51 := Try.underlying114
  a51 := Try.isAgg114
  z51 := Try.sizeOf114
  v51 := Try.zeroValue114
  t53 := Try.underlying117
  a53 := Try.isAgg117
  z53 := Try.sizeOf117
  v53 := Try.zeroValue117
  t146 := Try.underlying115
  a146 := Try.isAgg115
  z146 := Try.sizeOf115
  v146 := Try.zeroValue115
  t148 := Try.underlying118
  a148 := Try.isAgg118
  z148 := Try.sizeOf118
  v148 := Try.zeroValue118
theorem mul_one (y : Nat) (hy : y < 18446744073709551616) (w : World) :
    Calls Try.prog 84 #[.int .u64 1, .int .u64 (y : Int)] w fun e w' => e = .returned (.tuple #[.int .u64 0, .int .u64 (y : Int)]) ∧ w' = w := by
  have h := Any.bits_Mul laysMul 1 y (by omega) hy w
  have e1 : 1 * y / 18446744073709551616 = 0 := by omega
  have e2 : 1 * y % 18446744073709551616 = y := by omega
  rw [e1, e2] at h
  exact h
theorem setRow_blk {w : World} {g : Nat} {cur cs : Array Value} {t : TypeId} (h : Blk w g t cur) : Blk (w.setRow g cs) g t cs := setRow_heap w g cur _ t _ h
theorem setRow_far {w : World} {g k : Nat} {cs : Array Value} (h : k ≠ g) : (w.setRow g cs).heap[k]? = w.heap[k]? := by
  unfold World.setRow
  simp only [Array.getElem?_modify]
  split
  · rename_i e; exact absurd e.symm h
  · rfl
theorem setRow_low {B : Nat} {w0 w : World} {g : Nat} {cs : Array Value} (h : Below B w0 w) (hg : B ≤ g) : Below B w0 (w.setRow g cs) :=
  h.trans ⟨rfl, rfl, rfl, by unfold World.setRow; simp, fun k hk => setRow_far (by omega)⟩
/-- The first k of n cells hold x. -/
def repL (x : Int) (k n : Nat) : List Int := List.replicate k x ++ List.replicate (n - k) 0
theorem repL_len {x : Int} {k n : Nat} (h : k ≤ n) : (repL x k n).length = n := by unfold repL; simp; omega
theorem repL_step {x : Int} {k q n : Nat} (h : k + q ≤ n) : (intsA (repL x k n)).toList.take k ++ (List.replicate q x).map (Value.int .i64) ++ (intsA (repL x k n)).toList.drop (k + ((List.replicate q x).map (Value.int .i64)).length) = (intsA (repL x (k + q) n)).toList := by
  unfold repL intsA
  have e : n - k = q + (n - (k + q)) := by omega
  rw [e, ← List.replicate_append_replicate, ← List.replicate_append_replicate]
  simp only [List.toList_toArray, List.map_append, List.map_replicate, List.length_replicate]
  rw [List.take_left' (List.length_replicate ..), ← List.append_assoc (List.replicate k _), List.drop_left' (by simp), List.append_assoc]
set_option maxRecDepth 100000 in
set_option maxHeartbeats 2000000 in
theorem repeat_any (xb xc n : Nat) (x : Int) (w : World) (hx : Blk w xb 3 #[.int .i64 x]) (hn1 : 1 ≤ n) (hn2 : n ≤ 400) :
    Calls Try.prog 78 #[.slice (some ⟨xb, 0, none⟩) 1 xc, .int .i64 (n : Int)] w fun e w' => e = .returned (.slice (some ⟨w.heap.size, 0, none⟩) n n) ∧ Blk w' w.heap.size 3 (intsA (List.replicate n x)) ∧ Below w.heap.size w w' := by
  have KM := Lib.hid (fun W => mul_one n (by omega) W)
  have hmk := run_makeInts n (by omega)
  have u1 : IntKind.u64.wrap (n : Int) = (n : Int) := by rw [IntKind.wrap_u64]; omega
  have u2 : IntKind.i64.wrap (n : Int) = (n : Int) := IntWalk.i64_in _ (by omega)
  have u3 : ¬ ((n : Int) < 0) := by omega
  have u4 : ¬ ((9223372036854775807 : Int) < (n : Int)) := by omega
  have hXZ := hx.lt
  obtain ⟨nb, hnb⟩ : ∃ z, z = w.heap.size := ⟨_, rfl⟩
  obtain ⟨i0, hi0, hz0, hz1, hz2⟩ := info_parts intInfo
  have hsz : (Try.prog.info? 3).map (·.size) = some 1 := by rw [hi0]; simp [hz1]
  have HCP1 : Hid (∀ (W : World) (ty : TypeId) (dc : Nat), Blk W nb 3 (intsA (repL x 0 n)) → Blk W xb 3 #[.int .i64 x] → (Builtin.copy_ #[22, 22] ty #[.slice (some ⟨nb, 0, none⟩) n dc, .slice (some ⟨xb, 0, none⟩) 1 xc]).run Try.prog W = .ok (goInt (1 : Nat)) (W.setRow nb (intsA (repL x 1 n)))) := Lib.hid (fun W ty dc h1 h2 => by
    have h := run_copy_row (P := Try.prog) W 22 22 ty 3 nb 0 n dc ⟨xb, 0, none⟩ 1 xc (intsA (repL x 0 n)) 3 ((List.replicate 1 x).map (Value.int .i64)) Try.underlying22 hsz h1 (by simp only [List.length_map, List.length_replicate, Nat.min_def]; split <;> omega)
      (fun j v hj => by rw [Addr.add_lit, Nat.zero_add, h2.cell]; simpa using hj) (by simp [intsA, repL]; omega) (by intro u hu; simp at hu; subst hu; rfl)
    rw [repL_step (q := 1) (by omega)] at h
    simpa using h)
  have HCP2 : Hid (∀ (W : World) (ty : TypeId) (k q dc sc : Nat), k + q ≤ n → Nat.min k (n - k) = q → Blk W nb 3 (intsA (repL x k n)) → (Builtin.copy_ #[22, 22] ty #[.slice (some ⟨nb, k, none⟩) (n - k) dc, .slice (some ⟨nb, 0, none⟩) k sc]).run Try.prog W = .ok (goInt (q : Nat)) (W.setRow nb (intsA (repL x (k + q) n)))) := Lib.hid (fun W ty k q dc sc hkq hq h1 => by
    have hqk : q ≤ k := by rw [← hq]; exact Nat.min_le_left _ _
    have h := run_copy_row (P := Try.prog) W 22 22 ty 3 nb k (n - k) dc ⟨nb, 0, none⟩ k sc (intsA (repL x k n)) 3 ((List.replicate q x).map (Value.int .i64)) Try.underlying22 hsz h1 (by rw [List.length_map, List.length_replicate, hq])
      (fun j v hj => by
        rw [Addr.add_lit, Nat.zero_add]
        rw [List.getElem?_map, List.getElem?_replicate] at hj
        split at hj
        · rename_i hjq
          simp only [Option.map_some, Option.some.injEq] at hj
          subst hj
          refine h1.intAt ?_
          unfold repL
          rw [List.getElem?_append_left (by simp; omega), List.getElem?_replicate, if_pos (by omega)]
        · simp at hj) (by simp [intsA, repL]; omega) (by intro u hu; rw [List.map_replicate] at hu; rw [List.eq_of_mem_replicate hu]; rfl)
    rw [repL_step hkq] at h
    simpa using h)
  have HX := Lib.hid hx
  have mixed : Try.prog.follows .mixedOrders = true := by kernel_rfl
  clear hx hi0 hz0 hz1 hz2 hsz
  go_enter Try.func78, Try.ntmps78
  go_wp2_with fail
  refine (KM.out _).mono ?_
  rintro e w2 ⟨rfl, rfl⟩
  have hn0 : Blk (w2.alloc (.cells (intsA (List.replicate n 0)) 3)) nb 3 (intsA (repL x 0 n)) := by rw [hnb]; exact heap_alloc_new w2 _
  have hx0 : Blk (w2.alloc (.cells (intsA (List.replicate n 0)) 3)) xb 3 #[.int .i64 x] := HX.out.alloc _
  have hcp1 := fun ty dc => HCP1.out _ ty dc hn0 hx0
  rw [hnb] at hcp1
  go_wp2_with (at_builtin; refine wpList_copy_runI _ rfl _ _ 22 22 rfl _ _ rfl rfl (hcp1 _ _) ?_)
  rw [← hnb]
  have H1 : Hid (Blk ((w2.alloc (.cells (intsA (List.replicate n 0)) 3)).setRow nb (intsA (repL x 1 n))) nb 3 (intsA (repL x 1 n)) ∧ Below nb w2 ((w2.alloc (.cells (intsA (List.replicate n 0)) 3)).setRow nb (intsA (repL x 1 n)))) := Lib.hid ⟨setRow_blk hn0, setRow_low (by rw [hnb]; exact (Below.refl w2.heap.size w2).alloc (Nat.le_refl _) _) (Nat.le_refl _)⟩
  have HNB := Lib.hid hnb
  clear hn0 hx0 hcp1 hnb hXZ
  go_loopw [8] (fun i wr => ∃ k : Nat, 1 ≤ k ∧ k ≤ n ∧ i = .int .i64 k ∧ Hid (Blk wr nb 3 (intsA (repL x k n)) ∧ Below nb w2 wr)) (fun i _ => n - (RowKit.intOf i).toNat)
  case atStart => exact ⟨1, by omega, by omega, rfl, H1⟩
  case round =>
    obtain ⟨k, hk1, hk, rfl, hrel⟩ := hrel
    by_cases hlt : k < n
    · obtain ⟨q, hq⟩ : ∃ q, q = Nat.min k (n - k) := ⟨_, rfl⟩
      have hq1 : 1 ≤ q := by rw [hq]; simp only [Nat.min_def]; split <;> omega
      have hkq : k + q ≤ n := by rw [hq]; simp only [Nat.min_def]; split <;> omega
      have hcp := fun ty dc sc => HCP2.out wr.drew ty k q dc sc hkq hq.symm hrel.out.1
      have hk0 : (0 : Int) ≤ (k : Int) := by omega
      have hkn : (k : Int) < (n : Int) := by omega
      have hkn2 : (k : Int) ≤ (n : Int) := by omega
      have hb2 : ¬ (n = k) := by omega
      have hb3 : ¬ (n - k = 0) := by omega
      obtain ⟨kq, hkq2⟩ : ∃ z, z = k + q := ⟨_, rfl⟩
      have hw : IntKind.i64.wrap ((k : Int) + (q : Int)) = (kq : Int) := by rw [← Int.natCast_add, ← hkq2]; exact IntWalk.i64_in _ (by omega)
      have H2 : Hid (Blk (wr.drew.setRow nb (intsA (repL x (k + q) n))) nb 3 (intsA (repL x (k + q) n)) ∧ Below nb w2 (wr.drew.setRow nb (intsA (repL x (k + q) n)))) := Lib.hid ⟨setRow_blk (show Blk wr.drew nb _ _ from hrel.out.1), setRow_low hrel.out.2.drew (Nat.le_refl _)⟩
      rw [← hkq2] at H2 hcp
      have HQ := Lib.hid (And.intro hq1 (And.intro hkq hkq2))
      clear hq hq1 hkq hkq2 hrel
      go_wp2
      go_region_law_o (refine step_copy_runI rfl _ _ 22 22 rfl _ _ (by simp [Act.eval, Act.put]) (by simp [Act.eval, Act.put]) (hcp _ _ _) ?_)
      go_wp2
      simp [Act.put]
      go_wp2
      go_roundw
      case rel => exact ⟨kq, by have := HQ.out; omega, by have := HQ.out; omega, rfl, H2⟩
      case measure => have := HQ.out; simp [RowKit.intOf]; omega
    · obtain rfl : n = k := by omega
      have HR := hrel
      clear hrel
      go_wp2
      go_ret
      refine ⟨by rw [HNB.out]; rfl, ?_, ?_⟩
      · have := HR.out.1
        unfold repL at this
        rw [Nat.sub_self, List.replicate_zero, List.append_nil] at this
        rw [← HNB.out]
        exact this
      · rw [← HNB.out]
        exact HR.out.2
end Go.Proofs.Ytalngalikblgkaa
