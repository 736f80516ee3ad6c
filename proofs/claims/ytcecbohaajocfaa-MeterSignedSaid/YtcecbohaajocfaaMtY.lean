/- slices.Repeat of a number; slices.Equal of numbers. -/
import Derived.Test.YtcecbohaajocfaaMtV
import Derived.Test.YtcecbohaajocfaaKpG
import Derived.Shelf.Bits.Mul64
import Derived.Shelf.Spec.SlicesInsert
import Derived.Laws.CopyRow

set_option linter.unusedSimpArgs false
set_option linter.unusedVariables false
namespace Go.Proofs.Ytcecbohaajocfaa
open Go.RowKit Go.Lib

def sameL (l m : List Int) : Bool := decide (l = m)
set_option maxRecDepth 100000 in
theorem Equal_any (A A' : Option Addr) (n n' c c' : Nat) (l m : List Int) (w : World) (hl : Rd w w.heap.size 1 encI A n l) (hm : Rd w w.heap.size 1 encI A' n' m) (hn : n ≤ 9223372036854775807) (hn' : n' ≤ 9223372036854775807) :
    Calls Try.prog 31 #[.slice A n c, .slice A' n' c'] w fun e w' => e = .returned (.bool (sameL l m)) ∧ Below w.heap.size w w' := by
  have HL := Lib.hid hl
  have HM := Lib.hid hm
  have e1 := Lib.hid hl.1
  have e2 := Lib.hid hm.1
  clear hl hm
  go_enter Try.func31, Try.ntmps31
  by_cases hq : n = n'
  · subst hq
    go_wp2
    go_loopw [13] (fun i wr => ∃ k : Nat, k ≤ n ∧ i = .int .i64 k ∧ Below w.heap.size w wr ∧ Hid (∀ j, j < k → l[j]? = m[j]?)) (fun i _ => n - (RowKit.intOf i).toNat)
    case atStart => exact ⟨0, by omega, rfl, Below.refl _ _, fun j hj => absurd hj (by omega)⟩
    case round =>
      obtain ⟨k, hk, rfl, hB, hE⟩ := hrel
      have hz' := hB.size
      by_cases hlt : k < n
      · obtain ⟨b, off, x, rfl, hb, hx, hcx⟩ := (HL.out.below hB).at_ hlt
        obtain ⟨b', off', y, rfl, hb', hy, hcy⟩ := (HM.out.below hB).at_ hlt
        have c0 := cellI hcx
        have c1 := cellI hcy
        have HX := Lib.hid hx
        have HY := Lib.hid hy
        have hk0 : (0 : Int) ≤ (k : Int) := by omega
        have hkn : (k : Int) < (n : Int) := by omega
        have hkw : IntKind.i64.wrap (k : Int) = (k : Int) := IntWalk.i64_in _ (by omega)
        clear hx hy hcx hcy
        by_cases hxy : x = y
        · subst hxy
          have hE' : Hid (∀ j, j < k + 1 → l[j]? = m[j]?) := fun j hj => by
            rcases Nat.lt_or_ge j k with h | h
            · exact hE.out j h
            · obtain rfl : j = k := by omega
              rw [HX.out, HY.out]
          go_wp2
          go_quiet (fail)
          go_wp2
          go_roundw
          case rel => exact ⟨k + 1, by omega, by go_num, by (repeat' (first | (with_reducible exact Below.refl _ _) | (with_reducible assumption) | (with_reducible refine below_drewN ?_ _) | (with_reducible refine below_after (by assumption) ?_ ?_) | (with_reducible refine Below.drew ?_) | (with_reducible refine Below.alloc ?_ ?_ _) | (with_reducible refine Below.setCell ?_ ?_ _) | omega | (simp; omega) | (simp; done))), hE'⟩
          case measure => simp [RowKit.intOf]; omega
        · have hd : sameL l m = false := by
            unfold sameL
            rw [decide_eq_false_iff_not]
            intro h
            have h1 := HX.out
            rw [h, HY.out] at h1
            simp only [Option.some.injEq] at h1
            exact hxy h1.symm
          go_wp2
          go_quiet (fail)
          go_wp2
          go_ret
          exact ⟨ret_bool hd.symm, by (repeat' (first | (with_reducible exact Below.refl _ _) | (with_reducible assumption) | (with_reducible refine below_drewN ?_ _) | (with_reducible refine below_after (by assumption) ?_ ?_) | (with_reducible refine Below.drew ?_) | (with_reducible refine Below.alloc ?_ ?_ _) | (with_reducible refine Below.setCell ?_ ?_ _) | omega | (simp; omega) | (simp; done)))⟩
      · have hd : sameL l m = true := by
          unfold sameL
          rw [decide_eq_true_iff]
          apply List.ext_getElem?
          intro j
          rcases Nat.lt_or_ge j k with h | h
          · exact hE.out j h
          · rw [List.getElem?_eq_none (by rw [e1.out]; omega), List.getElem?_eq_none (by rw [e2.out]; omega)]
        go_wp2
        go_ret
        exact ⟨ret_bool hd.symm, hB⟩
  · have hd : sameL l m = false := by
      unfold sameL
      rw [decide_eq_false_iff_not]
      intro h
      apply hq
      rw [← e1.out, ← e2.out, h]
    go_wp2
    go_ret
    exact ⟨ret_bool hd.symm, Below.refl _ _⟩
theorem Equal_yes (A A' : Option Addr) (n c c' : Nat) (l : List Int) (w : World) (hl : Rd w w.heap.size 1 encI A n l) (hm : Rd w w.heap.size 1 encI A' n l) (hn : n ≤ 1000000) :
    Calls Try.prog 31 #[.slice A n c, .slice A' n c'] w fun e w' => e = .returned (.bool true) ∧ Below w.heap.size w w' := by
  have h := Equal_any A A' n n c c' l l w hl hm (by omega) (by omega)
  rw [show sameL l l = true from decide_eq_true rfl] at h
  exact h
theorem run_copy_row_k {P : Program} (w : World) (dT sT ty elem : TypeId) (size g o dLen dCap : Nat) (a : Addr) (sLen sCap : Nat) (cur : Array Value) (t : TypeId) (cs : List Value) (q : Nat)
    (hu : P.underlying dT = some (.slice elem)) (hs : (P.info? elem).map (·.size) = some size)
    (hg : w.heap[g]? = some (.cells cur t (0, 0))) (hq : Nat.min sLen dLen = q) (hn : cs.length = q * size)
    (hsrc : ∀ j v, cs[j]? = some v → w.cell? (a.add j) = some v) (hfit : o + cs.length ≤ cur.size) (h1 : ∀ v ∈ cs, v.oneCell' = true) :
    (Builtin.copy_ #[dT, sT] ty #[.slice (some ⟨g, o, none⟩) dLen dCap, .slice (some a) sLen sCap]).run P w =
      .ok (goInt q) (w.setRow g (cur.toList.take o ++ cs ++ cur.toList.drop (o + cs.length)).toArray) := by
  have hl := run_loadCells_list (P := P) w a cs hsrc
  have hst := run_storeCells_at P g o t cs 0 cur w hg (by simpa using hfit) h1
  simp only [Nat.add_zero] at hst
  cases hq2 : P.info? elem with
  | none => simp [hq2] at hs
  | some i =>
    have hi : i.size = size := by simpa [hq2] using hs
    rw [hn] at hl
    simp [Builtin.copy_, run_underlying hu, Builtin.lenOf, Builtin.firstCells, sizeOf, typeInfo, hq2, hi, hq, hl, hst]
def renMul : Go.Shelf.Ren := ⟨fun | 212 => 63 | 263 => 95 | 264 => 96 | n => n, fun | 46 => 113 | 51 => 150 | 53 => 55 | 146 => 162 | 148 => 164 | n => n, fun n => n⟩
theorem laysMul : Lays.n212 Try.prog renMul where
  mixed := by kernel_rfl
  f212 := Try.func63.trans (congrArg some (by kernel_rfl))
  f263 := Try.func95.trans (congrArg some (by kernel_rfl))
  f264 := Try.func96.trans (congrArg some (by kernel_rfl))
  t46 := Try.underlying113
  a46 := Try.isAgg113
  z46 := Try.sizeOf113
  v46 := Try.zeroValue113
  t51 := Try.underlying150
  a51 := Try.isAgg150
  z51 := Try.sizeOf150
  v51 := Try.zeroValue150
  t53 := Try.underlying55
  a53 := Try.isAgg55
  z53 := Try.sizeOf55
  v53 := Try.zeroValue55
  t146 := Try.underlying162
  a146 := Try.isAgg162
  z146 := Try.sizeOf162
  v146 := Try.zeroValue162
  t148 := Try.underlying164
  a148 := Try.isAgg164
  z148 := Try.sizeOf164
  v148 := Try.zeroValue164
theorem mul_one (y : Nat) (hy : y < 18446744073709551616) (w : World) :
    Calls Try.prog 63 #[.int .u64 1, .int .u64 (y : Int)] w fun e w' => e = .returned (.tuple #[.int .u64 0, .int .u64 (y : Int)]) ∧ w' = w := by
  have h := Any.bits_Mul laysMul 1 y (by omega) hy w
  have e1 : 1 * y / 18446744073709551616 = 0 := by omega
  have e2 : 1 * y % 18446744073709551616 = y := by omega
  rw [e1, e2] at h
  exact h
theorem setRow_blk {w : World} {g : Nat} {cur cs : Array Value} {t : TypeId} (h : Blk w g t cur) : Blk (w.setRow g cs) g t cs := setRow_heap w g cur _ t _ h
theorem setRow_far {w : World} {g k : Nat} {cs : Array Value} (h : k ≠ g) : (w.setRow g cs).heap[k]? = w.heap[k]? := by
  unfold World.setRow
  simp only [Array.getElem?_modify]
  split
  · rename_i e; exact absurd e.symm h
  · rfl
theorem setRow_low {B : Nat} {w0 w : World} {g : Nat} {cs : Array Value} (h : Below B w0 w) (hg : B ≤ g) : Below B w0 (w.setRow g cs) :=
  h.trans ⟨rfl, rfl, rfl, by unfold World.setRow; simp, fun k hk => setRow_far (by omega)⟩
theorem mul_one0 (y : Nat) (hy : y < 18446744073709551616) (w : World) : Calls Try.prog 63 #[.int .u64 1, .int .u64 (y : Int)] w fun e w' => e = .returned (.tuple #[.int .u64 0, .int .u64 (y : Int)]) ∧ w' = w := mul_one y hy w
theorem flat_len {α : Type} {f : α → List Value} {s : Nat} (hf : ∀ x, (f x).length = s) (l : List α) : (l.flatMap f).length = l.length * s := by
  induction l with
  | nil => simp
  | cons x l ih => rw [List.flatMap_cons, List.length_append, ih, hf, List.length_cons, Nat.succ_mul, Nat.add_comm]
theorem flat_take {α : Type} {f : α → List Value} {s : Nat} (hf : ∀ x, (f x).length = s) (a b : List α) : ((a ++ b).flatMap f).take (a.length * s) = a.flatMap f := by
  rw [List.flatMap_append]
  exact List.take_left' (flat_len hf a)
theorem flat_drop {α : Type} {f : α → List Value} {s : Nat} (hf : ∀ x, (f x).length = s) (a b : List α) : ((a ++ b).flatMap f).drop (a.length * s) = b.flatMap f := by
  rw [List.flatMap_append]
  exact List.drop_left' (flat_len hf a)
theorem madeCells_rep (z : Array Value) (hz : 0 < z.size) (n : Nat) : madeCells z (n * z.size) = ((List.replicate n z.toList).flatten).toArray := by
  unfold madeCells
  rw [← Array.toList_inj, Array.toList_map, Array.toList_range]
  show (List.range (n * z.size)).map _ = (List.replicate n z.toList).flatten
  induction n with
  | zero => simp
  | succ n ih =>
    rw [Nat.succ_mul, List.range_add, List.map_append, ih, List.replicate_succ', List.flatten_append, List.flatten_singleton, List.map_map]
    congr 1
    apply List.ext_getElem
    · simp
    · intro i h1 h2
      have h3 : i < z.size := by simpa using h2
      simp only [List.getElem_map, List.getElem_range, Function.comp_apply]
      rw [Nat.mul_comm n, Nat.mul_add_mod, Nat.mod_eq_of_lt h3, getElem!_pos z i h3]
      simp
theorem encI_len : ∀ x : Int, (encI x).length = 1 := fun _ => rfl
theorem flat_encI (l : List Int) : (l.flatMap encI).toArray = intsA l := by
  unfold intsA
  congr 1
  induction l with
  | nil => rfl
  | cons x l ih => rw [List.flatMap_cons, List.map_cons, ih]; rfl
theorem run_makeR (n : Nat) (hn : n ≤ 100000) (w : World) : (Instr.makeSlice 22 (.int .i64 n) (.int .i64 n)).run Try.prog w = .ok (.slice (some ⟨w.heap.size, 0, none⟩) n n) (w.alloc (.cells ((List.replicate n (0 : Int)).flatMap encI).toArray 3)) := by
  rw [flat_encI]
  exact run_makeInts n (by omega) w
/-- The first k of n cases are x. -/
def repI (x : Int) (k n : Nat) : List Value := (List.replicate k x ++ List.replicate (n - k) (0 : Int)).flatMap encI
theorem repI_len {x : Int} {k n : Nat} (h : k ≤ n) : (repI x k n).length = n * 1 := by unfold repI; rw [flat_len encI_len]; simp; omega
theorem repI_step {x : Int} {k q n : Nat} (h : k + q ≤ n) : (repI x k n).take (k * 1) ++ (List.replicate q x).flatMap encI ++ (repI x k n).drop (k * 1 + ((List.replicate q x).flatMap encI).length) = repI x (k + q) n := by
  unfold repI
  have e : n - k = q + (n - (k + q)) := by omega
  have h1 := flat_take encI_len (List.replicate k x) (List.replicate (n - k) (0 : Int))
  have h2 := flat_drop encI_len (List.replicate k x ++ List.replicate q (0 : Int)) (List.replicate (n - (k + q)) (0 : Int))
  rw [List.length_replicate] at h1
  rw [List.length_append, List.length_replicate, List.length_replicate, List.append_assoc, List.replicate_append_replicate, ← e] at h2
  rw [h1, flat_len encI_len, List.length_replicate, ← Nat.add_mul, h2, ← List.flatMap_append, ← List.flatMap_append, List.replicate_append_replicate]
theorem repI_one (x : Int) (q : Nat) : ∀ u ∈ (List.replicate q x).flatMap encI, u.oneCell' = true := by
  intro u hu
  obtain ⟨y, hy, h⟩ := List.mem_flatMap.1 hu
  simp only [encI, List.mem_cons, List.mem_nil_iff, or_false] at h
  subst h; rfl
set_option maxRecDepth 100000 in
set_option maxHeartbeats 2000000 in
theorem repeatI_any (xb xc n : Nat) (x : Int) (w : World) (hx : Blk w xb 3 (encI x).toArray) (hn2 : n ≤ 400) :
    Calls Try.prog 38 #[.slice (some ⟨xb, 0, none⟩) 1 xc, .int .i64 (n : Int)] w fun e w' => ∃ nb, e = .returned (.slice (some ⟨nb, 0, none⟩) n n) ∧ w.heap.size ≤ nb ∧ Blk w' nb 3 ((List.replicate n x).flatMap encI).toArray ∧ Below w.heap.size w w' := by
  have KM := Lib.hid (fun W => mul_one n (by omega) W)
  have hmk := run_makeR n (by omega)
  have u1 : IntKind.u64.wrap (n : Int) = (n : Int) := by rw [IntKind.wrap_u64]; omega
  have u2 : IntKind.i64.wrap (n : Int) = (n : Int) := IntWalk.i64_in _ (by omega)
  have u3 : ¬ ((n : Int) < 0) := by omega
  have u4 : ¬ ((9223372036854775807 : Int) < (n : Int)) := by omega
  have hXZ := hx.lt
  obtain ⟨nb, hnb⟩ : ∃ z, z = w.heap.size := ⟨_, rfl⟩
  obtain ⟨i0, hi0, hz0, hz1, hz2⟩ := info_parts intInfo
  have hsz : (Try.prog.info? 3).map (·.size) = some 1 := by rw [hi0]; simp [hz1]
  have hex : (encI x).toArray.toList = encI x := by simp
  obtain ⟨k0, hk0⟩ : ∃ z, z = Nat.min 1 n := ⟨_, rfl⟩
  have hk01 : k0 ≤ 1 ∧ k0 ≤ n ∧ (1 ≤ n → k0 = 1) := by rw [hk0]; simp only [Nat.min_def]; split <;> omega
  have HCP1 : Hid (∀ (W : World) (ty : TypeId) (dc : Nat), Blk W nb 3 (repI x 0 n).toArray → Blk W xb 3 (encI x).toArray → (Builtin.copy_ #[22, 22] ty #[.slice (some ⟨nb, 0, none⟩) n dc, .slice (some ⟨xb, 0, none⟩) 1 xc]).run Try.prog W = .ok (goInt (k0 : Nat)) (W.setRow nb (repI x k0 n).toArray)) := Lib.hid (fun W ty dc h1 h2 => by
    have h := run_copy_row_k (P := Try.prog) W 22 22 ty 3 1 nb 0 n dc ⟨xb, 0, none⟩ 1 xc (repI x 0 n).toArray 3 ((List.replicate k0 x).flatMap encI) k0 Try.underlying22 hsz h1 hk0.symm (by rw [flat_len encI_len, List.length_replicate])
      (fun j v hj => by
        rw [Addr.add_lit, Nat.zero_add, h2.cell]
        rcases Nat.le_one_iff_eq_zero_or_eq_one.1 hk01.1 with e | e
        · rw [e] at hj; simp at hj
        · rw [e] at hj; simpa using hj) (by rw [flat_len encI_len, List.length_replicate, List.size_toArray, repI_len (by omega)]; omega) (repI_one x k0)
    have h9 := repI_step (x := x) (k := 0) (q := k0) (n := n) (by omega)
    simp only [Nat.zero_mul, Nat.zero_add] at h9
    simp only [Nat.zero_add, List.toList_toArray] at h
    rw [h9] at h
    exact h)
  have HCP2 : Hid (∀ (W : World) (ty : TypeId) (k q dc sc : Nat), k + q ≤ n → Nat.min k (n - k) = q → Blk W nb 3 (repI x k n).toArray → (Builtin.copy_ #[22, 22] ty #[.slice (some ⟨nb, k, none⟩) (n - k) dc, .slice (some ⟨nb, 0, none⟩) k sc]).run Try.prog W = .ok (goInt (q : Nat)) (W.setRow nb (repI x (k + q) n).toArray)) := Lib.hid (fun W ty k q dc sc hkq hq h1 => by
    have hqk : q ≤ k := by rw [← hq]; exact Nat.min_le_left _ _
    have h := run_copy_row_k (P := Try.prog) W 22 22 ty 3 1 nb (k * 1) (n - k) dc ⟨nb, 0, none⟩ k sc (repI x k n).toArray 3 ((List.replicate q x).flatMap encI) q Try.underlying22 hsz h1 hq (by rw [flat_len encI_len, List.length_replicate])
      (fun j v hj => by
        rw [Addr.add_lit, Nat.zero_add, h1.cell, List.getElem?_toArray]
        have h3 : repI x k n = (List.replicate q x).flatMap encI ++ (List.replicate (k - q) x ++ List.replicate (n - k) (0 : Int)).flatMap encI := by
          unfold repI
          rw [← List.flatMap_append, ← List.append_assoc, List.replicate_append_replicate, show q + (k - q) = k by omega]
        rw [h3, List.getElem?_append_left (List.getElem?_eq_some_iff.1 hj).1]
        exact hj) (by rw [flat_len encI_len, List.length_replicate, List.size_toArray, repI_len (by omega)]; omega) (repI_one x q)
    rw [List.toList_toArray, repI_step hkq] at h
    simp only [Nat.mul_one] at h
    exact h)
  have HX := Lib.hid hx
  have mixed : Try.prog.follows .mixedOrders = true := by kernel_rfl
  have HK0 := Lib.hid hk01
  clear hx hi0 hz0 hz1 hz2 hsz hex hk0 hk01
  go_enter Try.func38, Try.ntmps38
  go_wp2_with fail
  refine (KM.out _).mono ?_
  rintro e w2 ⟨rfl, rfl⟩
  have hn0 : Blk (w2.alloc (.cells ((List.replicate n (0 : Int)).flatMap encI).toArray 3)) nb 3 (repI x 0 n).toArray := by rw [hnb]; exact heap_alloc_new w2 _
  have hx0 : Blk (w2.alloc (.cells ((List.replicate n (0 : Int)).flatMap encI).toArray 3)) xb 3 (encI x).toArray := HX.out.alloc _
  have hcp1 := fun ty dc => HCP1.out _ ty dc hn0 hx0
  rw [hnb] at hcp1
  go_wp2_with (at_builtin; refine wpList_copy_runI _ rfl _ _ 22 22 rfl _ _ rfl rfl (hcp1 _ _) ?_)
  rw [← hnb]
  have H1 : Hid (Blk ((w2.alloc (.cells ((List.replicate n (0 : Int)).flatMap encI).toArray 3)).setRow nb (repI x k0 n).toArray) nb 3 (repI x k0 n).toArray ∧ Below nb w2 ((w2.alloc (.cells ((List.replicate n (0 : Int)).flatMap encI).toArray 3)).setRow nb (repI x k0 n).toArray)) := Lib.hid ⟨setRow_blk hn0, setRow_low (by rw [hnb]; exact (Below.refl w2.heap.size w2).alloc (Nat.le_refl _) _) (Nat.le_refl _)⟩
  have HNB := Lib.hid hnb
  clear hn0 hx0 hcp1 hnb hXZ
  go_loopw [8] (fun i wr => ∃ k : Nat, (1 ≤ n → 1 ≤ k) ∧ k ≤ n ∧ i = .int .i64 k ∧ Hid (Blk wr nb 3 (repI x k n).toArray ∧ Below nb w2 wr)) (fun i _ => n - (RowKit.intOf i).toNat)
  case atStart => exact ⟨k0, fun h => by have := HK0.out.2.2 h; omega, HK0.out.2.1, rfl, H1⟩
  case round =>
    obtain ⟨k, hk1, hk, rfl, hrel⟩ := hrel
    by_cases hlt : k < n
    · obtain ⟨q, hq⟩ : ∃ q, q = Nat.min k (n - k) := ⟨_, rfl⟩
      have hq1 : 1 ≤ q := by have := hk1 (by omega); rw [hq]; simp only [Nat.min_def]; split <;> omega
      have hkq : k + q ≤ n := by rw [hq]; simp only [Nat.min_def]; split <;> omega
      have hcp := fun ty dc sc => HCP2.out wr.drew ty k q dc sc hkq hq.symm hrel.out.1
      have hk0 : (0 : Int) ≤ (k : Int) := by omega
      have hkn : (k : Int) < (n : Int) := by omega
      have hkn2 : (k : Int) ≤ (n : Int) := by omega
      have hb2 : ¬ (n = k) := by omega
      have hb3 : ¬ (n - k = 0) := by omega
      obtain ⟨kq, hkq2⟩ : ∃ z, z = k + q := ⟨_, rfl⟩
      have hw : IntKind.i64.wrap ((k : Int) + (q : Int)) = (kq : Int) := by rw [← Int.natCast_add, ← hkq2]; exact IntWalk.i64_in _ (by omega)
      have H2 : Hid (Blk (wr.drew.setRow nb (repI x (k + q) n).toArray) nb 3 (repI x (k + q) n).toArray ∧ Below nb w2 (wr.drew.setRow nb (repI x (k + q) n).toArray)) := Lib.hid ⟨setRow_blk (show Blk wr.drew nb _ _ from hrel.out.1), setRow_low hrel.out.2.drew (Nat.le_refl _)⟩
      rw [← hkq2] at H2 hcp
      have HQ := Lib.hid (And.intro hq1 (And.intro hkq hkq2))
      clear hq hq1 hkq hkq2 hrel
      go_wp2
      go_region_law_o (refine step_copy_runI rfl _ _ 22 22 rfl _ _ (by simp [Act.eval, Act.put]) (by simp [Act.eval, Act.put]) (hcp _ _ _) ?_)
      go_wp2
      simp [Act.put]
      go_wp2
      go_roundw
      case rel => exact ⟨kq, by have := HQ.out; omega, by have := HQ.out; omega, rfl, H2⟩
      case measure => have := HQ.out; simp [RowKit.intOf]; omega
    · obtain rfl : n = k := by omega
      have HR := hrel
      clear hrel
      go_wp2
      go_ret
      refine ⟨nb, rfl, by rw [HNB.out]; exact Nat.le_refl _, ?_, ?_⟩
      · have := HR.out.1
        unfold repI at this
        rw [Nat.sub_self, List.replicate_zero, List.append_nil] at this
        exact this
      · rw [← HNB.out]
        exact HR.out.2
end Go.Proofs.Ytcecbohaajocfaa
