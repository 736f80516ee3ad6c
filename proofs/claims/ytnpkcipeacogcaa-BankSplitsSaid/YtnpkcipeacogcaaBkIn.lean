/- slices.Insert[[]Span] of one span into a row of the call's own. -/
import Derived.Test.YtnpkcipeacogcaaBkNb
import Derived.Shelf.Spec.SlicesInsertGrow

set_option linter.unusedSimpArgs false
set_option linter.unusedVariables false
namespace Go.Proofs.Ytnpkcipeacogcaa
open Go.RowKit Go.Lib

theorem run_copy_row_k {P : Program} (w : World) (dT sT ty elem : TypeId) (size g o dLen dCap : Nat) (a : Addr) (sLen sCap : Nat) (cur : Array Value) (t : TypeId) (cs : List Value) (q : Nat)
    (hu : P.underlying dT = some (.slice elem)) (hs : (P.info? elem).map (·.size) = some size)
    (hg : w.heap[g]? = some (.cells cur t (0, 0))) (hq : Nat.min sLen dLen = q) (hn : cs.length = q * size)
    (hsrc : ∀ j v, cs[j]? = some v → w.cell? (a.add j) = some v) (hfit : o + cs.length ≤ cur.size) (h1 : ∀ v ∈ cs, v.oneCell' = true) :
    (Builtin.copy_ #[dT, sT] ty #[.slice (some ⟨g, o, none⟩) dLen dCap, .slice (some a) sLen sCap]).run P w =
      .ok (goInt q) (w.setRow g (cur.toList.take o ++ cs ++ cur.toList.drop (o + cs.length)).toArray) := by
  have hl := run_loadCells_list (P := P) w a cs hsrc
  have hst := run_storeCells_at P g o t cs 0 cur w hg (by simpa using hfit) h1
  simp only [Nat.add_zero] at hst
  cases hq2 : P.info? elem with
  | none => simp [hq2] at hs
  | some i =>
    have hi : i.size = size := by simpa [hq2] using hs
    rw [hn] at hl
    simp [Builtin.copy_, run_underlying hu, Builtin.lenOf, Builtin.firstCells, sizeOf, typeInfo, hq2, hi, hq, hl, hst]
theorem setRow_blk {w : World} {g : Nat} {cur cs : Array Value} {t : TypeId} (h : Blk w g t cur) : Blk (w.setRow g cs) g t cs := setRow_heap w g cur _ t _ h
theorem setRow_far {w : World} {g k : Nat} {cs : Array Value} (h : k ≠ g) : (w.setRow g cs).heap[k]? = w.heap[k]? := by
  unfold World.setRow
  simp only [Array.getElem?_modify]
  split
  · rename_i e; exact absurd e.symm h
  · rfl
theorem setRow_low {B : Nat} {w0 w : World} {g : Nat} {cs : Array Value} (h : Below B w0 w) (hg : B ≤ g) : Below B w0 (w.setRow g cs) :=
  h.trans ⟨rfl, rfl, rfl, by unfold World.setRow; simp, fun k hk => setRow_far (by omega)⟩
theorem spn_one (l : List Spn) : ∀ v ∈ l.flatMap Spn.enc, v.oneCell' = true := by
  intro v hv
  obtain ⟨x, _, h⟩ := List.mem_flatMap.1 hv
  simp only [Spn.enc, List.mem_cons, List.mem_nil_iff, or_false] at h
  rcases h with rfl | rfl <;> rfl
theorem spn_len (l : List Spn) : (l.flatMap Spn.enc).length = l.length * 2 := flatMap_size l (fun _ _ => rfl)
theorem spn_drop (l : List Spn) (i : Nat) (h : i ≤ l.length) : (l.drop i).flatMap Spn.enc = (l.flatMap Spn.enc).drop (i * 2) := by
  have h1 : l.flatMap Spn.enc = (l.take i).flatMap Spn.enc ++ (l.drop i).flatMap Spn.enc := by rw [← List.flatMap_append, List.take_append_drop]
  have h2 : ((l.take i).flatMap Spn.enc).length = i * 2 := by rw [spn_len, List.length_take, Nat.min_eq_left h]
  rw [h1]
  exact (List.drop_left' h2).symm
theorem spn_take (l : List Spn) (i : Nat) (h : i ≤ l.length) : (l.take i).flatMap Spn.enc = (l.flatMap Spn.enc).take (i * 2) := by
  have h1 : l.flatMap Spn.enc = (l.take i).flatMap Spn.enc ++ (l.drop i).flatMap Spn.enc := by rw [← List.flatMap_append, List.take_append_drop]
  have h2 : ((l.take i).flatMap Spn.enc).length = i * 2 := by rw [spn_len, List.length_take, Nat.min_eq_left h]
  rw [h1]
  exact (List.take_left' h2).symm
/-- What both roads leave in the row. -/
theorem ins_row {cur : List Value} {X : List Value} {a b : Value} {i n m : Nat} (hX : X.length = n * 2) (hi : i ≤ n) (hm : (n + 1) * 2 ≤ m) (hlen : cur.length = m) (ht : cur.take (i * 2) = X.take (i * 2)) :
    ((((cur.take ((i + 1) * 2) ++ X.drop (i * 2) ++ cur.drop ((i + 1) * 2 + (X.drop (i * 2)).length)).take (i * 2)) ++ [a, b] ++ (cur.take ((i + 1) * 2) ++ X.drop (i * 2) ++ cur.drop ((i + 1) * 2 + (X.drop (i * 2)).length)).drop (i * 2 + 2)).take ((n + 1) * 2)) = X.take (i * 2) ++ [a, b] ++ X.drop (i * 2) := by
  have e1 : (cur.take ((i + 1) * 2)).length = (i + 1) * 2 := by rw [List.length_take]; omega
  have e2 : (cur.take ((i + 1) * 2) ++ X.drop (i * 2) ++ cur.drop ((i + 1) * 2 + (X.drop (i * 2)).length)).take (i * 2) = X.take (i * 2) := by
    rw [List.append_assoc, List.take_append_of_le_length (by omega), List.take_take, Nat.min_eq_left (by omega), ht]
  have e3 : (cur.take ((i + 1) * 2) ++ X.drop (i * 2) ++ cur.drop ((i + 1) * 2 + (X.drop (i * 2)).length)).drop (i * 2 + 2) = X.drop (i * 2) ++ cur.drop ((i + 1) * 2 + (X.drop (i * 2)).length) := by
    rw [List.append_assoc, List.drop_append_of_le_length (by omega), List.drop_of_length_le (by omega), List.nil_append]
  have e4 : (X.take (i * 2)).length = i * 2 := by rw [List.length_take]; omega
  have e5 : (X.drop (i * 2)).length = n * 2 - i * 2 := by rw [List.length_drop, hX]
  rw [e2, e3, ← List.append_assoc, List.take_append_of_le_length (by simp only [List.length_append, List.length_cons, List.length_nil, e4, e5]; omega)]
  exact List.take_of_length_le (by simp only [List.length_append, List.length_cons, List.length_nil, e4, e5]; omega)
theorem ins_flat (L : List Spn) (p : Spn) (i : Nat) (h : i ≤ L.length) : (L.take i ++ p :: L.drop i).flatMap Spn.enc = (L.flatMap Spn.enc).take (i * 2) ++ [.int .i64 p.secs, .int .i64 p.power] ++ (L.flatMap Spn.enc).drop (i * 2) := by
  rw [List.flatMap_append, List.flatMap_cons, spn_take L i h, spn_drop L i h, ← List.append_assoc]
  rfl
def InsEnd (base n : Nat) (L : List Spn) (w : World) (e : Ending) (w' : World) : Prop :=
  ∃ g c, e = .returned (.slice (some ⟨g, 0, none⟩) n c) ∧ w'.ownsRow base 37 2 (.slice (some ⟨g, 0, none⟩) n c) n (L.flatMap Spn.enc) ∧ Below base w w'
set_option maxRecDepth 100000 in
set_option maxHeartbeats 4000000 in
/-- There is room: in place. -/
theorem insert_room (g n c i vb base : Nat) (cur : Array Value) (L : List Spn) (p : Spn) (w : World) (hg : Blk w g 37 cur) (hb : base ≤ g) (hcs : cur.size = c * 2) (hc : c ≤ maxLen) (hroom : n + 1 ≤ c) (hL : L.length = n) (hcur : cur.toList.take (n * 2) = L.flatMap Spn.enc) (hi : i < n) (hn : n ≤ 1000)
    (hv : Blk w vb 37 #[.int .i64 p.secs, .int .i64 p.power]) (hne : vb ≠ g) :
    Calls Try.prog 25 #[.slice (some ⟨g, 0, none⟩) n c, .int .i64 i, .slice (some ⟨vb, 0, none⟩) 1 1] w (InsEnd base (n + 1) (L.take i ++ p :: L.drop i) w) := by
  have hlx := spn_len L
  obtain ⟨X, hX⟩ : ∃ z, z = L.flatMap Spn.enc := ⟨_, rfl⟩
  have hXo : ∀ v ∈ X, v.oneCell' = true := by rw [hX]; exact spn_one L
  rw [← hX] at hlx hcur
  rw [hL] at hlx
  obtain ⟨i0, hi0, hz0, hz1, hz2⟩ := info_parts spnInfo
  have hsz : (Try.prog.info? 37).map (·.size) = some 2 := by rw [hi0]; simp [hz1]
  have hszr : ∀ w, (Go.sizeOf 37).run Try.prog w = .ok 2 w := fun w => by simp [sizeOf, typeInfo, hi0, hz1]
  have hxc : ∀ j v, X[j]? = some v → w.cell? ⟨g, j, none⟩ = some v := fun j v hj => by
    rw [Blk.cell hg]
    rw [← hcur, List.getElem?_take] at hj
    split at hj
    · simpa using hj
    · cases hj
  have hov : ∀ lb cb, (callFunc 38 #[.slice (some ⟨vb, 0, none⟩) 1 1, .slice (some ⟨g, (i + 1) * 2, none⟩) lb cb]).run Try.prog w = .ok (.value (.bool false)) w := fun lb cb => by
    rw [run_callFunc_extern Try.func38 (by kernel_rfl) (by kernel_rfl) (by kernel_rfl) (e := Extern.SlicesOverlaps.overlaps #[28, 28] #[4]) (by kernel_rfl),
      Lib.run_overlaps_apart w 28 4 37 Try.underlying28 2 hszr ⟨vb, 0, none⟩ ⟨g, (i + 1) * 2, none⟩ 1 1 lb cb hne 37 37 2 cur.size (by unfold World.shape?; rw [hv]; rfl) (by unfold World.shape?; rw [hg]) (by omega) (hv.frozen _) (hv.frozen _)]
    rfl
  obtain ⟨D, hD⟩ : ∃ z, z = X.drop (i * 2) := ⟨_, rfl⟩
  have hDl : D.length = (n - i) * 2 := by rw [hD, List.length_drop, hlx]; omega
  obtain ⟨c1, hc1⟩ : ∃ z : Array Value, z = (cur.toList.take ((i + 1) * 2) ++ D ++ cur.toList.drop ((i + 1) * 2 + D.length)).toArray := ⟨_, rfl⟩
  have hs1 : c1.size = c * 2 := by
    rw [hc1]
    simp only [List.size_toArray, List.length_append, List.length_take, List.length_drop, Array.length_toList, hDl, hcs]
    omega
  obtain ⟨w1, hW1⟩ : ∃ z, z = w.drew.setRow g c1 := ⟨_, rfl⟩
  have hcp1 : ∀ ty dc sc, (Builtin.copy_ #[28, 28] ty #[.slice (some ⟨g, (i + 1) * 2, none⟩) (n - i) dc, .slice (some ⟨g, i * 2, none⟩) (n + 1 - i) sc]).run Try.prog w.drew = .ok (goInt (n - i : Nat)) w1 := fun ty dc sc => by
    rw [hW1, hc1]
    exact run_copy_row_k w.drew _ _ ty 37 2 g ((i + 1) * 2) (n - i) dc ⟨g, i * 2, none⟩ (n + 1 - i) sc cur 37 D (n - i) Try.underlying28 hsz hg (by simp only [Nat.min_def]; split <;> omega) hDl
      (fun j v hj => by rw [Addr.add_lit]; exact hxc _ v (by rw [hD, List.getElem?_drop] at hj; exact hj)) (by rw [hDl, hcs]; omega) (fun v hv => hXo v (by rw [hD] at hv; exact List.mem_of_mem_drop hv))
  have hg1 : Blk w1 g 37 c1 := by rw [hW1]; exact setRow_blk (show Blk w.drew g _ cur from hg)
  have hv1 : Blk w1 vb 37 #[.int .i64 p.secs, .int .i64 p.power] := by rw [hW1]; exact (setRow_far hne).trans hv
  obtain ⟨c2, hc2⟩ : ∃ z : Array Value, z = (c1.toList.take (i * 2) ++ [Value.int .i64 p.secs, Value.int .i64 p.power] ++ c1.toList.drop (i * 2 + 2)).toArray := ⟨_, rfl⟩
  have hcp2 : ∀ ty dc, (Builtin.copy_ #[28, 28] ty #[.slice (some ⟨g, i * 2, none⟩) (n + 1 - i) dc, .slice (some ⟨vb, 0, none⟩) 1 1]).run Try.prog w1 = .ok (goInt (1 : Nat)) (w1.setRow g c2) := fun ty dc => by
    rw [hc2]
    exact run_copy_row_k w1 _ _ ty 37 2 g (i * 2) (n + 1 - i) dc ⟨vb, 0, none⟩ 1 1 c1 37 [.int .i64 p.secs, .int .i64 p.power] 1 Try.underlying28 hsz hg1 (by simp only [Nat.min_def]; split <;> omega) rfl
      (fun j v hj => by rw [Addr.add_lit, Nat.zero_add, Blk.cell hv1]; simpa using hj) (by rw [hs1]; simp only [List.length_cons, List.length_nil]; omega) (by intro u hu; simp only [List.mem_cons, List.mem_nil_iff, or_false] at hu; rcases hu with rfl | rfl <;> rfl)
  have HFIN : Hid (InsEnd base (n + 1) (L.take i ++ p :: L.drop i) w (.returned (.slice (some ⟨g, 0, none⟩) (n + 1) c)) (w1.setRow g c2)) := by
    have hs2 : c2.size = c * 2 := by
      rw [hc2]
      simp only [List.size_toArray, List.length_append, List.length_take, List.length_drop, Array.length_toList, hs1, List.length_cons, List.length_nil]
      omega
    refine Lib.hid ⟨g, c, rfl, ⟨by rw [spn_len, List.length_append, List.length_take, List.length_cons, List.length_drop, hL]; omega, Or.inr ⟨g, c, c2, rfl, hb, setRow_blk hg1, hroom, hc, hs2, ?_⟩⟩, setRow_low (by rw [hW1]; exact setRow_low (Below.refl _ _).drew hb) hb⟩
    rw [ins_flat L p i (by omega), ← hX, hc2, List.toList_toArray, hc1, hD, List.toList_toArray]
    exact ins_row hlx (by omega) (show (n + 1) * 2 ≤ c * 2 by omega) (by rw [Array.length_toList, hcs]) (by rw [← hcur, List.take_take, Nat.min_eq_left (by omega)])
  have mixed : Try.prog.follows .mixedOrders = true := by kernel_rfl
  have hw1 : IntKind.i64.wrap ((i : Int) + 1) = (i : Int) + 1 := IntWalk.i64_in _ (by omega)
  have hw2 : IntKind.i64.wrap ((n : Int) + 1) = (n : Int) + 1 := IntWalk.i64_in _ (by omega)
  have hz2 : ¬ ((i : Int) = (n : Int)) := by omega
  have hz3 : ¬ ((c : Int) < (n : Int) + 1) := by omega
  have hb1 : (0 : Int) ≤ (i : Int) + 1 := by omega
  have hb2 : ¬ (c = i + 1) := by omega
  have hb3 : (i : Int) ≤ (n : Int) + 1 := by omega
  have hb4 : ¬ (c = i) := by omega
  have htn : ((i : Int) + 1).toNat = i + 1 := by omega
  have htm : ((n : Int) + 1).toNat = n + 1 := by omega
  have hin : i ≤ n := by omega
  have hc63 : c ≤ 9223372036854775807 := by simpa [maxLen] using hc
  clear hW1 hlx hcur hXo hX hD hDl hc1 hs1 hc2 hg1 hv1 hg hb hcs hc hL hv hne hsz hszr hxc hi0 hz0 hz1 hz2
  go_enter Try.func25, Try.ntmps25
  go_wp2_with (simp only [hov])
  go_region_law_o (refine step_copy_runI rfl _ _ 28 28 rfl _ _ (by simp [Act.eval, Act.put]) (by simp [Act.eval, Act.put]) (hcp1 _ _ _) ?_)
  go_wp2_with (at_builtin; refine wpList_copy_runI _ rfl _ _ 28 28 rfl _ _ rfl rfl (hcp2 _ _) ?_)
  go_ret
  exact HFIN.out
theorem ins_row2 {R X : List Value} {a b : Value} {i n m : Nat} (hX : X.length = n * 2) (hi : i ≤ n) (hm : (n + 1) * 2 ≤ m) (hlen : R.length = m) (ht : R.take (i * 2) = X.take (i * 2)) :
    ((((R.take (i * 2) ++ [a, b] ++ R.drop (i * 2 + 2)).take ((i + 1) * 2)) ++ X.drop (i * 2) ++ (R.take (i * 2) ++ [a, b] ++ R.drop (i * 2 + 2)).drop ((i + 1) * 2 + (X.drop (i * 2)).length)).take ((n + 1) * 2)) = X.take (i * 2) ++ [a, b] ++ X.drop (i * 2) := by
  have e4 : (X.take (i * 2)).length = i * 2 := by rw [List.length_take]; omega
  have e5 : (X.drop (i * 2)).length = n * 2 - i * 2 := by rw [List.length_drop, hX]
  have e6 : (R.take (i * 2) ++ [a, b] ++ R.drop (i * 2 + 2)).take ((i + 1) * 2) = X.take (i * 2) ++ [a, b] := by
    rw [ht]
    exact List.take_left' (by simp only [List.length_append, List.length_cons, List.length_nil, e4]; omega)
  rw [e6]
  exact List.take_left' (by simp only [List.length_append, List.length_cons, List.length_nil, e4, e5]; omega)
set_option maxRecDepth 100000 in
set_option maxHeartbeats 4000000 in
/-- There is none: a new row. -/
theorem insert_grow (g n c i vb base : Nat) (cur : Array Value) (L : List Spn) (p : Spn) (w : World) (hg : Blk w g 37 cur) (hb : base ≤ g) (hcs : cur.size = c * 2) (hnc : n ≤ c) (hroom : c < n + 1) (hL : L.length = n) (hcur : cur.toList.take (n * 2) = L.flatMap Spn.enc) (hi : i < n) (hn : n ≤ 1000)
    (hv : Blk w vb 37 #[.int .i64 p.secs, .int .i64 p.power]) (hne : vb ≠ g) :
    Calls Try.prog 25 #[.slice (some ⟨g, 0, none⟩) n c, .int .i64 i, .slice (some ⟨vb, 0, none⟩) 1 1] w (InsEnd base (n + 1) (L.take i ++ p :: L.drop i) w) := by
  have hlx := spn_len L
  obtain ⟨X, hX⟩ : ∃ z, z = L.flatMap Spn.enc := ⟨_, rfl⟩
  have hXo : ∀ v ∈ X, v.oneCell' = true := by rw [hX]; exact spn_one L
  rw [← hX] at hlx hcur
  rw [hL] at hlx
  obtain ⟨i0, hi0, hz0, hzs, hzb⟩ := info_parts spnInfo
  have hsz : (Try.prog.info? 37).map (·.size) = some 2 := by rw [hi0]; simp [hzs]
  have hxc : ∀ j v, X[j]? = some v → w.cell? ⟨g, j, none⟩ = some v := fun j v hj => by
    rw [Blk.cell hg]
    rw [← hcur, List.getElem?_take] at hj
    split at hj
    · simpa using hj
    · cases hj
  have hbig : (n + 1) * 16 ≤ 140737488355328 := by omega
  have hik : i + (n + 1 - i) = n + 1 := by omega
  have hkk : (n : Int) + 1 - (i : Int) = ((n + 1 - i : Nat) : Int) := by omega
  have hold : (Builtin.firstCells i0.size i (.slice (some ⟨g, 0, none⟩) i c)).run Try.prog w.drew = .ok (X.take (i * 2)).toArray w.drew := by
    rw [hzs]
    exact run_firstCells_some w.drew 2 i ⟨g, 0, none⟩ i c (X.take (i * 2)) (by rw [List.length_take]; omega) (fun j v hj => by
      rw [Addr.add_lit, Nat.zero_add]
      rw [List.getElem?_take] at hj
      split at hj
      · exact hxc j v hj
      · cases hj)
  obtain ⟨G, hG⟩ : ∃ G, G = grownCap w (n + 1) c 37 := ⟨_, rfl⟩
  have hGn : n + 1 ≤ G := by rw [hG]; exact grownCap_ge w _ _ _
  have hGm : G ≤ maxLen := by rw [hG]; exact grownCap_le_maxLen w (n + 1) c _ (by unfold maxLen; omega)
  obtain ⟨ROW, hROW⟩ : ∃ ROW : Array Value, ROW = (X.take (i * 2)).toArray ++ Builtin.zeroCells (Value.agg #[.int .i64 0, .int .i64 0]).cells (n + 1 - i) ++ Builtin.zeroCells (Value.agg #[.int .i64 0, .int .i64 0]).cells (G - (n + 1)) := ⟨_, rfl⟩
  have hrz : ∀ ty, (Builtin.append_ #[28, 3] ty #[.slice (some ⟨g, 0, none⟩) i c, .int .i64 ((n : Int) + 1 - (i : Int))]).run Try.prog w =
      .ok (.slice (some ⟨w.heap.size, 0, none⟩) (n + 1) G) (w.drew.alloc (.cells ROW 37)) := fun ty => by
    have h := Lib.run_append_grow_zeros w 28 3 ty 37 i0 _ .i64 .i64 Try.underlying28 Try.underlying3 hi0 hz0 (some ⟨g, 0, none⟩) i c (X.take (i * 2)) hold (n + 1 - i) (by omega) (by omega) (by omega) (by omega) (by rw [hzb]; omega) (by rw [hzb, hik]; exact growslice_fits hroom hbig)
    rw [hik, ← hG, ← hROW] at h
    rw [hkk]
    exact h
  have hRs : ROW.size = G * 2 := by
    have hzc : ∀ k, (Builtin.zeroCells (Value.agg #[.int .i64 0, .int .i64 0]).cells k).size = k * 2 := fun k => by simp [Builtin.zeroCells, Value.cells]
    have hxt : (X.take (i * 2)).length = i * 2 := by rw [List.length_take]; omega
    rw [hROW, Array.size_append, Array.size_append, hzc, hzc, List.size_toArray, hxt]
    omega
  have hRt : ROW.toList.take (i * 2) = X.take (i * 2) := by
    rw [hROW, Array.toList_append, Array.toList_append, List.toList_toArray, List.append_assoc]
    exact List.take_left' (by rw [List.length_take]; omega)
  obtain ⟨N, hN⟩ : ∃ z, z = w.heap.size := ⟨_, rfl⟩
  have hgN : g ≠ N := by have := hg.lt; omega
  have hvN : vb ≠ N := by have := hv.lt; omega
  obtain ⟨D, hD⟩ : ∃ z, z = X.drop (i * 2) := ⟨_, rfl⟩
  have hDl : D.length = (n - i) * 2 := by rw [hD, List.length_drop, hlx]; omega
  obtain ⟨c1, hc1⟩ : ∃ z : Array Value, z = (ROW.toList.take (i * 2) ++ [Value.int .i64 p.secs, Value.int .i64 p.power] ++ ROW.toList.drop (i * 2 + 2)).toArray := ⟨_, rfl⟩
  have hs1 : c1.size = G * 2 := by
    rw [hc1]
    simp only [List.size_toArray, List.length_append, List.length_take, List.length_drop, Array.length_toList, hRs, List.length_cons, List.length_nil]
    omega
  obtain ⟨c2, hc2⟩ : ∃ z : Array Value, z = (c1.toList.take ((i + 1) * 2) ++ D ++ c1.toList.drop ((i + 1) * 2 + D.length)).toArray := ⟨_, rfl⟩
  have hs2 : c2.size = G * 2 := by
    rw [hc2]
    simp only [List.size_toArray, List.length_append, List.length_take, List.length_drop, Array.length_toList, hDl, hs1]
    omega
  have hw1N : Blk (w.drew.alloc (.cells ROW 37)) N 37 ROW := by rw [hN]; exact heap_alloc_new w.drew _
  have hw1v : Blk (w.drew.alloc (.cells ROW 37)) vb 37 #[.int .i64 p.secs, .int .i64 p.power] := (show Blk w.drew vb _ _ from hv).alloc _
  have hw1g : Blk (w.drew.alloc (.cells ROW 37)) g 37 cur := (show Blk w.drew g _ _ from hg).alloc _
  have hcpA : ∀ (W : World), W.heap = (w.drew.alloc (.cells ROW 37)).heap → ∀ ty dc, (Builtin.copy_ #[28, 28] ty #[.slice (some ⟨N, i * 2, none⟩) (n + 1 - i) dc, .slice (some ⟨vb, 0, none⟩) 1 1]).run Try.prog W = .ok (goInt (1 : Nat)) (W.setRow N c1) := fun W hW ty dc => by
    rw [hc1]
    have hv' : Blk W vb 37 #[.int .i64 p.secs, .int .i64 p.power] := by unfold Blk; rw [hW]; exact hw1v
    exact run_copy_row_k W _ _ ty 37 2 N (i * 2) (n + 1 - i) dc ⟨vb, 0, none⟩ 1 1 ROW 37 [.int .i64 p.secs, .int .i64 p.power] 1 Try.underlying28 hsz (by rw [hW]; exact hw1N) (by simp only [Nat.min_def]; split <;> omega) rfl
      (fun j v hj => by rw [Addr.add_lit, Nat.zero_add, Blk.cell hv']; simpa using hj) (by rw [hRs]; simp only [List.length_cons, List.length_nil]; omega) (by intro u hu; simp only [List.mem_cons, List.mem_nil_iff, or_false] at hu; rcases hu with rfl | rfl <;> rfl)
  have hcpB : ∀ (W : World), W.heap = ((w.drew.alloc (.cells ROW 37)).setRow N c1).heap → ∀ ty dc sc, (Builtin.copy_ #[28, 28] ty #[.slice (some ⟨N, (i + 1) * 2, none⟩) (n - i) dc, .slice (some ⟨g, i * 2, none⟩) (n - i) sc]).run Try.prog W = .ok (goInt (n - i : Nat)) (W.setRow N c2) := fun W hW ty dc sc => by
    rw [hc2]
    have hg' : Blk W g 37 cur := by unfold Blk; rw [hW]; exact (setRow_far hgN).trans hw1g
    exact run_copy_row_k W _ _ ty 37 2 N ((i + 1) * 2) (n - i) dc ⟨g, i * 2, none⟩ (n - i) sc c1 37 D (n - i) Try.underlying28 hsz (by rw [hW]; exact setRow_blk hw1N) (by simp only [Nat.min_def]; split <;> omega) hDl
      (fun j v hj => by
        rw [Addr.add_lit, Blk.cell hg']
        rw [hD, List.getElem?_drop] at hj
        have := hxc _ v hj
        rwa [Blk.cell hg] at this) (by rw [hDl, hs1]; omega) (fun v hv => hXo v (by rw [hD] at hv; exact List.mem_of_mem_drop hv))
  have HFIN : Hid (InsEnd base (n + 1) (L.take i ++ p :: L.drop i) w (.returned (.slice (some ⟨N, 0, none⟩) (n + 1) G)) ((((w.drew.alloc (.cells ROW 37)).setRow N c1).drew).setRow N c2)) := by
    have hbN : base ≤ N := by have := hg.lt; omega
    refine Lib.hid ⟨N, G, rfl, ⟨by rw [spn_len, List.length_append, List.length_take, List.length_cons, List.length_drop, hL]; omega, Or.inr ⟨N, G, c2, rfl, hbN, setRow_blk (show Blk ((w.drew.alloc (.cells ROW 37)).setRow N c1).drew N _ c1 from setRow_blk hw1N), hGn, hGm, hs2, ?_⟩⟩, ?_⟩
    · rw [ins_flat L p i (by omega), ← hX, hc2, List.toList_toArray, hc1, hD, List.toList_toArray]
      exact ins_row2 hlx (by omega) (show (n + 1) * 2 ≤ G * 2 by omega) (by rw [Array.length_toList, hRs]) hRt
    · exact setRow_low (setRow_low ((Below.refl base w).drew.alloc (by have := hg.lt; show base ≤ w.heap.size; omega) _) hbN).drew hbN
  have mixed : Try.prog.follows .mixedOrders = true := by kernel_rfl
  have hw1 : IntKind.i64.wrap ((i : Int) + 1) = (i : Int) + 1 := IntWalk.i64_in _ (by omega)
  have hw2 : IntKind.i64.wrap ((n : Int) + 1) = (n : Int) + 1 := IntWalk.i64_in _ (by omega)
  have hw3 : IntKind.i64.wrap ((n : Int) + 1 - (i : Int)) = (n : Int) + 1 - (i : Int) := IntWalk.i64_in _ (by omega)
  have hz2 : ¬ ((i : Int) = (n : Int)) := by omega
  have hz3 : (c : Int) < (n : Int) + 1 := by omega
  have hb1 : (0 : Int) ≤ (i : Int) + 1 := by omega
  have hGi : ¬ (G = i) := by omega
  have hGim : ¬ (G = i + 1) := by omega
  have hb4 : ¬ (c = i) := by omega
  have hb5 : (i : Int) + 1 ≤ (n : Int) + 1 := by omega
  have htn : ((i : Int) + 1).toNat = i + 1 := by omega
  have hin : i ≤ n := by omega
  have hG63 : G ≤ 9223372036854775807 := by simpa [maxLen] using hGm
  rw [← hN] at hrz
  have hE : ((w.alloc (.cells ROW 37)).drew).heap = (w.drew.alloc (.cells ROW 37)).heap := rfl
  have hF : (((w.alloc (.cells ROW 37)).drew.setRow N c1).drew).heap = ((w.drew.alloc (.cells ROW 37)).setRow N c1).heap := rfl
  clear hlx hcur hXo hX hD hDl hc1 hs1 hc2 hs2 hg hb hcs hL hv hne hsz hxc hi0 hz0 hzs hzb hik hkk hold hG hROW hRs hRt hN hgN hvN hw1N hw1v hw1g hbig hGm
  go_enter Try.func25, Try.ntmps25
  go_wp2_with (first
    | (at_builtin; refine Lib.wpList_append_run _ rfl _ _ _ _ rfl _ _ rfl rfl _ _ (hrz _) ?_)
    | (at_builtin; refine wpList_copy_runI _ rfl _ _ 28 28 rfl _ _ rfl rfl (hcpA _ hE _ _) ?_))
  go_region_law_o (refine step_copy_runI rfl _ _ 28 28 rfl (.slice (some ⟨N, (i + 1) * 2, none⟩) (n - i) (G - (i + 1))) (.slice (some ⟨g, i * 2, none⟩) (n - i) (c - i)) (by simp [Act.eval, Act.put]) (by simp [Act.eval, Act.put]) (hcpB _ hF 3 (G - (i + 1)) (c - i)) ?_)
  go_wp2
  go_ret
  exact HFIN.out
end Go.Proofs.Ytnpkcipeacogcaa
