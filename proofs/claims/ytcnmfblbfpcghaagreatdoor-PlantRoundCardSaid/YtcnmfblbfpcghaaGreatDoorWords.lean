/- plant.spaced: numbers with spaces between them. -/
import Derived.Test.YtcnmfblbfpcghaaGreatDoorStr
import Derived.Test.YtcnmfblbfpcghaaGreatDoorIslands
import Derived.WideMake

set_option linter.unusedSimpArgs false
set_option linter.unusedVariables false
namespace Go.Proofs.YtcnmfblbfpcghaaGreatDoor
open Go.RowKit Go.Shelf

def spacedL (l : List Int) : List UInt8 := Lib.join (l.map Lib.itoa) [32]
theorem strInfo : (Tryz.prog.info? 9).map (fun i => (i.zero, i.size, i.bytes)) = some (some (.string ⟨#[]⟩), 1, 16) := by kernel_rfl
def strVals (l : List (List UInt8)) : List Value := l.map fun x => Value.string (ba x)
/-- strings.Join of a row. -/
theorem join_row (base n c : Nat) (A : Option Addr) (ws : List (List UInt8)) (w : World) (h : w.ownsRow base 9 1 (.slice A n c) n (strVals ws)) (hn : n ≤ 1000) (hl : (Lib.join ws [32]).length ≤ 140737488355328) :
    Calls Tryz.prog 48 #[.slice A n c, .string ⟨#[32]⟩] w fun e w' => e = .returned (.string (ba (Lib.join ws [32]))) ∧ Below w.heap.size w w' := by
  have hlen : ws.length = n := by have := h.1; simpa [strVals] using this
  rcases h.2 with ⟨e, h0⟩ | ⟨g, cap, cur, e, hb, hg, hnc, _⟩
  · subst h0
    have hw : ws = [] := List.eq_nil_of_length_eq_zero hlen
    subst hw
    refine (Any.strings_Join_none lays156 Builder_Extra_156 A c ⟨#[32]⟩ w).mono ?_
    rintro e w' ⟨rfl, rfl⟩
    exact ⟨rfl, Below.refl _ _⟩
  · simp only [Value.slice.injEq, true_and] at e
    obtain ⟨rfl, rfl⟩ := e
    have hxs : (ws.map ba).length = n := by simpa using hlen
    have hmap : (ws.map ba).map (fun x => x.data.toList) = ws := by
      rw [List.map_map]
      conv => rhs; rw [← List.map_id ws]
      rfl
    have hj := Any.strings_Join lays156 Builder_Extra_156 g 0 c (ws.map ba) ⟨#[32]⟩ w (fun j x hx => by
      rw [List.getElem?_map, Option.map_eq_some_iff] at hx
      obtain ⟨y, hy, rfl⟩ := hx
      have := row_cell h (k := j) (u := .string (ba y)) (by simp [strVals, hy])
      simpa using this) (Array.getElem?_eq_some_iff.1 hg).1 (by omega) (by omega) (by rw [hmap]; exact hl)
    rw [hxs] at hj
    refine hj.mono ?_
    rintro e w' ⟨rfl, hB⟩
    refine ⟨?_, hB⟩
    rw [hmap]
    rfl
theorem join_length_le (ws : List (List UInt8)) (m : Nat) (h : ∀ x ∈ ws, x.length ≤ m) : (Lib.join ws [32]).length ≤ ws.length * (m + 1) := by
  have key : ∀ r : List (List UInt8), (∀ x ∈ r, x.length ≤ m) → (Lib.joinTail [32] r).length ≤ r.length * (m + 1) := by
    intro r hr
    induction r with
    | nil => simp [Lib.joinTail]
    | cons y r ih =>
      have h1 := hr y (List.mem_cons_self ..)
      have h2 := ih fun z hz => hr z (List.mem_cons_of_mem _ hz)
      simp only [Lib.joinTail, List.map_cons, List.flatten_cons, List.length_append, List.length_cons, List.length_nil] at h2 ⊢
      rw [Nat.succ_mul]
      omega
  cases ws with
  | nil => simp [Lib.join_nil]
  | cons x r =>
    rw [Lib.join_cons, List.length_append, List.length_cons, Nat.succ_mul]
    have h1 := h x (List.mem_cons_self ..)
    have h2 := key r fun z hz => h z (List.mem_cons_of_mem _ hz)
    omega
def Int64 (x : Int) : Prop := -9223372036854775808 ≤ x ∧ x ≤ 9223372036854775807
set_option maxRecDepth 100000 in
set_option maxHeartbeats 2000000 in
theorem spaced_any (A : Option Addr) (n c : Nat) (l : List Int) (w : World) (hl : Rd w w.heap.size 1 encI A n l) (hn : n ≤ 100) (h64 : ∀ x ∈ l, Int64 x) (hP : Pow w) :
    Calls Tryz.prog 50 #[.slice A n c] w fun e w' => e = .returned (.string (ba (spacedL l))) ∧ Below w.heap.size w w' := by
  have HL := Lib.hid hl
  have HP := Lib.hid hP
  have hlen := hl.1
  have I := Lib.hid (fun n h0 h1 w hP => itoa_any n h0 h1 w hP)
  have J := Lib.hid (fun base n c A ws w h hn hl => join_row base n c A ws w h hn hl)
  obtain ⟨i0, hi, hz0, hz1, hz2⟩ := info_parts strInfo
  clear hl hP
  go_enter Tryz.func50, Tryz.ntmps50
  go_wp2
  go_loopw [3, 8] (fun v i wr => ∃ k : Nat, k ≤ n ∧ i = .int .i64 k ∧ Below w.heap.size w wr ∧ Hid (wr.ownsRow w.heap.size 9 1 v k (strVals ((l.take k).map Lib.itoa)))) (fun _ i _ => n - (intOf i).toNat)
  case atStart => exact ⟨0, by omega, rfl, Below.refl _ _, World.ownsRow_nil _ _ _ _⟩
  case round =>
    obtain ⟨k, hk, rfl, hB, hE⟩ := hrel
    have hz' := hB.size
    by_cases hlt : k < n
    · obtain ⟨b, off, x, rfl, hb, hx, hcx⟩ := (HL.out.below hB).at_ hlt
      have c0 : wr.cell? ⟨b, off + k, none⟩ = some (.int .i64 x) := by simpa using hcx 0 _ rfl
      have hx64 := h64 x (List.mem_of_getElem? hx)
      have HX := Lib.hid hx
      have II := Lib.hid (fun W hP => I.out x hx64.1 hx64.2 W hP)
      have hk0 : (0 : Int) ≤ (k : Int) := by omega
      have hkn : (k : Int) < (n : Int) := by omega
      clear hx hcx hx64
      go_wp2_with fail
      refine (II.out _ (HP.out.from_ (hB.trans (Below.refl _ _)) (Nat.le_refl _))).mono ?_
      rintro e w3 ⟨rfl, hB3⟩
      have HE := Lib.hid (hE.out.kept (grown_of_below hB3) (by by_cases hu : u3.ownBlock = none; exact .inl hu; exact .inr hu))
      have hBt := Lib.hid (hB.trans (hB3.mono hB.size))
      have hz3 := hBt.out.size
      go_wp2_with (at_builtin; refine wpList_append_own_at _ rfl (.tmp 12) (.tmp 15) 50 rfl w.heap.size 9 i0 (.string ⟨#[]⟩) 1 16 Tryz.underlying50 hi hz0 hz1 hz2 rfl (by decide) u3 k _ rfl (HE.out.alloc _) ⟨w3.heap.size, 0, none⟩ 1 1 [.string (ba (Lib.itoa x))] rfl rfl (cell_one_new _ _ _) ?_ ?_ ?_ ?_ ?_)
      case _ =>
        intro z hz
        simp only [List.mem_cons, List.mem_nil_iff, or_false] at hz
        subst hz
        rfl
      case _ => simp only [maxLen]; omega
      case _ => omega
      case _ => simp; omega
      intro v' w5 hown hg5 _ _
      have HQ := Lib.hid (And.intro hown hg5)
      have hBu : Hid (∀ g, u3.ownBlock = some g → w.heap.size ≤ g) := fun g e => (HE.out.lt g e).1
      clear hown hg5
      go_wp2
      go_roundw
      case rel =>
        refine ⟨k + 1, by omega, by go_num, ((hBt.out.alloc hBt.out.size _).grown HQ.out.2 (by simp; omega) (fun j e => hBu.out j e)), ?_⟩
        have h := HQ.out.1
        refine Lib.hid ?_
        rw [List.take_add_one, HX.out]
        simpa [strVals] using h
      case measure => simp [intOf]; omega
    · obtain rfl : n = k := by omega
      obtain ⟨A', c', rfl⟩ := row_slice hE.out
      have htk : l.take n = l := by rw [← hlen]; exact List.take_length
      rw [htk] at hE
      have hjl : (Lib.join (l.map Lib.itoa) [32]).length ≤ 140737488355328 := by
        have h1 := join_length_le (l.map Lib.itoa) 21 (fun y hy => by
          obtain ⟨z, hz, rfl⟩ := List.mem_map.1 hy
          exact Lib.itoa_length_le z (h64 z hz).1 (h64 z hz).2)
        rw [List.length_map, hlen] at h1
        omega
      have JJ := Lib.hid (J.out w.heap.size n c' A' (l.map Lib.itoa) wr hE.out (by omega) hjl)
      go_wp2_with fail
      refine JJ.out.mono ?_
      rintro e w3 ⟨rfl, hB3⟩
      go_wp2
      go_ret
      exact ⟨rfl, hB.trans (hB3.mono hB.size)⟩
end Go.Proofs.YtcnmfblbfpcghaaGreatDoor

/- plant.sourceWords, plant.linkWords. -/
namespace Go.Proofs.YtcnmfblbfpcghaaGreatDoor
open Go.RowKit Go.Shelf

theorem run_insert {P : Program} {w : World} (mty kt et : TypeId) (r clock : Nat) (n : Int) (es : Array MapEntry) (val : Value) (hm : P.underlying mty = some (.map kt et)) (hk : P.underlying kt = some (.int .i64)) (hb : w.heap[r]? = some (.map es clock))
    (hf : Instr.findNow (.int .i64) (.int .i64 n) es.toList 0 = some none) :
    (Instr.mapUpdate mty (.map (some r)) (.int .i64 n) val).run P w = .ok () (w.putObj r (.map (es.push { key := .int .i64 n, val := val, born := clock }) (clock + 1))) := by
  have hc : (Instr.checkKey es.isEmpty 10000 kt (.int .i64 n)).run P w = .ok () w := MapKept.run_checkKey (k := .int .i64 n) hk (by simp [MapKept.IsKey]) es.isEmpty 9999
  have hc' : (Instr.checkKey false 10000 kt (.int .i64 n)).run P w = .ok () w := MapKept.run_checkKey (k := .int .i64 n) hk (by simp [MapKept.IsKey]) false 9999
  simp [Instr.mapUpdate, run_underlying hm, MapKept.run_getObj_map hb, hc, hc', MapKept.run_findKey hk hf, MapKept.run_setObj_map _ hb, Result.andThen, World.putObj]
theorem run_look {P : Program} {w : World} (mty kt et : TypeId) (r clock i : Nat) (n : Int) (es : Array MapEntry) (val : Value) (hm : P.underlying mty = some (.map kt et)) (hk : P.underlying kt = some (.int .i64)) (hb : w.heap[r]? = some (.map es clock))
    (hf : Instr.findNow (.int .i64) (.int .i64 n) es.toList 0 = some (some (i, val))) :
    (Instr.lookup mty (.map (some r)) (.int .i64 n) false).run P w = .ok val w := by
  have hc : (Instr.checkKey es.isEmpty 10000 kt (.int .i64 n)).run P w = .ok () w := MapKept.run_checkKey (k := .int .i64 n) hk (by simp [MapKept.IsKey]) es.isEmpty 9999
  simp [Instr.lookup, run_underlying hm, MapKept.run_getObj_map hb, hc, MapKept.run_findKey hk hf, Result.andThen]
def entry (n : Int) (s : List UInt8) (b : Nat) : MapEntry := { key := .int .i64 n, val := .string (ba s), born := b }
def srcMap : Array MapEntry := #[entry 1 [103, 114, 105, 100] 0, entry 2 [103, 101, 110, 101, 114, 97, 116, 111, 114] 1, entry 3 [98, 97, 116, 116, 101, 114, 121] 2]
def lnkMap : Array MapEntry := #[entry 1 [99, 97, 98, 108, 101] 0, entry 2 [115, 119, 105, 116, 99, 104] 1, entry 3 [98, 114, 101, 97, 107, 101, 114] 2]
theorem below_put3 (w : World) (o1 o2 o3 o4 : Obj) : Below w.heap.size w ((((w.alloc o1).putObj w.heap.size o2).putObj w.heap.size o3).putObj w.heap.size o4) :=
  ⟨rfl, rfl, rfl, by simp [World.putObj], fun k hk => by
    rw [World.putObj_heap_other (by omega), World.putObj_heap_other (by omega), World.putObj_heap_other (by omega)]
    exact Below.heap_alloc _ _ _ hk⟩
theorem heap_put3 (w : World) (o1 o2 o3 o4 : Obj) : ((((w.alloc o1).putObj w.heap.size o2).putObj w.heap.size o3).putObj w.heap.size o4).heap[w.heap.size]? = some o4 := by
  simp [World.putObj]
set_option maxRecDepth 100000 in
theorem sourceWords_any (w : World) : Calls Tryz.prog 51 #[] w fun e w' => e = .returned (.map (some w.heap.size)) ∧ Below w.heap.size w w' ∧ w'.heap[w.heap.size]? = some (.map srcMap 3) := by
  have hmm := @run_makeMap Tryz.prog
  have h1 : (w.alloc (.map #[] 0)).heap[w.heap.size]? = some (.map #[] 0) := World.alloc_heap_new w _
  have r1 := run_insert (P := Tryz.prog) 104 108 9 w.heap.size 0 1 #[] (.string ⟨#[103, 114, 105, 100]⟩) Tryz.underlying104 Tryz.underlying108 h1 rfl
  generalize hW1 : (w.alloc (.map #[] 0)).putObj w.heap.size _ = W1 at r1
  have h2 : W1.heap[w.heap.size]? = some (.map #[entry 1 [103, 114, 105, 100] 0] 1) := by rw [← hW1]; exact World.putObj_heap_same (by simp)
  have r2 := run_insert (P := Tryz.prog) 104 108 9 w.heap.size 1 2 _ (.string ⟨#[103, 101, 110, 101, 114, 97, 116, 111, 114]⟩) Tryz.underlying104 Tryz.underlying108 h2 rfl
  generalize hW2 : W1.putObj w.heap.size _ = W2 at r2
  have hs1 : W1.heap.size = w.heap.size + 1 := by rw [← hW1]; simp [World.putObj]
  have h3 : W2.heap[w.heap.size]? = some (.map #[entry 1 [103, 114, 105, 100] 0, entry 2 [103, 101, 110, 101, 114, 97, 116, 111, 114] 1] 2) := by rw [← hW2]; exact World.putObj_heap_same (by omega)
  have r3 := run_insert (P := Tryz.prog) 104 108 9 w.heap.size 2 3 _ (.string ⟨#[98, 97, 116, 116, 101, 114, 121]⟩) Tryz.underlying104 Tryz.underlying108 h3 rfl
  generalize hW3 : W2.putObj w.heap.size _ = W3 at r3
  have hB : Hid (Below w.heap.size w W3 ∧ W3.heap[w.heap.size]? = some (.map srcMap 3)) := by
    rw [← hW3, ← hW2, ← hW1]
    exact ⟨below_put3 w _ _ _ _, heap_put3 w _ _ _ _⟩
  clear h1 h2 h3 hW1 hW2 hW3 hs1
  go_enter Tryz.func51, Tryz.ntmps51
  go_wp2
  go_ret
  exact ⟨rfl, hB.out⟩
set_option maxRecDepth 100000 in
theorem linkWords_any (w : World) : Calls Tryz.prog 52 #[] w fun e w' => e = .returned (.map (some w.heap.size)) ∧ Below w.heap.size w w' ∧ w'.heap[w.heap.size]? = some (.map lnkMap 3) := by
  have hmm := @run_makeMap Tryz.prog
  have h1 : (w.alloc (.map #[] 0)).heap[w.heap.size]? = some (.map #[] 0) := World.alloc_heap_new w _
  have r1 := run_insert (P := Tryz.prog) 106 76 9 w.heap.size 0 1 #[] (.string ⟨#[99, 97, 98, 108, 101]⟩) Tryz.underlying106 Tryz.underlying76 h1 rfl
  generalize hW1 : (w.alloc (.map #[] 0)).putObj w.heap.size _ = W1 at r1
  have h2 : W1.heap[w.heap.size]? = some (.map #[entry 1 [99, 97, 98, 108, 101] 0] 1) := by rw [← hW1]; exact World.putObj_heap_same (by simp)
  have r2 := run_insert (P := Tryz.prog) 106 76 9 w.heap.size 1 2 _ (.string ⟨#[115, 119, 105, 116, 99, 104]⟩) Tryz.underlying106 Tryz.underlying76 h2 rfl
  generalize hW2 : W1.putObj w.heap.size _ = W2 at r2
  have hs1 : W1.heap.size = w.heap.size + 1 := by rw [← hW1]; simp [World.putObj]
  have h3 : W2.heap[w.heap.size]? = some (.map #[entry 1 [99, 97, 98, 108, 101] 0, entry 2 [115, 119, 105, 116, 99, 104] 1] 2) := by rw [← hW2]; exact World.putObj_heap_same (by omega)
  have r3 := run_insert (P := Tryz.prog) 106 76 9 w.heap.size 2 3 _ (.string ⟨#[98, 114, 101, 97, 107, 101, 114]⟩) Tryz.underlying106 Tryz.underlying76 h3 rfl
  generalize hW3 : W2.putObj w.heap.size _ = W3 at r3
  have hB : Hid (Below w.heap.size w W3 ∧ W3.heap[w.heap.size]? = some (.map lnkMap 3)) := by
    rw [← hW3, ← hW2, ← hW1]
    exact ⟨below_put3 w _ _ _ _, heap_put3 w _ _ _ _⟩
  clear h1 h2 h3 hW1 hW2 hW3 hs1
  go_enter Tryz.func52, Tryz.ntmps52
  go_wp2
  go_ret
  exact ⟨rfl, hB.out⟩
end Go.Proofs.YtcnmfblbfpcghaaGreatDoor

/- plant.Format's line. -/
namespace Go.Proofs.YtcnmfblbfpcghaaGreatDoor
open Go.RowKit Go.Shelf

/-- A builder's text. -/
def Bld (B b : Nat) (l : List UInt8) (w : World) : Prop := Lib.IsBuilderF 95 5 B b (Lib.byteCells l) w
theorem builderAt_kept {B b : Nat} {p : Value} {bs : List Value} {w w' : World} (h : Lib.BuilderAtF 95 5 B b p bs w) (hb : Below w.heap.size w w') : Lib.BuilderAtF 95 5 B b p bs w' := by
  obtain ⟨h1, v, h2, h3, h4⟩ := h
  exact ⟨h1, v, (hb.block _ (Array.getElem?_eq_some_iff.1 h2).1).trans h2, h3.kept (grown_of_below hb) (by by_cases hu : v.ownBlock = none; exact .inl hu; exact .inr hu), h4⟩
theorem Bld.below {B b : Nat} {l : List UInt8} {w w' : World} (h : Bld B b l w) (hb : Below w.heap.size w w') : Bld B b l w' := by
  rcases h with h | h
  · exact .inl (builderAt_kept h hb)
  · exact .inr (builderAt_kept h hb)
theorem Bld.lt {B b : Nat} {l : List UInt8} {w : World} (h : Bld B b l w) : B ≤ b ∧ b < w.heap.size := by
  rcases h with ⟨h1, v, h2, _⟩ | ⟨h1, v, h2, _⟩ <;> exact ⟨h1, (Array.getElem?_eq_some_iff.1 h2).1⟩
def lineOf (ws : List (List UInt8)) : List UInt8 := Lib.join ws [32] ++ [10]
theorem others_below {e : TypeId} {b : Option Nat} {w w' : World} (h : Below w.heap.size w w') : Lib.OthersKept e b w w' := fun k o hk _ _ => (h.block k (Array.getElem?_eq_some_iff.1 hk).1).trans hk
set_option maxRecDepth 100000 in
set_option maxHeartbeats 2000000 in
theorem line_any (base B b n c : Nat) (A : Option Addr) (ws : List (List UInt8)) (l : List UInt8) (w : World) (h : w.ownsRow base 9 1 (.slice A n c) n (strVals ws)) (hn : n ≤ 1000) (hl : l.length + (Lib.join ws [32]).length + 1 ≤ 140737488355328) (hb : Bld B b l w) :
    Calls Tryz.prog 46 #[.slice A n c, .pointer (some ⟨b, 0, none⟩)] w fun e w' => e = .returned (.tuple #[]) ∧ Bld B b (l ++ lineOf ws) w' ∧ Below B w w' ∧ Lib.OthersKept 5 (some b) w w' := by
  have hBb := hb.lt
  have HB := Lib.hid hb
  have J := Lib.hid (join_row base n c A ws w h hn (by omega))
  have hjl : (ba (Lib.join ws [32])).size = (Lib.join ws [32]).length := by
    show (Lib.join ws [32]).toArray.size = _
    simp
  have HJ := Lib.hid hjl
  have HW := Lib.hid (fun bs s w h h1 h2 => Any.Builder_WriteString_k lays166 Builder_Extra_156 B b bs s w h h1 h2)
  have HY := Lib.hid (fun bs (c : Int) w h h1 h2 => Any.Builder_WriteByte_k lays167 Builder_Extra_167 B b bs c w h h1 h2)
  clear h hb hjl
  go_enter Tryz.func46, Tryz.ntmps46
  go_wp2_with fail
  refine J.out.mono ?_
  rintro e w1 ⟨rfl, hB1⟩
  have hz1 := hB1.size
  have HB1 := Lib.hid (HB.out.below hB1)
  have HO := Lib.hid hB1
  clear hB1
  go_wp2_with fail
  refine (HW.out _ (ba (Lib.join ws [32])) w1 HB1.out (by rw [HJ.out, Lib.byteCells_length]; omega) (by omega)).mono ?_
  rintro e w2 ⟨rfl, hb2, hB2, ho2⟩
  have hz2 := hB2.size
  have HB2 : Hid (Bld B b (l ++ Lib.join ws [32]) w2) := by
    refine Lib.hid ?_
    unfold Bld
    rw [Lib.byteCells_append]
    exact .inr hb2
  have HO2 := Lib.hid (And.intro hB2 ho2)
  clear hb2 hB2 ho2
  go_wp2_with fail
  refine (HY.out _ 10 w2 HB2.out (by rw [Lib.byteCells_length, List.length_append]; omega) (by omega)).mono ?_
  rintro e w3 ⟨rfl, hb3, hB3, ho3⟩
  go_wp2
  refine bodyPost_end (v := .tuple #[]) (results_none rfl _ _ _) rfl ⟨rfl, ?_, ((HO.out.mono (by omega)).trans HO2.out.1).trans hB3, ((others_below HO.out).trans HO2.out.2).trans ho3⟩
  unfold Bld lineOf
  rw [← List.append_assoc, Lib.byteCells_append]
  exact .inr hb3
end Go.Proofs.YtcnmfblbfpcghaaGreatDoor
