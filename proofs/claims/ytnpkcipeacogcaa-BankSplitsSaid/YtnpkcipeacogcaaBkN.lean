/- bank: lists. -/
import Derived.Test.YtnpkcipeacogcaaBkL

set_option linter.unusedSimpArgs false
set_option linter.unusedVariables false
namespace Go.Proofs.Ytnpkcipeacogcaa
open Go.RowKit Go.Shelf
attribute [local go_sem] Oper.semAt_some

theorem grown_of_below' {w w' : World} (h : Below w.heap.size w w') (row : Option Nat) : w.grownBy w' row := ⟨h.os, h.tape, h.output, h.size, fun k hk _ => h.block k hk⟩
/-- A list of fails as it is yielded. -/
structure Yl where
  A : Option Addr
  c : Nat
  l : List Int
def Yl.val (n : Nat) (x : Yl) : Value := .slice x.A n x.c
theorem lists_in (F : Fence) (m : Nat) (hf : F.fn 36) (hro : F.round = none) (A : Option Addr) (n c : Nat) (b : Int) (w : World) :
    CallsIn F m Try.prog 36 #[.slice A n c, .int .i64 b] w fun e w' => e = .returned (.func (.func 50) #[] #[.pointer (some ⟨w.heap.size, 0, none⟩), .pointer (some ⟨w.heap.size + 1, 0, none⟩)]) ∧
      w' = (w.alloc (.cells #[.slice A n c] 24)).alloc (.cells #[.int .i64 b] 3) := by
  refine callsIn_of_wp Try.func36 rfl hf ?_ hro
  simp only [Try.ntmps36, List.size_toArray, List.length_cons, List.length_nil, Nat.reduceAdd, Nat.reduceSub, Array.replicate_succ, Array.replicate_zero, List.push_toArray, List.append_toArray, List.nil_append, List.cons_append]
  gi_wp2
  go_ret
  exact ⟨rfl, rfl⟩
/-- What a round must keep for the iterator. -/
def LsK (n0 b1 b2 g : Nat) (W W' : World) : Prop := W.heap.size ≤ W'.heap.size ∧ (∀ b, (b < n0 ∨ b = b1 ∨ b = b2) → b < W.heap.size → W'.heap[b]? = W.heap[b]?) ∧ ∀ t cs, Blk W g t cs → Blk W' g t cs
theorem LsK.trans {n0 b1 b2 g : Nat} {A B C : World} (h : LsK n0 b1 b2 g A B) (k : LsK n0 b1 b2 g B C) : LsK n0 b1 b2 g A C := ⟨Nat.le_trans h.1 k.1, fun b hb hl => (k.2.1 b hb (Nat.lt_of_lt_of_le hl h.1)).trans (h.2.1 b hb hl), fun t cs hb => k.2.2 t cs (h.2.2 t cs hb)⟩
/-- What a list brings. -/
def LsX (gs : List Gen) (b : Int) (n g : Nat) (x : Yl) (W : World) : Prop := W.ownsRow (g + 1) 3 1 (x.val n) n (x.l.flatMap encI) ∧ Fl gs x.l ∧ sumI x.l ≤ b ∧ g < W.heap.size
def decI (w : World) (g : Nat) : List Int := match w.heap[g]? with | some (.cells cs _ _) => cs.toList.map intOf | _ => []
theorem decI_blk {w : World} {g : Nat} {l : List Int} (h : Blk w g 3 (intsA l)) : decI w g = l := by
  unfold decI
  rw [show w.heap[g]? = _ from h]
  have e : ∀ l : List Int, l.map (intOf ∘ Value.int .i64) = l := by
    intro l
    induction l with
    | nil => rfl
    | cons a l ih => rw [List.map_cons, ih]; rfl
  simp only [intsA, List.map_map, e]
theorem encI_flat (l : List Int) : l.flatMap encI = l.map (Value.int .i64) := by
  induction l with
  | nil => rfl
  | cons a l ih => rw [List.flatMap_cons, ih]; rfl
theorem Blk.rdI {w : World} {g : Nat} {l : List Int} (h : Blk w g 3 (intsA l)) : Rd w w.heap.size 1 encI (some ⟨g, 0, none⟩) l.length l := by
  refine ⟨rfl, fun _ => ⟨g, 0, rfl, h.lt, fun i x hx j u hu => ?_⟩⟩
  match j, hu with
  | 0, hu =>
    simp only [encI, List.getElem?_cons_zero, Option.some.injEq] at hu
    subst hu
    rw [Nat.zero_add, Nat.mul_one, Nat.add_zero, h.cell]
    simp [intsA, hx]
structure LsAt (w0 : World) (b1 b2 g n gc : Nat) (gA : Option Addr) (n0 : Nat) (b : Int) (cur : List Int) (W : World) : Prop where
  k : W.heap.size > g ∧ ∀ k, (k < n0 ∨ k = b1 ∨ k = b2) → W.heap[k]? = w0.heap[k]?
  now : Blk W g 3 (intsA cur)
theorem LsAt.next {w0 : World} {b1 b2 g n gc : Nat} {gA : Option Addr} {n0 : Nat} {b : Int} {cur : List Int} {W W' : World} (h : LsAt w0 b1 b2 g n gc gA n0 b cur W) (h0 : n0 ≤ g) (h1 : b1 < g) (h2 : b2 < g) (hb : Below W.heap.size W W') : LsAt w0 b1 b2 g n gc gA n0 b cur W' :=
  ⟨⟨Nat.lt_of_lt_of_le h.k.1 hb.size, fun k hk => (hb.block k (by have := h.k.1; omega)).trans (h.k.2 k hk)⟩, h.now.below hb h.now.lt⟩
set_option maxRecDepth 100000 in
set_option maxHeartbeats 4000000 in
theorem lists1_seq (b1 b2 n0 : Nat) (gA : Option Addr) (n gc : Nat) (gs : List Gen) (b : Int) (w : World) (hg : Rd w n0 5 Gen.enc gA n gs) (hn0 : n0 ≤ w.heap.size) (hn : n ≤ 6) (ok : ∀ g ∈ gs, GenOk g) (hb0 : 0 ≤ b) (hb1 : b ≤ 1000000)
    (k1 : Blk w b1 24 #[.slice gA n gc]) (k2 : Blk w b2 3 #[.int .i64 b]) :
    SeqN Fence.wide (9 - 1) Try.prog 50 #[.pointer (some ⟨b1, 0, none⟩), .pointer (some ⟨b2, 0, none⟩)] (fun x : Yl => #[x.val n]) (fun g => LsK n0 b1 b2 g) (fun xs => AllOf gs b (xs.map Yl.l)) (fun _ => True) (LsX gs b n) w := by
  intro l J Jx W hW hJ hJx hY h0
  have HY := Lib.hid hY
  have HJ := Lib.hid hJ
  have HG := Lib.hid (hg.below (hW.mono hn0))
  have OK := Lib.hid ok
  have HL : Hid (gs.length = n) := Lib.hid hg.1
  have K1 := k1.below hW k1.lt
  have K2 := k2.below hW k2.lt
  have c1 : W.cell? ⟨b1, 0, none⟩ = some (.slice gA n gc) := K1.cell 0
  have zb1 : b1 < W.heap.size := K1.lt
  have zb2 : b2 < W.heap.size := K2.lt
  have hzw := hW.size
  have HK1 := Lib.hid K1
  have HK2 := Lib.hid K2
  have H0 := Lib.hid h0
  clear hY hJ hJx hg ok k1 k2 hW h0 K1 K2
  refine callsIn_of_wp Try.func50 rfl trivial ?_ rfl
  simp only [Try.ntmps50, List.size_toArray, List.length_cons, List.length_nil, Nat.reduceAdd, Nat.reduceSub, Array.replicate_succ, Array.replicate_zero, List.push_toArray, List.append_toArray, List.nil_append, List.cons_append]
  gi_wp2
  rw [show ∀ V, Sem.run Try.prog (Instr.makeSlice 30 (.int .i64 n) (.int .i64 n)) V = _ from run_makeInts n (by omega)]
  gi_wp2
  gi_loopw [8] (fun _ wr => ∃ (pre : List Yl) (cur : List Int), Hid (Seen gs b (pre.map Yl.l) cur ∧ J pre wr ∧ LsAt W b1 b2 W.heap.size n gc gA n0 b cur wr)) (fun _ wr => (cntL gs - rnk gs (decI wr W.heap.size)).toNat)
  case atStart =>
    refine ⟨[], List.replicate gs.length 0, Seen.start OK.out hb0, HJ.out _ _ _ H0.out (World.grownBy_alloc _ _ _), ⟨by simp, fun k hk => Below.heap_alloc _ _ _ (by omega)⟩, ?_⟩
    rw [HL.out]
    exact heap_alloc_new W _
  case round =>
    obtain ⟨pre, cur, hR⟩ := hrel
    have hcl : cur.length = n := by rw [hR.out.1.fl.length]; exact HL.out
    have HRD := Lib.hid (by have h := hR.out.2.2.now.rdI; rw [hcl] at h; exact h : Rd wr wr.heap.size 1 encI (some ⟨W.heap.size, 0, none⟩) n cur)
    have KC := Lib.hid (clone_ints (some ⟨W.heap.size, 0, none⟩) n n cur wr HRD.out (by omega))
    clear hcl
    gi_wp2_with fail
    refine ⟨trivial, ?_⟩
    refine (callsIn_wide.2 KC.out).mono ?_
    rintro e w2 ⟨A', c', rfl, hrow, hB2, hsome⟩
    have hg2 : wr.grownBy w2 (some W.heap.size) := grown_of_below' hB2 _
    have hJ2 := HJ.out _ _ _ hR.out.2.1 hg2
    have hA2 := hR.out.2.2.next (by omega) zb1 zb2 hB2
    have hX2 : LsX gs b n W.heap.size ⟨A', c', cur⟩ w2 := ⟨⟨hrow.1, hrow.2.imp id fun ⟨g, cap, cu, h1, h2, h3⟩ => ⟨g, cap, cu, h1, by have := hR.out.2.2.k.1; omega, h3⟩⟩, hR.out.1.fl, hR.out.1.sm, hA2.k.1⟩
    obtain ⟨fn, tmps, assign, body, hy', hRR⟩ := HY.out pre ⟨A', c', cur⟩ w2 hJ2 hX2
    dsimp only [Yl.val] at hy'
    have HA2 := Lib.hid hA2
    clear hrow hB2 hsome hg2 hJ2 hA2 hX2 KC HRD
    gi_wp2
    refine hRR.mono ?_
    rintro e W3 (⟨rfl, hJ3, hk3⟩ | ⟨rfl, hJx3⟩)
    · have hA3 : LsAt W b1 b2 W.heap.size n gc gA n0 b cur W3 := ⟨⟨Nat.lt_of_lt_of_le HA2.out.k.1 hk3.1, fun k hk => (hk3.2.1 k hk (by have := HA2.out.k.1; omega)).trans (HA2.out.k.2 k hk)⟩, hk3.2.2 _ _ HA2.out.now⟩
      have d1 : Blk W3 b1 24 #[.slice gA n gc] := (hA3.k.2 b1 (by omega)).trans HK1.out
      have d2 : Blk W3 b2 3 #[.int .i64 b] := (hA3.k.2 b2 (by omega)).trans HK2.out
      have e1 : W3.cell? ⟨b1, 0, none⟩ = some (.slice gA n gc) := d1.cell 0
      have e2 : W3.cell? ⟨b2, 0, none⟩ = some (.int .i64 b) := d2.cell 0
      have z1 := d1.lt
      have z2 := d2.lt
      have hrd : Rd W3 n0 5 Gen.enc gA n gs := HG.out.keep fun p hp => World.cell?_of_block (w := W) (hA3.k.2 _ (by omega))
      have KA := Lib.hid (advance_any gA n gc W.heap.size gs cur b W3 n0 hrd (by omega) hA3.now hn OK.out hR.out.1.fl hb0 hb1)
      have HA3 := Lib.hid hA3
      have HJ3 := Lib.hid hJ3
      clear hJ3 hk3 hA3 d1 d2 hrd
      gi_wp2_with fail
      refine ⟨trivial, ?_⟩
      refine (callsIn_wide.2 KA.out).mono ?_
      rintro e W4 ⟨h4, hg4⟩
      have HJ4 := Lib.hid (HJ.out _ _ _ HJ3.out hg4)
      have hK4 : W4.heap.size > W.heap.size ∧ ∀ k, (k < n0 ∨ k = b1 ∨ k = b2) → W4.heap[k]? = W.heap[k]? := ⟨Nat.lt_of_lt_of_le HA3.out.k.1 hg4.size, fun k hk => (hg4.block k (by have := HA3.out.k.1; omega) (by intro e; cases e; omega)).trans (HA3.out.k.2 k hk)⟩
      have HK4 := Lib.hid hK4
      clear hg4 hK4 KA
      rcases h4 with ⟨r, hr, rfl, hb4⟩ | ⟨hr, rfl⟩
      · have HS := Lib.hid (hR.out.1.step OK.out hr)
        have HB4 := Lib.hid hb4
        have HM : Hid ((cntL gs - rnk gs (decI W4 W.heap.size)).toNat < (cntL gs - rnk gs (decI wr W.heap.size)).toNat) := Lib.hid (by
          rw [decI_blk hb4, decI_blk hR.out.2.2.now]
          have h1 := HS.out.2
          have h2 := (rnk_bd OK.out HS.out.1.fl).2
          omega)
        clear hr hb4
        gi_wp2
        go_roundw
        case rel =>
          refine ⟨pre ++ [(⟨A', c', cur⟩ : Yl)], r, ?_, HJ4.out, HK4.out, HB4.out⟩
          rw [List.map_append]
          exact HS.out.1
        case measure => exact HM.out
      · have HS : Hid (AllOf gs b ((pre ++ [(⟨A', c', cur⟩ : Yl)]).map Yl.l)) := Lib.hid (by rw [List.map_append]; exact hR.out.1.end_ OK.out hr)
        clear hr
        gi_wp2
        go_end0
        exact ⟨⟨_, rfl⟩, .inl ⟨_, HS.out, HJ4.out⟩⟩
    · have HX3 := Lib.hid hJx3
      clear hJx3
      gi_wp2
      refine ⟨trivial, ?_⟩
      gi_wp2
      go_end0
      exact ⟨⟨_, rfl⟩, .inr ⟨_, trivial, HX3.out⟩⟩
end Go.Proofs.Ytnpkcipeacogcaa
