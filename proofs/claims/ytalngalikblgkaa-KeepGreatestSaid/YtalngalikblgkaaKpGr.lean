/- KeepGreatest: the law. -/
import Derived.Test.YtalngalikblgkaaKpGb

set_option linter.unusedSimpArgs false
set_option linter.unusedVariables false
namespace Go.Proofs.Ytalngalikblgkaa
open Go.RowKit

/-- A list of flags as cells. -/
def boolsA (l : List Bool) : Array Value := (l.map Value.bool).toArray
theorem boolsA_set (l : List Bool) (k : Nat) (x : Bool) : (boolsA l).setIfInBounds k (.bool x) = boolsA (l.set k x) := by
  unfold boolsA
  rw [List.setIfInBounds_toArray, List.map_set]
theorem boolsA_inj {l m : List Bool} (h : boolsA l = boolsA m) : l = m := by
  unfold boolsA at h
  have h1 : l.map Value.bool = m.map Value.bool := by simpa using h
  exact List.map_inj_right (fun a b e => by cases e; rfl) |>.1 h1
theorem madeCells_bool (n : Nat) : madeCells (Value.bool false).cells n = boolsA (List.replicate n false) := by
  unfold madeCells boolsA
  apply Array.ext
  · simp
  · intro i h1 h2
    have : i % 1 = 0 := Nat.mod_one i
    simp [Value.cells, this]
theorem run_makeBools (n : Nat) (hn : n ≤ 140737488) (w : World) : (Instr.makeSlice 23 (.int .i64 n) (.int .i64 n)).run Try.prog w = .ok (.slice (some ⟨w.heap.size, 0, none⟩) n n) (w.alloc (.cells (boolsA (List.replicate n false)) 4)) := by
  obtain ⟨i, hi, hz, hs, hb⟩ := info_parts boolInfo
  have h := run_make (P := Try.prog) w 23 4 i _ Try.underlying23 hi hz .i64 .i64 n n (by omega) (by omega) (by rw [hb]; omega) (by omega)
  simp only [Int.toNat_natCast, hs, Nat.mul_one, madeCells_bool] at h
  exact h
/-- A set of states in a row of its own. -/
structure SetI (W0 : World) (sb S : Nat) (L : List Bool) (W : World) : Prop where
  low : Below W0.heap.size W0 W
  blk : Blk W sb 4 (boolsA L)
  len : L.length = S
section
variable {W0 W W' : World} {sb S : Nat} {L : List Bool}
theorem SetI.next (h : SetI W0 sb S L W) (hb : Below W.heap.size W W') : SetI W0 sb S L W' := ⟨below3 h.low hb (Nat.le_refl _), h.blk.below hb h.blk.lt, h.len⟩
theorem SetI.set (h : SetI W0 sb S L W) (hs : W0.heap.size ≤ sb) (k : Nat) (x : Bool) : SetI W0 sb S (L.set k x) (W.setCell ⟨sb, k, none⟩ (.bool x)) :=
  ⟨h.low.setCell hs _, by rw [← boolsA_set]; exact h.blk.set_ k _, by rw [List.length_set]; exact h.len⟩
theorem SetI.rd (h : SetI W0 sb S L W) : Rd W W.heap.size 1 encB (some ⟨sb, 0, none⟩) S L := by
  have h1 := blk_rdB h.blk
  rw [h.len] at h1
  exact h1
theorem SetI.at_ (h : SetI W0 sb S L W) {k : Nat} (hk : k < S) : ∃ x, L[k]? = some x ∧ W.cell? ⟨sb, k, none⟩ = some (.bool x) := by
  have hl : k < L.length := by rw [h.len]; exact hk
  refine ⟨L[k], List.getElem?_eq_getElem hl, ?_⟩
  rw [h.blk.cell]
  simp [boolsA, hl]
end
/-- How many are in, read off the row. -/
noncomputable def onW (sb : Nat) (W : World) : Nat := (Classical.epsilon fun L : List Bool => Blk W sb 4 (boolsA L)).count true
theorem onW_eq {W : World} {sb : Nat} {L : List Bool} (h : Blk W sb 4 (boolsA L)) : onW sb W = L.count true := by
  have h2 : Blk W sb 4 (boolsA (Classical.epsilon fun L : List Bool => Blk W sb 4 (boolsA L))) := Classical.epsilon_spec (p := fun L : List Bool => Blk W sb 4 (boolsA L)) ⟨L, h⟩
  have h3 := (show W.heap[sb]? = _ from h2).symm.trans h
  simp only [Option.some.injEq, Obj.cells.injEq, and_true] at h3
  unfold onW
  rw [boolsA_inj h3]
def againN : Value → Nat
  | .bool true => 1
  | _ => 0
/-- All that are in are good. -/
def AllG (g : Gm) (L : List Bool) : Prop := ∀ s < g.S, L.getD s false = true → g.good.getD s false = true
theorem getD_setB (l : List Bool) (k s : Nat) (v : Bool) : (l.set k v).getD s false = true → (s = k ∧ v = true) ∨ l.getD s false = true := by
  rw [List.getD_eq_getElem?_getD, List.getD_eq_getElem?_getD, List.getElem?_set]
  by_cases h : k = s
  · subst h
    rw [if_pos rfl]
    by_cases h2 : k < l.length
    · rw [if_pos h2]; exact fun h => Or.inl ⟨rfl, h⟩
    · rw [if_neg h2]; exact fun h => by cases h
  · rw [if_neg h]; exact Or.inr
theorem AllG.set {g : Gm} {L : List Bool} {k : Nat} {v : Bool} (h : AllG g L) (hv : v = true → g.good.getD k false = true) : AllG g (L.set k v) := fun s hs hi => by
  rcases getD_setB L k s v hi with ⟨rfl, e⟩ | e
  · exact hv e
  · exact h s hs e
theorem list_getD {l m : List Bool} {n : Nat} (h1 : l.length = n) (h2 : m.length = n) (h : ∀ s < n, l.getD s false = m.getD s false) : l = m := by
  apply List.ext_getElem (by omega)
  intro i hi hj
  have := h i (by omega)
  rw [List.getD_eq_getElem?_getD, List.getD_eq_getElem?_getD, List.getElem?_eq_getElem hi, List.getElem?_eq_getElem hj] at this
  exact this
def c40Phi (S qx xc a2 s dx qa C : Nat) : Nat → Value → World → (Nat → Nat) → Prop
  | 0, v, _, _ => v = .pointer (some ⟨qx, 1, none⟩)
  | 1, v, _, _ => v = .slice (some ⟨xc, 0, none⟩) S a2
  | 2, v, _, _ => v = .int .i64 (s : Int)
  | 3, v, _, _ => v = .pointer (some ⟨dx, 0, none⟩)
  | 4, v, _, _ => v = .pointer (some ⟨qa, 1, none⟩)
  | 5, v, _, _ => v = .int .i64 (C : Int)
  | 6, v, _, γ => (∃ r : Int, v = .int .i64 r) ∧ γ 0 = 1
  | 7, v, _, _ => v = .pointer (some ⟨xc, s, none⟩)
  | 8, _, _, γ => γ 0 = 1
  | _, _, _, _ => True
theorem c40Phi_w {S qx xc a2 s dx qa C : Nat} {j : Nat} {v : Value} {W W' : World} {γ : Nat → Nat} (h : c40Phi S qx xc a2 s dx qa C j v W γ) : c40Phi S qx xc a2 s dx qa C j v W' γ := by
  unfold c40Phi at h ⊢
  split at h <;> first | exact h | trivial
theorem c40Phi_g {S qx xc a2 s dx qa C : Nat} {j : Nat} {v : Value} {W W' : World} {γ γ' : Nat → Nat} (h6 : j ≠ 6) (h8 : j ≠ 8) (h : c40Phi S qx xc a2 s dx qa C j v W γ) : c40Phi S qx xc a2 s dx qa C j v W' γ' := by
  unfold c40Phi at h ⊢
  split at h <;> first | exact h | exact absurd rfl h6 | exact absurd rfl h8 | trivial
def c42Phi (S qx xr a3 s dq : Nat) : Nat → Value → World → (Nat → Nat) → Prop
  | 0, v, _, _ => v = .pointer (some ⟨qx, 2, none⟩)
  | 1, v, _, _ => v = .slice (some ⟨xr, 0, none⟩) S a3
  | 2, v, _, _ => v = .int .i64 (s : Int)
  | 3, v, _, _ => v = .pointer (some ⟨xr, s, none⟩)
  | 4, v, _, _ => ∃ y : Int, v = .int .i64 y
  | 5, v, _, _ => v = .pointer (some ⟨dq, 0, none⟩)
  | 6, v, _, γ => (∃ r : Int, v = .int .i64 r) ∧ γ 0 = 1
  | 7, v, _, _ => ∃ y : Int, v = .int .i64 y
  | 8, v, _, _ => v = .pointer (some ⟨xr, s, none⟩)
  | 9, _, _, γ => γ 0 = 1
  | _, _, _, _ => True
theorem c42Phi_w {S qx xr a3 s dq : Nat} {j : Nat} {v : Value} {W W' : World} {γ : Nat → Nat} (h : c42Phi S qx xr a3 s dq j v W γ) : c42Phi S qx xr a3 s dq j v W' γ := by
  unfold c42Phi at h ⊢
  split at h <;> first | exact h | trivial
theorem c42Phi_g {S qx xr a3 s dq : Nat} {j : Nat} {v : Value} {W W' : World} {γ γ' : Nat → Nat} (h6 : j ≠ 6) (h8 : j ≠ 9) (h : c42Phi S qx xr a3 s dq j v W γ) : c42Phi S qx xr a3 s dq j v W' γ' := by
  unfold c42Phi at h ⊢
  split at h <;> first | exact h | exact absurd rfl h6 | exact absurd rfl h8 | trivial
def c43Phi (S qy yc yr s qp o rb : Nat) : Nat → Value → World → (Nat → Nat) → Prop
  | 0, v, _, _ => v = .pointer (some ⟨qy, 1, none⟩)
  | 1, v, _, _ => v = .slice (some ⟨yc, 0, none⟩) S S
  | 2, v, _, _ => v = .int .i64 (s : Int)
  | 3, v, _, _ => v = .pointer (some ⟨qy, 2, none⟩)
  | 4, v, _, _ => v = .slice (some ⟨yr, 0, none⟩) S S
  | 5, v, _, _ => v = .int .i64 (s : Int)
  | 6, v, _, _ => v = .pointer (some ⟨qp, o, none⟩)
  | 7, v, _, _ => v = .slice (some ⟨rb, 0, none⟩) S S
  | 8, v, _, _ => v = .int .i64 (s : Int)
  | 9, v, _, _ => v = .pointer (some ⟨rb, s, none⟩)
  | 10, v, _, _ => ∃ y : Int, v = .int .i64 y
  | 11, v, _, _ => v = .pointer (some ⟨yc, s, none⟩)
  | 13, v, _, _ => v = .pointer (some ⟨yr, s, none⟩)
  | _, _, _, _ => True
theorem c43Phi_w {S qy yc yr s qp o rb : Nat} {j : Nat} {v : Value} {W W' : World} {γ γ' : Nat → Nat} (h : c43Phi S qy yc yr s qp o rb j v W γ) : c43Phi S qy yc yr s qp o rb j v W' γ' := by
  unfold c43Phi at h ⊢
  split at h <;> first | exact h | trivial
set_option maxRecDepth 100000 in
set_option maxHeartbeats 8000000 in
theorem greatest_any (A0 A2 A3 : Option Addr) (n0 c0 n2 c2 n3 c3 : Nat) (l0 l2 l3 : List Int) (x : Int) (w : World) (h0 : Rd w w.heap.size 1 encU A0 n0 l0) (h2 : Rd w w.heap.size 1 encU A2 n2 l2) (h3 : Rd w w.heap.size 1 encU A3 n3 l3) (u0 : U8s l0) (u2 : U8s l2) (u3 : U8s l3) (z0 : n0 ≤ 9223372036854775807) (z2 : n2 ≤ 9223372036854775807) (z3 : n3 ≤ 9223372036854775807) (hx : 0 ≤ x ∧ x ≤ 65535) :
    Calls Try.prog 6 #[.slice A0 n0 c0, .int .u16 x, .slice A2 n2 c2, .slice A3 n3 c3] w fun e w' => e = .returned (.bool true) ∧ Below w.heap.size w w' := by
  have KM := Lib.hid (fun W h => Made_any A0 n0 c0 l0 W h u0)
  have H0 := Lib.hid h0
  have H2 := Lib.hid h2
  have H3 := Lib.hid h3
  have U2 := Lib.hid u2
  have U3 := Lib.hid u3
  have HX := Lib.hid hx
  have KA := Lib.hid awake_any
  clear h0 h2 h3 u0 u2 u3 z0 z2 z3 hx
  go_enter Try.func6, Try.ntmps6
  go_wp2_with fail
  refine (KM.out _ H0.out).mono ?_
  rintro e w1 ⟨aN, an, ac, ab, ag, ga, rfl, oka, sza, hin, hB⟩
  have B0 : Hid (Below w.heap.size w w1) := Lib.hid hB
  clear hB
  have OA := Lib.hid oka
  have SA := Lib.hid sza
  have IA := Lib.hid hin
  clear oka sza hin KM H0
  go_wp2_with fail
  obtain ⟨qa, hqa⟩ : ∃ z, z = w1.heap.size := ⟨_, rfl⟩
  obtain ⟨w2, hw2⟩ : ∃ z, z = w1.alloc (.cells #[.int .i64 (ga.S : Int), .int .i64 (ga.C : Int), .int .i64 (ga.H : Int), .slice aN an ac, .slice (some ⟨ab, 0, none⟩) ga.S ag] 25) := ⟨_, rfl⟩
  have QA : Hid (Blk w2 qa 25 #[.int .i64 (ga.S : Int), .int .i64 (ga.C : Int), .int .i64 (ga.H : Int), .slice aN an ac, .slice (some ⟨ab, 0, none⟩) ga.S ag]) := Lib.hid (by rw [hw2, hqa]; exact heap_alloc_new w1 _)
  have Sw2 : Hid (w2.heap.size = qa + 1) := Lib.hid (by rw [hw2, hqa, World.size_alloc])
  have Zqa : Hid (w1.heap.size ≤ qa) := Lib.hid (by rw [hqa]; exact Nat.le_refl _)
  have hBn : Below w1.heap.size w1 w2 := by rw [hw2]; exact (Below.refl _ _).alloc (Nat.le_refl _) _
  rw [← hw2, ← hqa]
  have B1 : Hid (Below w1.heap.size w1 w2) := Lib.hid hBn
  clear hw2 hqa hBn
  refine (Solve_any aN (some ⟨ab, 0, none⟩) an ac ag ga w2 (IA.out.next' B1.out) OA.out).mono ?_
  rintro e w3 ⟨i1, d1, ff, r1, k1, rfl, hk, hs, hB⟩
  have B2 : Hid (Below w2.heap.size w2 w3) := Lib.hid hB
  clear hB
  have S1 := Lib.hid hk
  have RR := Lib.hid (solved_rd OA.out hs)
  clear hk hs
  obtain ⟨inn, hinn⟩ : ∃ z, z = (itR ga k1).1 := ⟨_, rfl⟩
  have HIN := Lib.hid hinn
  clear hinn
  have hbk := QA.out.below B2.out QA.out.lt
  have p0 := hbk.cell 0
  have p1 := hbk.cell 1
  have p2 := hbk.cell 2
  have p3 := hbk.cell 3
  have p4 := hbk.cell 4
  simp only [List.getElem?_toArray, List.getElem?_cons_zero, List.getElem?_cons_succ] at p0 p1 p2 p3 p4
  have zp := hbk.lt
  clear hbk
  go_wp2_with fail
  obtain ⟨qp, hqp⟩ : ∃ z, z = w3.heap.size := ⟨_, rfl⟩
  obtain ⟨w4, hw4⟩ : ∃ z, z = w3.alloc (.cells #[.slice (some ⟨i1, 0, none⟩) ga.S d1, .slice (some ⟨ff, 0, none⟩) ga.S ga.S, .slice (some ⟨r1, 0, none⟩) ga.S ga.S] 27) := ⟨_, rfl⟩
  have QP : Hid (Blk w4 qp 27 #[.slice (some ⟨i1, 0, none⟩) ga.S d1, .slice (some ⟨ff, 0, none⟩) ga.S ga.S, .slice (some ⟨r1, 0, none⟩) ga.S ga.S]) := Lib.hid (by rw [hw4, hqp]; exact heap_alloc_new w3 _)
  have Sw4 : Hid (w4.heap.size = qp + 1) := Lib.hid (by rw [hw4, hqp, World.size_alloc])
  have Zqp : Hid (w3.heap.size ≤ qp) := Lib.hid (by rw [hqp]; exact Nat.le_refl _)
  have hBn : Below w3.heap.size w3 w4 := by rw [hw4]; exact (Below.refl _ _).alloc (Nat.le_refl _) _
  rw [← hw4, ← hqp]
  have B3 : Hid (Below w3.heap.size w3 w4) := Lib.hid hBn
  clear hw4 hqp hBn
  have KV : Hid (Calls Try.prog 23 #[.agg #[.int .i64 (ga.S : Int), .int .i64 (ga.C : Int), .int .i64 (ga.H : Int), .slice aN an ac, .slice (some ⟨ab, 0, none⟩) ga.S ag], .agg #[.slice (some ⟨i1, 0, none⟩) ga.S d1, .slice (some ⟨ff, 0, none⟩) ga.S ga.S, .slice (some ⟨r1, 0, none⟩) ga.S ga.S]] w4 fun e w' => e = .returned (.int .i64 0) ∧ Below w4.heap.size w4 w') := Lib.hid (by
    have h := Verify_any aN an ac ab 0 ag i1 0 d1 ff 0 ga.S r1 0 ga.S ga (itR ga k1).1 (ctL ga (itR ga k1).1) (itR ga k1).2 w4 (IA.out.next' (below3 (below3 B1.out B2.out (Nat.le_refl _)) B3.out (Nat.le_refl _))) OA.out (RR.out.1.next B3.out) (RR.out.2.1.next B3.out) (RR.out.2.2.next B3.out)
    rw [solved_right OA.out S1.out] at h
    exact h)
  refine (KV.out).mono ?_
  rintro e w5 ⟨rfl, hB⟩
  have B4 : Hid (Below w4.heap.size w4 w5) := Lib.hid hB
  clear hB
  clear p0 p1 p2 p3 p4 zp KV
  have hbk := QA.out.below (below3 (below3 B2.out B3.out (Nat.le_refl _)) B4.out (Nat.le_refl _)) QA.out.lt
  have p0 := hbk.cell 0
  simp only [List.getElem?_toArray, List.getElem?_cons_zero, List.getElem?_cons_succ] at p0
  have zp := hbk.lt
  clear hbk
  have hbk := QP.out.below B4.out QP.out.lt
  have o0 := hbk.cell 0
  have o1 := hbk.cell 1
  have o2 := hbk.cell 2
  simp only [List.getElem?_toArray, List.getElem?_cons_zero, List.getElem?_cons_succ] at o0 o1 o2
  have zo := hbk.lt
  clear hbk
  have dS : ((ga.S : Int) == (ga.S : Int)) = true := beq_self_eq_true _
  have hS1 := OA.out.s0
  have hS2 := SA.out.1
  have HI5 := Lib.hid (RR.out.1.next (below3 B3.out B4.out (Nat.le_refl _)))
  rw [← HIN.out] at HI5
  have HG5 := Lib.hid (IA.out.good.next (below3 (below3 (below3 B1.out B2.out (Nat.le_refl _)) B3.out (Nat.le_refl _)) B4.out (Nat.le_refl _)))
  have HA5 := Lib.hid (IA.out.next' (below3 (below3 (below3 B1.out B2.out (Nat.le_refl _)) B3.out (Nat.le_refl _)) B4.out (Nat.le_refl _)))
  have HQA := Lib.hid (QA.out.below (below3 (below3 B2.out B3.out (Nat.le_refl _)) B4.out (Nat.le_refl _)) QA.out.lt)
  have HQP := Lib.hid (QP.out.below B4.out QP.out.lt)
  have KK := Lib.hid (fun (s : Nat) W (h : Below w5.heap.size w5 W) (hs : s < ga.S) (L : List Bool) (sb sc : Nat) (hL : Rd W W.heap.size 1 encB (some ⟨sb, 0, none⟩) ga.S L) => keeps1_any aN (some ⟨ab, 0, none⟩) (some ⟨sb, 0, none⟩) an ac ga.S ag sc qa ga L s W (HQA.out.below h HQA.out.lt) (HA5.out.next' h) OA.out hL hs)
  go_wp2_with fail
  clear p0 zp o0 o1 o2 zo dS
  go_loopw [72] (fun i wr => ∃ s : Nat, s ≤ ga.S ∧ i = .int .i64 s ∧ Hid (Below w5.heap.size w5 wr)) (fun i _ => ga.S - (intOf i).toNat)
  case atStart => exact ⟨0, by omega, rfl, Lib.hid (Below.refl _ _)⟩
  case round =>
    obtain ⟨s, hs, rfl, HW⟩ := hrel
    by_cases hlt : s < ga.S
    · obtain ⟨b5, o5, vi, e5, hb5, hx5, hcx5⟩ := HI5.out.at_ hlt
      obtain ⟨rfl, rfl⟩ : b5 = i1 ∧ o5 = 0 := by simpa [eq_comm] using e5
      obtain ⟨b6, o6, vg, e6, hb6, hx6, hcx6⟩ := HG5.out.at_ hlt
      obtain ⟨rfl, rfl⟩ : b6 = ab ∧ o6 = 0 := by simpa [eq_comm] using e6
      have cx5 := cellB hcx5
      have cx6 := cellB hcx6
      rw [Nat.zero_add] at cx5 cx6
      have ci : wr.cell? ⟨b5, s, none⟩ = some (.bool vi) := (HW.out.cell (p := ⟨b5, s, none⟩) hb5).trans cx5
      have cg : wr.cell? ⟨b6, s, none⟩ = some (.bool vg) := (HW.out.cell (p := ⟨b6, s, none⟩) hb6).trans cx6
      have zi := block_of_cell ci
      have zg := block_of_cell cg
      dsimp only at zi zg
      have hk0 : (0 : Int) ≤ (s : Int) := by omega
      have hkn : (s : Int) < (ga.S : Int) := by omega
      have HGV : Hid (vi = true → vg = true ∧ exB ga inn s = true) := Lib.hid (fun h => by
        have hi : (itR ga k1).1.getD s false = true := by rw [← HIN.out, List.getD_eq_getElem?_getD, hx5, h]; rfl
        have h1 := it_good ga k1 s hi
        have h2 := safe_ex OA.out S1.out hlt hi
        rw [← HIN.out] at h2
        rw [List.getD_eq_getElem?_getD, hx6] at h1
        exact ⟨h1, h2⟩)
      clear hx5 hx6 hcx5 hcx6 cx5 cx6 e5 e6 hb5 hb6
      have hbk := HQA.out.below HW.out HQA.out.lt
      have p4 := hbk.cell 4
      have zp := hbk.lt
      have hbk2 := HQP.out.below HW.out HQP.out.lt
      have o0 := hbk2.cell 0
      have zo := hbk2.lt
      simp only [List.getElem?_toArray, List.getElem?_cons_zero, List.getElem?_cons_succ] at p4 o0
      clear hbk hbk2
      cases vi
      · clear HGV
        go_wp2
        go_roundw
        case rel => exact ⟨s + 1, by omega, by go_num, HW⟩
        case measure => simp [intOf]; omega
      · obtain ⟨rfl, hex⟩ := HGV.out rfl
        have K := Lib.hid (KK.out s wr HW.out hlt inn b5 d1 (HI5.out.next HW.out))
        rw [hex] at K
        clear HGV hex
        go_wp2_with fail
        refine K.out.mono ?_
        rintro e w6 ⟨rfl, hB6⟩
        have HW6 := Lib.hid (below3 HW.out hB6 (Nat.le_refl _))
        clear hB6 p4 zp o0 zo ci cg zi zg
        go_wp2
        go_roundw
        case rel => exact ⟨s + 1, by omega, by go_num, HW6⟩
        case measure => simp [intOf]; omega
    · obtain rfl : ga.S = s := by omega
      obtain ⟨wA, hwA⟩ : ∃ z, z = wr := ⟨wr, rfl⟩
      subst hwA
      have hBl := HW.out
      have B5 : Hid (Below w5.heap.size w5 wA) := Lib.hid hBl
      clear hBl
      have hbk := QA.out.below (below3 (below3 (below3 B2.out B3.out (Nat.le_refl _)) B4.out (Nat.le_refl _)) B5.out (Nat.le_refl _)) QA.out.lt
      have p0 := hbk.cell 0
      simp only [List.getElem?_toArray, List.getElem?_cons_zero, List.getElem?_cons_succ] at p0
      have zp := hbk.lt
      clear hbk
      have hmk := run_makeBools ga.S (by omega)
      go_wp2_with fail
      obtain ⟨sb, hsb⟩ : ∃ z, z = wA.heap.size := ⟨_, rfl⟩
      obtain ⟨w7, hw7⟩ : ∃ z, z = wA.alloc (.cells (boolsA (List.replicate ga.S false)) 4) := ⟨_, rfl⟩
      have SB : Hid (Blk w7 sb 4 (boolsA (List.replicate ga.S false))) := Lib.hid (by rw [hw7, hsb]; exact heap_alloc_new wA _)
      have Sw7 : Hid (w7.heap.size = sb + 1) := Lib.hid (by rw [hw7, hsb, World.size_alloc])
      have Zsb : Hid (wA.heap.size ≤ sb) := Lib.hid (by rw [hsb]; exact Nat.le_refl _)
      have hBn : Below wA.heap.size wA w7 := by rw [hw7]; exact (Below.refl _ _).alloc (Nat.le_refl _) _
      rw [← hw7, ← hsb]
      have B6 : Hid (Below wA.heap.size wA w7) := Lib.hid hBn
      clear hw7 hsb hBn
      clear p0 zp hmk
      have HSB : Hid (wA.heap.size ≤ sb) := Zsb
      have HS7 : Hid (SetI wA sb ga.S (List.replicate ga.S false) w7 ∧ AllG ga (List.replicate ga.S false)) := Lib.hid ⟨⟨B6.out, SB.out, List.length_replicate ..⟩, fun t ht h => by rw [List.getD_eq_getElem?_getD] at h; simp [ht] at h⟩
      have HGA := Lib.hid (HG5.out.next B5.out)
      go_loopw [100] (fun i wr => ∃ s : Nat, s ≤ ga.S ∧ i = .int .i64 s ∧ ∃ L, Hid (SetI wA sb ga.S L wr ∧ AllG ga L)) (fun i _ => ga.S - (intOf i).toNat)
      case atStart => exact ⟨0, by omega, rfl, _, HS7⟩
      case round =>
        obtain ⟨s, hs, rfl, L, HL⟩ := hrel
        by_cases hlt : s < ga.S
        · obtain ⟨b6, o6, vg, e6, hb6, hx6, hcx6⟩ := HGA.out.at_ hlt
          obtain ⟨rfl, rfl⟩ : b6 = ab ∧ o6 = 0 := by simpa [eq_comm] using e6
          obtain ⟨ov, hov, cs⟩ := HL.out.1.at_ hlt
          have cx6 := cellB hcx6
          rw [Nat.zero_add] at cx6
          have cg : wr.cell? ⟨b6, s, none⟩ = some (.bool vg) := (HL.out.1.low.cell (p := ⟨b6, s, none⟩) hb6).trans cx6
          have zg := block_of_cell cg
          dsimp only at zg
          have hk0 : (0 : Int) ≤ (s : Int) := by omega
          have hkn : (s : Int) < (ga.S : Int) := by omega
          have HXG : Hid (ga.good.getD s false = vg) := Lib.hid (by rw [List.getD_eq_getElem?_getD, hx6]; rfl)
          have zs := HL.out.1.blk.lt
          have fs := HL.out.1.blk.frozen
          have hbk := (HQA.out.below B5.out HQA.out.lt).below HL.out.1.low (HQA.out.below B5.out HQA.out.lt).lt
          have p4 := hbk.cell 4
          have zp := hbk.lt
          simp only [List.getElem?_toArray, List.getElem?_cons_zero, List.getElem?_cons_succ] at p4
          clear hbk hx6 hcx6 cx6 e6 hb6 hov
          go_wp2
          all_goals
            first
            | exact ⟨⟨s + 1, by omega, by go_num, _, Lib.hid ⟨HL.out.1.set HSB.out s false, HL.out.2.set (fun h => (by cases h))⟩⟩, by simp [intOf]; omega⟩
            | exact ⟨⟨s + 1, by omega, by go_num, _, Lib.hid ⟨HL.out.1.set HSB.out s vg, HL.out.2.set (fun h => (by rw [HXG.out]; exact h))⟩⟩, by simp [intOf]; omega⟩
        · obtain rfl : ga.S = s := by omega
          obtain ⟨wB, hwB⟩ : ∃ z, z = wr := ⟨wr, rfl⟩
          subst hwB
          have HLB := HL
          go_wp2
          go_loopw [17] (fun v wr => ∃ ag : Bool, v = .bool ag ∧ ∃ L, Hid (SetI wA sb ga.S L wr ∧ AllG ga L ∧ (ag = false → ∀ t < ga.S, L.getD t false = true → exB ga L t = true))) (fun v wr => 2 * onW sb wr + againN v)
          case atStart => exact ⟨true, rfl, L, Lib.hid ⟨HLB.out.1, HLB.out.2, fun h => (by cases h)⟩⟩
          case round =>
            obtain ⟨ag, rfl, L0, HLO⟩ := hrel
            obtain ⟨wo, hwo⟩ : ∃ z, z = wr := ⟨wr, rfl⟩
            subst hwo
            cases ag
            · obtain ⟨wC, hwC⟩ : ∃ z, z = wo := ⟨wo, rfl⟩
              subst hwC
              have HKS : Hid (KeptS ga (fun s => L0.getD s false = true)) := Lib.hid (kept_of OA.out HLO.out.2.1 (HLO.out.2.2 rfl))
              have hBl := HLO.out.1.low
              have B6 : Hid (Below wA.heap.size wA wC) := Lib.hid hBl
              clear hBl
              have HSC := Lib.hid HLO.out.1
              have HLC : Hid (L0.length = ga.S ∧ inn.length = ga.S) := Lib.hid ⟨HLO.out.1.len, by rw [HIN.out]; exact (itR_len ga OA.out k1).1⟩
              have HSUB : Hid (∀ t < ga.S, L0.getD t false = true → inn.getD t false = true) := Lib.hid (fun t ht h => by rw [HIN.out]; exact kept_in OA.out HKS.out k1 t ht h)
              have HIC := Lib.hid (HI5.out.next (below3 B5.out B6.out (Nat.le_refl _)))
              have HQC := Lib.hid (HQP.out.below (below3 B5.out B6.out (Nat.le_refl _)) HQP.out.lt)
              clear HKS HLO
              go_wp2
              go_loopw [141] (fun i wr => ∃ s : Nat, s ≤ ga.S ∧ i = .int .i64 s ∧ wr = wC) (fun i _ => ga.S - (intOf i).toNat)
              case atStart => exact ⟨0, by omega, rfl, rfl⟩
              case round =>
                obtain ⟨s, hs, rfl, hw9⟩ := hrel
                obtain rfl := hw9.symm
                by_cases hlt : s < ga.S
                · obtain ⟨ov, hov, cs⟩ := HSC.out.at_ hlt
                  obtain ⟨b5, o5, vi, e5, hb5, hx5, hcx5⟩ := HIC.out.at_ hlt
                  obtain ⟨rfl, rfl⟩ : b5 = i1 ∧ o5 = 0 := by simpa [eq_comm] using e5
                  have cx5 := cellB hcx5
                  rw [Nat.zero_add] at cx5
                  have zx5 := block_of_cell cx5
                  dsimp only at zx5
                  have hle := HSUB.out s hlt
                  rw [List.getD_eq_getElem?_getD, List.getD_eq_getElem?_getD, hov, hx5] at hle
                  simp only [Option.getD_some] at hle
                  have zs := HSC.out.blk.lt
                  have o0 := HQC.out.cell 0
                  have zo := HQC.out.lt
                  simp only [List.getElem?_toArray, List.getElem?_cons_zero, List.getElem?_cons_succ] at o0
                  have hk0 : (0 : Int) ≤ (s : Int) := by omega
                  have hkn : (s : Int) < (ga.S : Int) := by omega
                  clear hov hx5 hcx5 e5 hb5
                  cases ov
                  · clear hle
                    go_wp2
                    go_roundw
                    case rel => exact ⟨s + 1, by omega, by go_num, trivial⟩
                    case measure => simp [intOf]; omega
                  · obtain rfl := hle rfl
                    clear hle
                    go_wp2
                    go_roundw
                    case rel => exact ⟨s + 1, by omega, by go_num, trivial⟩
                    case measure => simp [intOf]; omega
                · obtain rfl : ga.S = s := by omega
                  go_wp2_with fail
                  obtain ⟨dx, hdx⟩ : ∃ z, z = wC.heap.size := ⟨_, rfl⟩
                  obtain ⟨w20, hw20⟩ : ∃ z, z = wC.alloc (.cells #[.slice A2 n2 c2, .int .i64 0] 60) := ⟨_, rfl⟩
                  have DX : Hid (Blk w20 dx 60 #[.slice A2 n2 c2, .int .i64 0]) := Lib.hid (by rw [hw20, hdx]; exact heap_alloc_new wC _)
                  have Sw20 : Hid (w20.heap.size = dx + 1) := Lib.hid (by rw [hw20, hdx, World.size_alloc])
                  have Zdx : Hid (wC.heap.size ≤ dx) := Lib.hid (by rw [hdx]; exact Nat.le_refl _)
                  have hBn : Below wC.heap.size wC w20 := by rw [hw20]; exact (Below.refl _ _).alloc (Nat.le_refl _) _
                  rw [← hw20, ← hdx]
                  have B7 : Hid (Below wC.heap.size wC w20) := Lib.hid hBn
                  clear hw20 hdx hBn
                  obtain ⟨dq, hdq⟩ : ∃ z, z = dx + 1 := ⟨_, rfl⟩
                  obtain ⟨w21, hw21⟩ : ∃ z, z = w20.alloc (.cells #[.slice A3 n3 c3, .int .i64 0] 60) := ⟨_, rfl⟩
                  have DQ : Hid (Blk w21 dq 60 #[.slice A3 n3 c3, .int .i64 0]) := Lib.hid (by have e2 := heap_alloc_new w20 (.cells #[.slice A3 n3 c3, .int .i64 0] 60); rw [Sw20.out] at e2; rw [hw21, hdq]; exact e2)
                  have Sw21 : Hid (w21.heap.size = dq + 1) := Lib.hid (by rw [hw21, hdq, World.size_alloc, Sw20.out])
                  have Zdq : Hid (w20.heap.size = dq) := Lib.hid (by rw [Sw20.out, hdq])
                  have hBn : Below w20.heap.size w20 w21 := by rw [hw21]; exact (Below.refl _ _).alloc (Nat.le_refl _) _
                  rw [← hw21, ← hdq]
                  have B8 : Hid (Below w20.heap.size w20 w21) := Lib.hid hBn
                  clear hw21 hdq hBn
                  have HQP1 := Lib.hid (HQP.out.below (below3 B5.out (below3 (below3 B6.out B7.out (Nat.le_refl _)) B8.out (Nat.le_refl _)) (Nat.le_refl _)) HQP.out.lt)
                  have HI1 := Lib.hid (HI5.out.next (below3 B5.out (below3 (below3 B6.out B7.out (Nat.le_refl _)) B8.out (Nat.le_refl _)) (Nat.le_refl _)))
                  have HC1 := Lib.hid (RR.out.2.1.next (below3 (below3 B3.out B4.out (Nat.le_refl _)) (below3 B5.out (below3 (below3 B6.out B7.out (Nat.le_refl _)) B8.out (Nat.le_refl _)) (Nat.le_refl _)) (Nat.le_refl _)))
                  have HR1 := Lib.hid (RR.out.2.2.next (below3 (below3 B3.out B4.out (Nat.le_refl _)) (below3 B5.out (below3 (below3 B6.out B7.out (Nat.le_refl _)) B8.out (Nat.le_refl _)) (Nat.le_refl _)) (Nat.le_refl _)))
                  have HII : Hid (1 ≤ inn.length) := Lib.hid (by rw [HLC.out.2]; omega)
                  have KCI := Lib.hid (fun W (h : Below w21.heap.size w21 W) => clone_row (some ⟨i1, 0, none⟩) ga.S d1 inn W (HI1.out.next h) (by omega) hS1)
                  have KCC := Lib.hid (fun W (h : Below w21.heap.size w21 W) => clone_rowI (some ⟨ff, 0, none⟩) ga.S ga.S _ W (HC1.out.next h) (by omega) hS1)
                  have KCR := Lib.hid (fun W (h : Below w21.heap.size w21 W) => clone_rowI (some ⟨r1, 0, none⟩) ga.S ga.S _ W (HR1.out.next h) (by omega) hS1)
                  go_wp2
                  refine wp_region_free10 11 (by kernel_rfl) [some 162, some 163, some 164, some 165, some 166, some 167, some 168, some 169, some 170, some 171, some 24, none] [[], [0], [1], [], [3], [4, 2], [], [6], [7, 5], [2, 5, 8], [], [10, 9, 8, 0, 1, 2, 3, 4, 5, 6, 7, 8, 9, 10]] [(10, .pointer (some ⟨qp, 0, none⟩))] (fun W _ => Below w21.heap.size w21 W) (clPhi w21 ga.S inn qp i1 ff r1 d1) (fun _ _ _ => True) (by kernel_rfl) (by kernel_rfl) rfl (by kernel_rfl) ?_ ?_ ⟨fun _ => 0, (Below.refl _ _).drew, fun i _ => trivial⟩ ?_ ?_
                  · intro z hz
                    simp only [List.mem_cons, List.mem_nil_iff, or_false] at hz
                    subst hz
                    all_goals exact ⟨by kernel_rfl, rfl⟩
                  · intro i v W γ hi h
                    rcases i with _ | _ | _ | _ | _ | _ | _ | _ | _ | _ | _ | _ | i
                    all_goals first | exact h | (simp at hi)
                  · refine ⟨?_, ?_, ?_, ?_, ?_, ?_, ?_, ?_, ?_, ?_, ?_, ?_, trivial⟩
                    all_goals
                      intro a9 W γ ev hcc hff hfx hR hψ hpre
                      simp only [List.mem_cons, List.mem_nil_iff, or_false, forall_eq, forall_eq_or_imp] at hfx
                      have f0 := hfx
                      clear hfx
                      have HR := Lib.hid hR
                      clear hR
                    · refine ⟨fun hg K hK => ?_, trivial⟩
                      clear hg
                      clear hpre hψ
                      go_simp
                      exact hK _ _ γ HR.out (fun _ _ _ _ h => h) (fun _ _ _ h => h) rfl
                    · refine ⟨fun hg K hK => ?_, trivial⟩
                      clear hg
                      have q0 : ev (.tmp 162) = _ := hpre 0 (by decide)
                      have hbk := HQP1.out.below (show Below w21.heap.size w21 W from HR.out) HQP1.out.lt
                      have hzg := hbk.lt
                      have e0 := hbk.cell 0
                      simp only [List.getElem?_toArray, List.getElem?_cons_zero, List.getElem?_cons_succ] at e0
                      clear hbk
                      clear hpre hψ
                      go_simp
                      exact hK _ _ γ HR.out (fun _ _ _ _ h => h) (fun _ _ _ h => h) rfl
                    · refine ⟨fun hg K hK => ?_, trivial⟩
                      clear hg
                      have q0 : ev (.tmp 163) = _ := hpre 1 (by decide)
                      have C := Lib.hid (KCI.out W (show Below w21.heap.size w21 W from HR.out))
                      have HRW9 : Hid (Below w21.heap.size w21 W) := HR
                      clear hpre hψ
                      go_simp
                      refine C.out.mono ?_
                      rintro e w5x ⟨b, c', rfl, hrow, hle, hB5⟩
                      exact hK _ w5x γ (below3 HRW9.out hB5 (Nat.le_refl _)) (fun j u _ _ h => clPhi_next hB5 h) (fun _ _ _ h => h) ⟨b, c', rfl, Nat.le_trans HRW9.out.size hle, hrow⟩
                    · refine ⟨fun hg K hK => ?_, trivial⟩
                      clear hg
                      clear hpre hψ
                      go_simp
                      exact hK _ _ γ HR.out (fun _ _ _ _ h => h) (fun _ _ _ h => h) rfl
                    · refine ⟨fun hg K hK => ?_, trivial⟩
                      clear hg
                      have q0 : ev (.tmp 165) = _ := hpre 3 (by decide)
                      have hbk := HQP1.out.below (show Below w21.heap.size w21 W from HR.out) HQP1.out.lt
                      have hzg := hbk.lt
                      have e1 := hbk.cell 1
                      simp only [List.getElem?_toArray, List.getElem?_cons_zero, List.getElem?_cons_succ] at e1
                      clear hbk
                      clear hpre hψ
                      go_simp
                      exact hK _ _ γ HR.out (fun _ _ _ _ h => h) (fun _ _ _ h => h) rfl
                    · refine ⟨fun hg K hK => ?_, trivial⟩
                      clear hg
                      have q0 : ev (.tmp 166) = _ := hpre 4 (by decide)
                      have C := Lib.hid (KCC.out W (show Below w21.heap.size w21 W from HR.out))
                      have HRW9 : Hid (Below w21.heap.size w21 W) := HR
                      clear hpre hψ
                      go_simp
                      refine C.out.mono ?_
                      rintro e w5x ⟨b, c', rfl, hrow, hle, hB5⟩
                      exact hK _ w5x γ (below3 HRW9.out hB5 (Nat.le_refl _)) (fun j u _ _ h => clPhi_next hB5 h) (fun _ _ _ h => h) ⟨b, c', rfl, Nat.le_trans HRW9.out.size hle, hrow⟩
                    · refine ⟨fun hg K hK => ?_, trivial⟩
                      clear hg
                      clear hpre hψ
                      go_simp
                      exact hK _ _ γ HR.out (fun _ _ _ _ h => h) (fun _ _ _ h => h) rfl
                    · refine ⟨fun hg K hK => ?_, trivial⟩
                      clear hg
                      have q0 : ev (.tmp 168) = _ := hpre 6 (by decide)
                      have hbk := HQP1.out.below (show Below w21.heap.size w21 W from HR.out) HQP1.out.lt
                      have hzg := hbk.lt
                      have e2 := hbk.cell 2
                      simp only [List.getElem?_toArray, List.getElem?_cons_zero, List.getElem?_cons_succ] at e2
                      clear hbk
                      clear hpre hψ
                      go_simp
                      exact hK _ _ γ HR.out (fun _ _ _ _ h => h) (fun _ _ _ h => h) rfl
                    · refine ⟨fun hg K hK => ?_, trivial⟩
                      clear hg
                      have q0 : ev (.tmp 169) = _ := hpre 7 (by decide)
                      have C := Lib.hid (KCR.out W (show Below w21.heap.size w21 W from HR.out))
                      have HRW9 : Hid (Below w21.heap.size w21 W) := HR
                      clear hpre hψ
                      go_simp
                      refine C.out.mono ?_
                      rintro e w5x ⟨b, c', rfl, hrow, hle, hB5⟩
                      exact hK _ w5x γ (below3 HRW9.out hB5 (Nat.le_refl _)) (fun j u _ _ h => clPhi_next hB5 h) (fun _ _ _ h => h) ⟨b, c', rfl, Nat.le_trans HRW9.out.size hle, hrow⟩
                    · refine ⟨fun hg K hK => ?_, trivial⟩
                      clear hg
                      obtain ⟨b1, k1', q0, h1⟩ := hpre 2 (by decide)
                      obtain ⟨b2, k2', q1, h2⟩ := hpre 5 (by decide)
                      obtain ⟨b3, k3', q2, h3⟩ := hpre 8 (by decide)
                      replace q0 : ev (.tmp 164) = _ := q0
                      replace q1 : ev (.tmp 167) = _ := q1
                      replace q2 : ev (.tmp 170) = _ := q2
                      have HH := Lib.hid (And.intro h1 (And.intro h2 h3))
                      clear hpre hψ h1 h2 h3
                      go_simp
                      exact hK _ _ γ HR.out (fun _ _ _ _ h => h) (fun _ _ _ h => h) ⟨b1, k1', b2, k2', b3, k3', rfl, HH.out⟩
                    · refine ⟨fun hg K hK => ?_, trivial⟩
                      clear hg
                      have HRW9 : Hid (Below w21.heap.size w21 W) := HR
                      clear hpre hψ
                      go_simp
                      have hB5 : Below W.heap.size W (W.alloc (.cells #[.slice none 0 0, .slice none 0 0, .slice none 0 0] 27)) := (Below.refl _ _).alloc (Nat.le_refl _) _
                      exact hK _ _ (fun i => if i = 0 then W.heap.size else γ i) (below3 HRW9.out hB5 (Nat.le_refl _)) (fun j u hj hne h => clPhi_ghost hne (fun e => by subst e; exact absurd (by decide) hj) (clPhi_next hB5 h)) (fun _ _ _ h => h) ⟨by simp, HRW9.out.size, _, _, _, heap_alloc_new W _⟩
                    · refine ⟨fun hg K hK => ?_, trivial⟩
                      clear hg
                      obtain ⟨q4, h4B, x0, x1, x2, h4⟩ := hpre 10 (by decide)
                      obtain ⟨b1, k1', b2, k2', b3, k3', q3, h3⟩ := hpre 9 (by decide)
                      replace q4 : ev (.tmp 24) = _ := q4
                      replace q3 : ev (.tmp 171) = _ := q3
                      obtain ⟨g1, hg1⟩ : ∃ z, z = γ 0 := ⟨_, rfl⟩
                      rw [← hg1] at q4 h4B h4
                      have z11 := h4.lt
                      have f11 := h4.frozen
                      have HG1 := Lib.hid hg1
                      have HXX := Lib.hid (And.intro h4 (And.intro h4B h3))
                      have y0' := h4.cell 0
                      have y1' := h4.cell 1
                      have y2' := h4.cell 2
                      simp only [List.getElem?_toArray, List.getElem?_cons_zero, List.getElem?_cons_succ] at y0' y1' y2'
                      have HRW9 : Hid (Below w21.heap.size w21 W) := HR
                      clear hpre h4 h3 h4B hg1 hψ
                      go_simp
                      obtain ⟨hb1, hb2, h3⟩ := HXX.out
                      have hkk : Keep (fun b => b = g1) W ((((W.setCell ⟨g1, 0, none⟩ (.slice (some ⟨b1, 0, none⟩) ga.S k1')).setCell ⟨g1, 1, none⟩ (.slice (some ⟨b2, 0, none⟩) ga.S k2')).setCell ⟨g1, 2, none⟩ (.slice (some ⟨b3, 0, none⟩) ga.S k3'))) := ((((Keep.refl (fun b => b = g1) W).setCell rfl _).setCell rfl _).setCell rfl _)
                      have hnb : Blk ((((W.setCell ⟨g1, 0, none⟩ (.slice (some ⟨b1, 0, none⟩) ga.S k1')).setCell ⟨g1, 1, none⟩ (.slice (some ⟨b2, 0, none⟩) ga.S k2')).setCell ⟨g1, 2, none⟩ (.slice (some ⟨b3, 0, none⟩) ga.S k3'))) g1 27 #[.slice (some ⟨b1, 0, none⟩) ga.S k1', .slice (some ⟨b2, 0, none⟩) ga.S k2', .slice (some ⟨b3, 0, none⟩) ga.S k3'] := by
                        have h := (((hb1.set_ 0 (.slice (some ⟨b1, 0, none⟩) ga.S k1')).set_ 1 (.slice (some ⟨b2, 0, none⟩) ga.S k2')).set_ 2 (.slice (some ⟨b3, 0, none⟩) ga.S k3'))
                        simpa using h
                      rw [HG1.out] at hb1 hb2
                      have hk0 : Keep (fun b => b = γ 0) W ((((W.setCell ⟨g1, 0, none⟩ (.slice (some ⟨b1, 0, none⟩) ga.S k1')).setCell ⟨g1, 1, none⟩ (.slice (some ⟨b2, 0, none⟩) ga.S k2')).setCell ⟨g1, 2, none⟩ (.slice (some ⟨b3, 0, none⟩) ga.S k3'))) := hkk.mono (fun b e => by rw [e, HG1.out])
                      have hnb0 : Blk ((((W.setCell ⟨g1, 0, none⟩ (.slice (some ⟨b1, 0, none⟩) ga.S k1')).setCell ⟨g1, 1, none⟩ (.slice (some ⟨b2, 0, none⟩) ga.S k2')).setCell ⟨g1, 2, none⟩ (.slice (some ⟨b3, 0, none⟩) ga.S k3'))) (γ 0) 27 #[.slice (some ⟨b1, 0, none⟩) ga.S k1', .slice (some ⟨b2, 0, none⟩) ga.S k2', .slice (some ⟨b3, 0, none⟩) ga.S k3'] := by rw [← HG1.out]; exact hnb
                      obtain ⟨j1, j2⟩ := row_store (S := ga.S) (inn := inn) (Sx := 0) hS1 HII.out hk0 hb1
                      exact hK undef _ γ (HRW9.out.trans (hk0.below HRW9.out.size (fun b e => by rw [e]; exact hb2))) (fun j u _ hne h => clPhi_store hS1 HII.out hk0 hb1 hnb0 hne h) (fun _ _ _ h => h) ⟨b1, k1', b2, k2', b3, k3', hnb0, ⟨h3.1.1, j1 _ h3.1.2⟩, ⟨h3.2.1.1, j2 _ h3.2.1.2⟩, h3.2.2.1, j2 _ h3.2.2.2⟩
                  · intro vs w22 γ hvl hR hφ
                    have q10 := hφ 10 (by decide)
                    have q11 := hφ 11 (by decide)
                    have HR := Lib.hid hR
                    clear hφ hR
                    match vs, hvl with
                    | [y0, y1, y2, y3, y4, y5, y6, y7, y8, y9, y10, y11], _ =>
                    simp only [List.getD_cons_zero, List.getD_cons_succ] at q10 q11
                    obtain ⟨q10, hq10, _⟩ := q10
                    obtain ⟨xi, a1, xc, a2, xr, a3, hbx, hxi, hxc, hxr⟩ := q11
                    obtain rfl : y10 = _ := q10
                    obtain ⟨qx, hqx⟩ : ∃ z, z = γ 0 := ⟨_, rfl⟩
                    rw [← hqx] at hbx hq10 ⊢
                    have QX := Lib.hid hbx
                    have HXR := Lib.hid (And.intro hxi (And.intro hxc (And.intro hxr hq10)))
                    have hBr : Below w21.heap.size w21 w22 := HR.out
                    clear hqx hbx hxi hxc hxr hq10 HR
                    have B9 : Hid (Below w21.heap.size w21 w22) := Lib.hid hBr
                    clear hBr KCI KCC KCR
                    simp [putAll]
                    go_wp2
                    have HQA2 := Lib.hid (HQA.out.below (below3 B5.out (below3 (below3 (below3 B6.out B7.out (Nat.le_refl _)) B8.out (Nat.le_refl _)) B9.out (Nat.le_refl _)) (Nat.le_refl _)) HQA.out.lt)
                    refine wp_region_free10 9 (by kernel_rfl) [some 172, some 173, some 174, some 175, some 176, some 177, some 178, some 179, some 25, none] [[], [], [1], [2, 2], [], [4], [5, 5], [0, 3, 6], [], [8, 7, 0, 1, 2, 3, 4, 5, 6, 7, 8]] [(9, .pointer (some ⟨qa, 0, none⟩)), (15, .slice (some ⟨sb, 0, none⟩) ga.S ga.S)] (fun W _ => Below w22.heap.size w22 W) (mkPhi w22 ga.S (.slice (some ⟨sb, 0, none⟩) ga.S ga.S) qa) (fun _ _ _ => True) (by kernel_rfl) (by kernel_rfl) rfl (by kernel_rfl) ?_ ?_ ⟨fun _ => 0, (Below.refl _ _).drew, fun i _ => trivial⟩ ?_ ?_
                    · intro z hz
                      simp only [List.mem_cons, List.mem_nil_iff, or_false] at hz
                      rcases hz with rfl | rfl
                      all_goals exact ⟨by kernel_rfl, rfl⟩
                    · intro i v W γ hi h
                      rcases i with _ | _ | _ | _ | _ | _ | _ | _ | _ | _ | i
                      all_goals first | exact h | (simp at hi)
                    · refine ⟨?_, ?_, ?_, ?_, ?_, ?_, ?_, ?_, ?_, ?_, trivial⟩
                      all_goals
                        intro a9 W γ ev hcc hff hfx hR hψ hpre
                        simp only [List.mem_cons, List.mem_nil_iff, or_false, forall_eq, forall_eq_or_imp] at hfx
                        obtain ⟨f0, f1⟩ := hfx
                        have HR := Lib.hid hR
                        clear hR
                      · refine ⟨fun hg K hK => ?_, trivial⟩
                        clear hg
                        clear hpre hψ
                        go_simp
                        exact hK _ _ γ HR.out (fun _ _ _ _ h => h) (fun _ _ _ h => h) rfl
                      · refine ⟨fun hg K hK => ?_, trivial⟩
                        clear hg
                        clear hpre hψ
                        go_simp
                        exact hK _ _ γ HR.out (fun _ _ _ _ h => h) (fun _ _ _ h => h) rfl
                      · refine ⟨fun hg K hK => ?_, trivial⟩
                        clear hg
                        have q0 : ev (.tmp 173) = _ := hpre 1 (by decide)
                        have hbk := HQA2.out.below (show Below w22.heap.size w22 W from HR.out) HQA2.out.lt
                        have hzg := hbk.lt
                        have e0 := hbk.cell 0
                        simp only [List.getElem?_toArray, List.getElem?_cons_zero, List.getElem?_cons_succ] at e0
                        clear hbk
                        clear hpre hψ
                        go_simp
                        exact hK _ _ γ HR.out (fun _ _ _ _ h => h) (fun _ _ _ h => h) rfl
                      · refine ⟨fun hg K hK => ?_, trivial⟩
                        clear hg
                        have q0 : ev (.tmp 174) = _ := hpre 2 (by decide)
                        have hmk := run_makeInts ga.S (by omega)
                        have HRW9 : Hid (Below w22.heap.size w22 W) := HR
                        clear hpre hψ
                        go_simp
                        have hB5 : Below W.heap.size W (W.alloc (.cells (intsA (List.replicate ga.S 0)) 3)) := (Below.refl _ _).alloc (Nat.le_refl _) _
                        exact hK _ _ γ (below3 HRW9.out hB5 (Nat.le_refl _)) (fun j u _ _ h => mkPhi_next hB5 h) (fun _ _ _ h => h) ⟨W.heap.size, rfl, HRW9.out.size, IR.made _ _⟩
                      · refine ⟨fun hg K hK => ?_, trivial⟩
                        clear hg
                        clear hpre hψ
                        go_simp
                        exact hK _ _ γ HR.out (fun _ _ _ _ h => h) (fun _ _ _ h => h) rfl
                      · refine ⟨fun hg K hK => ?_, trivial⟩
                        clear hg
                        have q0 : ev (.tmp 176) = _ := hpre 4 (by decide)
                        have hbk := HQA2.out.below (show Below w22.heap.size w22 W from HR.out) HQA2.out.lt
                        have hzg := hbk.lt
                        have e0 := hbk.cell 0
                        simp only [List.getElem?_toArray, List.getElem?_cons_zero, List.getElem?_cons_succ] at e0
                        clear hbk
                        clear hpre hψ
                        go_simp
                        exact hK _ _ γ HR.out (fun _ _ _ _ h => h) (fun _ _ _ h => h) rfl
                      · refine ⟨fun hg K hK => ?_, trivial⟩
                        clear hg
                        have q0 : ev (.tmp 177) = _ := hpre 5 (by decide)
                        have hmk := run_makeInts ga.S (by omega)
                        have HRW9 : Hid (Below w22.heap.size w22 W) := HR
                        clear hpre hψ
                        go_simp
                        have hB5 : Below W.heap.size W (W.alloc (.cells (intsA (List.replicate ga.S 0)) 3)) := (Below.refl _ _).alloc (Nat.le_refl _) _
                        exact hK _ _ γ (below3 HRW9.out hB5 (Nat.le_refl _)) (fun j u _ _ h => mkPhi_next hB5 h) (fun _ _ _ h => h) ⟨W.heap.size, rfl, HRW9.out.size, IR.made _ _⟩
                      · refine ⟨fun hg K hK => ?_, trivial⟩
                        clear hg
                        have q0 : ev (.tmp 172) = _ := hpre 0 (by decide)
                        obtain ⟨b2, q1, h2⟩ := hpre 3 (by decide)
                        obtain ⟨b3, q2, h3⟩ := hpre 6 (by decide)
                        replace q1 : ev (.tmp 175) = _ := q1
                        replace q2 : ev (.tmp 178) = _ := q2
                        have HH := Lib.hid (And.intro h2 h3)
                        clear hpre hψ h2 h3
                        go_simp
                        exact hK _ _ γ HR.out (fun _ _ _ _ h => h) (fun _ _ _ h => h) ⟨b2, b3, rfl, HH.out⟩
                      · refine ⟨fun hg K hK => ?_, trivial⟩
                        clear hg
                        have HRW9 : Hid (Below w22.heap.size w22 W) := HR
                        clear hpre hψ
                        go_simp
                        have hB5 : Below W.heap.size W (W.alloc (.cells #[.slice none 0 0, .slice none 0 0, .slice none 0 0] 27)) := (Below.refl _ _).alloc (Nat.le_refl _) _
                        exact hK _ _ (fun i => if i = 0 then W.heap.size else γ i) (below3 HRW9.out hB5 (Nat.le_refl _)) (fun j u hj hne h => mkPhi_ghost hne (fun e => by subst e; exact absurd (by decide) hj) (mkPhi_next hB5 h)) (fun _ _ _ h => h) ⟨by simp, HRW9.out.size, _, _, _, heap_alloc_new W _⟩
                      · refine ⟨fun hg K hK => ?_, trivial⟩
                        clear hg
                        obtain ⟨q4, h4B, x0, x1, x2, h4⟩ := hpre 8 (by decide)
                        obtain ⟨b2, b3, q3, h3⟩ := hpre 7 (by decide)
                        replace q4 : ev (.tmp 25) = _ := q4
                        replace q3 : ev (.tmp 179) = _ := q3
                        obtain ⟨g1, hg1⟩ : ∃ z, z = γ 0 := ⟨_, rfl⟩
                        rw [← hg1] at q4 h4B h4
                        have z11 := h4.lt
                        have f11 := h4.frozen
                        have HG1 := Lib.hid hg1
                        have HXX := Lib.hid (And.intro h4 (And.intro h4B h3))
                        have z0' := h4.cell 0
                        have z1' := h4.cell 1
                        have z2' := h4.cell 2
                        simp only [List.getElem?_toArray, List.getElem?_cons_zero, List.getElem?_cons_succ] at z0' z1' z2'
                        have HRW9 : Hid (Below w22.heap.size w22 W) := HR
                        clear hpre h4 h3 h4B hg1 hψ
                        go_simp
                        obtain ⟨hb1, hb2, h3⟩ := HXX.out
                        have hkk : Keep (fun b => b = g1) W ((((W.setCell ⟨g1, 0, none⟩ (.slice (some ⟨sb, 0, none⟩) ga.S ga.S)).setCell ⟨g1, 1, none⟩ (.slice (some ⟨b2, 0, none⟩) ga.S ga.S)).setCell ⟨g1, 2, none⟩ (.slice (some ⟨b3, 0, none⟩) ga.S ga.S))) := ((((Keep.refl (fun b => b = g1) W).setCell rfl _).setCell rfl _).setCell rfl _)
                        have hnb : Blk ((((W.setCell ⟨g1, 0, none⟩ (.slice (some ⟨sb, 0, none⟩) ga.S ga.S)).setCell ⟨g1, 1, none⟩ (.slice (some ⟨b2, 0, none⟩) ga.S ga.S)).setCell ⟨g1, 2, none⟩ (.slice (some ⟨b3, 0, none⟩) ga.S ga.S))) g1 27 #[.slice (some ⟨sb, 0, none⟩) ga.S ga.S, .slice (some ⟨b2, 0, none⟩) ga.S ga.S, .slice (some ⟨b3, 0, none⟩) ga.S ga.S] := by
                          have h := (((hb1.set_ 0 (.slice (some ⟨sb, 0, none⟩) ga.S ga.S)).set_ 1 (.slice (some ⟨b2, 0, none⟩) ga.S ga.S)).set_ 2 (.slice (some ⟨b3, 0, none⟩) ga.S ga.S))
                          simpa using h
                        rw [HG1.out] at hb1 hb2
                        have hk0 : Keep (fun b => b = γ 0) W ((((W.setCell ⟨g1, 0, none⟩ (.slice (some ⟨sb, 0, none⟩) ga.S ga.S)).setCell ⟨g1, 1, none⟩ (.slice (some ⟨b2, 0, none⟩) ga.S ga.S)).setCell ⟨g1, 2, none⟩ (.slice (some ⟨b3, 0, none⟩) ga.S ga.S))) := hkk.mono (fun b e => by rw [e, HG1.out])
                        have hnb0 : Blk ((((W.setCell ⟨g1, 0, none⟩ (.slice (some ⟨sb, 0, none⟩) ga.S ga.S)).setCell ⟨g1, 1, none⟩ (.slice (some ⟨b2, 0, none⟩) ga.S ga.S)).setCell ⟨g1, 2, none⟩ (.slice (some ⟨b3, 0, none⟩) ga.S ga.S))) (γ 0) 27 #[.slice (some ⟨sb, 0, none⟩) ga.S ga.S, .slice (some ⟨b2, 0, none⟩) ga.S ga.S, .slice (some ⟨b3, 0, none⟩) ga.S ga.S] := by rw [← HG1.out]; exact hnb
                        obtain ⟨j1, j2⟩ := row_store (S := ga.S) (inn := inn) (Sx := 0) hS1 HII.out hk0 hb1
                        exact hK undef _ γ (HRW9.out.trans (hk0.below HRW9.out.size (fun b e => by rw [e]; exact hb2))) (fun j u _ hne h => mkPhi_store hS1 hk0 hb1 hnb0 hne h) (fun _ _ _ h => h) ⟨b2, b3, hnb0, ⟨h3.1.1, j2 _ h3.1.2⟩, h3.2.1, j2 _ h3.2.2⟩
                    · intro vs w23 γ hvl hR hφ
                      have q8 := hφ 8 (by decide)
                      have q9 := hφ 9 (by decide)
                      have HR := Lib.hid hR
                      clear hφ hR
                      match vs, hvl with
                      | [z0, z1, z2, z3, z4, z5, z6, z7, z8, z9], _ =>
                      simp only [List.getD_cons_zero, List.getD_cons_succ] at q8 q9
                      obtain ⟨q8, hq8, _⟩ := q8
                      obtain ⟨yc, yr, hby, hyc, hyr⟩ := q9
                      obtain rfl : z8 = _ := q8
                      obtain ⟨qy, hqy⟩ : ∃ z, z = γ 0 := ⟨_, rfl⟩
                      rw [← hqy] at hby hq8 ⊢
                      have HYR := Lib.hid (And.intro hby (And.intro hyc (And.intro hyr hq8)))
                      have hBr : Below w22.heap.size w22 w23 := HR.out
                      clear hqy hby hyc hyr hq8 HR
                      have B10 : Hid (Below w22.heap.size w22 w23) := Lib.hid hBr
                      clear hBr
                      simp [putAll]
                      have HBD : Hid ((wC.heap.size ≤ dx ∧ wC.heap.size ≤ dq ∧ dx ≠ dq) ∧ (wC.heap.size ≤ xc ∧ wC.heap.size ≤ xr ∧ wC.heap.size ≤ yc ∧ wC.heap.size ≤ yr)) := Lib.hid (by
                        have z1 := Zdx.out
                        have z2 := Zdq.out
                        have z3 := Sw20.out
                        have z4 := Sw21.out
                        have z5 := HXR.out.2.1.1
                        have z6 := HXR.out.2.2.1.1
                        have z7 := HYR.out.2.1.1
                        have z8 := HYR.out.2.2.1.1
                        have z9 := (below3 B7.out B8.out (Nat.le_refl _)).size
                        have z10 := (below3 (below3 B7.out B8.out (Nat.le_refl _)) B9.out (Nat.le_refl _)).size
                        omega)
                      have HGI : Hid (GI wC ga.S inn qx qy dx dq xi xc xr yc yr a1 a2 a3 (.slice (some ⟨sb, 0, none⟩) ga.S ga.S) (.slice A2 n2 c2) (.slice A3 n3 c3) (0) w23) := Lib.hid ⟨(below3 (below3 (below3 B7.out B8.out (Nat.le_refl _)) B9.out (Nat.le_refl _)) B10.out (Nat.le_refl _)), QX.out.below B10.out QX.out.lt, HYR.out.1, ⟨0, Nat.le_refl _, DX.out.below (below3 (below3 B8.out B9.out (Nat.le_refl _)) B10.out (Nat.le_refl _)) DX.out.lt⟩, ⟨0, Nat.le_refl _, DQ.out.below (below3 B9.out B10.out (Nat.le_refl _)) DQ.out.lt⟩, rowW_next HXR.out.1.2 B10.out, fun b e => by
                        rcases e with rfl | rfl | rfl | rfl
                        · exact HXR.out.2.1.2.next B10.out
                        · exact HXR.out.2.2.1.2.next B10.out
                        · exact HYR.out.2.1.2
                        · exact HYR.out.2.2.1.2⟩
                      have HRC := Lib.hid (RR.out.2.2.next (below3 (below3 B3.out B4.out (Nat.le_refl _)) (below3 B5.out B6.out (Nat.le_refl _)) (Nat.le_refl _)))
                      have HFC := Lib.hid (RR.out.2.1.next (below3 (below3 B3.out B4.out (Nat.le_refl _)) (below3 B5.out B6.out (Nat.le_refl _)) (Nat.le_refl _)))
                      have HQAC := Lib.hid (HQA.out.below (below3 B5.out B6.out (Nat.le_refl _)) HQA.out.lt)
                      have HLWC := Lib.hid (below3 (below3 (below3 (below3 (below3 (below3 B0.out B1.out (Nat.le_refl _)) B2.out (Nat.le_refl _)) B3.out (Nat.le_refl _)) B4.out (Nat.le_refl _)) B5.out (Nat.le_refl _)) B6.out (Nat.le_refl _))
                      have KN1 := Lib.hid (fun (m : Int) (hm : 1 ≤ m ∧ m ≤ 1000) (W : World) (i : Nat) (hd : Blk W dx 60 #[.slice A2 n2 c2, .int .i64 (i : Int)]) (hW : Below wC.heap.size wC W) (hi : i ≤ 1000000) => next_int dx n2 c2 w.heap.size i m A2 l2 W hd (H2.out.below (below3 HLWC.out hW (Nat.le_refl _))) (Nat.le_trans HLWC.out.size HBD.out.1.1) U2.out hi hm)
                      have KN2 := Lib.hid (fun (m : Int) (hm : 1 ≤ m ∧ m ≤ 1000) (W : World) (i : Nat) (hd : Blk W dq 60 #[.slice A3 n3 c3, .int .i64 (i : Int)]) (hW : Below wC.heap.size wC W) (hi : i ≤ 1000000) => next_int dq n3 c3 w.heap.size i m A3 l3 W hd (H3.out.below (below3 HLWC.out hW (Nat.le_refl _))) (Nat.le_trans HLWC.out.size HBD.out.1.2.1) U3.out hi hm)
                      have x0 := HGI.out.bx.cell 0
                      have zx := HGI.out.bx.lt
                      simp only [List.getElem?_toArray, List.getElem?_cons_zero, List.getElem?_cons_succ] at x0
                      go_wp2
                      clear x0 zx
                      go_loopw [183] (fun i wr => ∃ s : Nat, s ≤ ga.S ∧ i = .int .i64 s ∧ Hid (GI wC ga.S inn qx qy dx dq xi xc xr yc yr a1 a2 a3 (.slice (some ⟨sb, 0, none⟩) ga.S ga.S) (.slice A2 n2 c2) (.slice A3 n3 c3) (s) wr)) (fun i _ => ga.S - (intOf i).toNat)
                      case atStart => exact ⟨0, by omega, rfl, HGI⟩
                      case round =>
                        obtain ⟨s, hs, rfl, HG⟩ := hrel
                        by_cases hlt : s < ga.S
                        · have hk0 : (0 : Int) ≤ (s : Int) := by omega
                          have hkn : (s : Int) < (ga.S : Int) := by omega
                          have hli : s < inn.length := by rw [HLC.out.2]; exact hlt
                          obtain ⟨_, zi, _, hci⟩ := HG.out.xin.at_ (size := 1) (fun _ => rfl) (List.getElem?_eq_getElem hli)
                          have ci := hci 0 _ rfl
                          rw [Nat.mul_one, Nat.add_zero] at ci
                          obtain ⟨vi, hvi⟩ : ∃ z, z = inn[s] := ⟨_, rfl⟩
                          rw [← hvi] at ci
                          have x0 := HG.out.bx.cell 0
                          have x2 := HG.out.bx.cell 2
                          have zx := HG.out.bx.lt
                          simp only [List.getElem?_toArray, List.getElem?_cons_zero, List.getElem?_cons_succ] at x0 x2
                          obtain ⟨zr, _, yv, cr⟩ := (HG.out.rows xr (Or.inr (Or.inl rfl))).at_ hlt
                          clear hci hvi hli
                          cases vi
                          · by_cases hyv : 0 < yv
                            · have dy : decide (0 < yv) = true := decide_eq_true hyv
                              go_wp2
                              clear x0 x2 zx zr cr ci zi
                              refine wp_region_free10 9 (by kernel_rfl) [some 205, some 206, some 207, some 208, some 209, some 210, some 211, some 212, some 213, none] [[], [0], [], [1, 2], [3], [], [5], [4, 6], [1, 2, 0, 1, 2, 3, 4, 5, 6, 7], [8, 7, 6, 0, 1, 2, 3, 4, 5, 6, 7]] [(24, .pointer (some ⟨qx, 0, none⟩)), (26, .int .i64 (s : Int)), (23, .pointer (some ⟨dq, 0, none⟩))] (fun W γ => GI wC ga.S inn qx qy dx dq xi xc xr yc yr a1 a2 a3 (.slice (some ⟨sb, 0, none⟩) ga.S ga.S) (.slice A2 n2 c2) (.slice A3 n3 c3) (s + γ 0) W) (c42Phi ga.S qx xr a3 s dq) (fun i _ γ => i = 6 → γ 0 = 0) (by kernel_rfl) (by kernel_rfl) rfl (by kernel_rfl) ?_ ?_ ⟨fun _ => 0, HG.out.next (Below.refl _ _).drew, fun i _ _ => rfl⟩ ?_ ?_
                              · intro z hz
                                simp only [List.mem_cons, List.mem_nil_iff, or_false] at hz
                                rcases hz with rfl | rfl | rfl
                                all_goals exact ⟨by kernel_rfl, rfl⟩
                              · intro i v W γ hi h
                                rcases i with _ | _ | _ | _ | _ | _ | _ | _ | _ | _ | i
                                all_goals first | exact h | (simp at hi)
                              · refine ⟨?_, ?_, ?_, ?_, ?_, ?_, ?_, ?_, ?_, ?_, trivial⟩
                                all_goals
                                  intro a9 W γ ev hcc hff hfx hR hψ hpre
                                  simp only [List.mem_cons, List.mem_nil_iff, or_false, forall_eq, forall_eq_or_imp] at hfx
                                  obtain ⟨f0, f1, f2⟩ := hfx
                                  have HR := Lib.hid hR
                                  clear hR
                                · refine ⟨fun hg K hK => ?_, trivial⟩
                                  clear hg
                                  clear hpre hψ
                                  go_simp
                                  exact hK _ _ γ HR.out (fun _ _ _ _ h => h) (fun _ _ _ h => h) rfl
                                · refine ⟨fun hg K hK => ?_, trivial⟩
                                  clear hg
                                  have q0 : ev (.tmp 205) = _ := hpre 0 (by decide)
                                  have hbk := HR.out.bx
                                  have hzg := hbk.lt
                                  have e2 := hbk.cell 2
                                  simp only [List.getElem?_toArray, List.getElem?_cons_zero, List.getElem?_cons_succ] at e2
                                  clear hbk
                                  clear hpre hψ
                                  go_simp
                                  exact hK _ _ γ HR.out (fun _ _ _ _ h => h) (fun _ _ _ h => h) rfl
                                · refine ⟨fun hg K hK => ?_, trivial⟩
                                  clear hg
                                  clear hpre hψ
                                  go_simp
                                  exact hK _ _ γ HR.out (fun _ _ _ _ h => h) (fun _ _ _ h => h) rfl
                                · refine ⟨fun hg K hK => ?_, trivial⟩
                                  clear hg
                                  have q0 : ev (.tmp 206) = _ := hpre 1 (by decide)
                                  have q1 : ev (.tmp 207) = _ := hpre 2 (by decide)
                                  clear hpre hψ
                                  go_simp
                                  exact hK _ _ γ HR.out (fun _ _ _ _ h => h) (fun _ _ _ h => h) rfl
                                · refine ⟨fun hg K hK => ?_, trivial⟩
                                  clear hg
                                  have q0 : ev (.tmp 208) = _ := hpre 3 (by decide)
                                  obtain ⟨zb9, fb9, y9, cb9⟩ := (HR.out.rows xr (Or.inr (Or.inl rfl))).at_ hlt
                                  clear hpre hψ
                                  go_simp
                                  exact hK _ _ γ HR.out (fun _ _ _ _ h => h) (fun _ _ _ h => h) ⟨y9, rfl⟩
                                · refine ⟨fun hg K hK => ?_, trivial⟩
                                  clear hg
                                  clear hpre hψ
                                  go_simp
                                  exact hK _ _ γ HR.out (fun _ _ _ _ h => h) (fun _ _ _ h => h) rfl
                                · refine ⟨fun hg K hK => ?_, trivial⟩
                                  clear hg
                                  have q0 : ev (.tmp 210) = _ := hpre 5 (by decide)
                                  have h0 : γ 0 = 0 := hψ rfl
                                  obtain ⟨i, hi, hd⟩ := HR.out.dq
                                  rw [h0, Nat.add_zero] at hi
                                  have C := Lib.hid (KN2.out 3 (by omega) W i hd HR.out.low (by omega))
                                  have HX9 := Lib.hid (And.intro hi hd)
                                  have HR9 := HR
                                  clear hpre hψ hi hd
                                  go_simp
                                  refine C.out.mono ?_
                                  rintro e w5x ⟨r, rfl, _, hk5, hb5⟩
                                  exact hK _ w5x (fun i => if i = 0 then 1 else γ i) (GI.turn2 (by have h := HR9.out; rw [h0, Nat.add_zero] at h; exact h) hS1 HII.out HBD.out.1.2.1 HBD.out.1.2.2 hk5 hb5 HX9.out.1) (fun j u hj hne h => c42Phi_g hne (fun e => by subst e; exact absurd (by decide) hj) h) (fun _ j h1 _ e => absurd e h1) ⟨⟨r, rfl⟩, rfl⟩
                                · refine ⟨fun hg K hK => ?_, trivial⟩
                                  clear hg
                                  obtain ⟨y4, q4⟩ := hpre 4 (by decide)
                                  obtain ⟨⟨r6, q6⟩, _⟩ := hpre 6 (by decide)
                                  replace q4 : ev (.tmp 209) = _ := q4
                                  replace q6 : ev (.tmp 211) = _ := q6
                                  clear hpre hψ
                                  go_simp
                                  exact hK _ _ γ HR.out (fun _ _ _ _ h => h) (fun _ _ _ h => h) ⟨_, rfl⟩
                                · refine ⟨fun hg K hK => ?_, trivial⟩
                                  clear hg
                                  have q0 : ev (.tmp 206) = _ := hpre 1 (by decide)
                                  have q1 : ev (.tmp 207) = _ := hpre 2 (by decide)
                                  clear hpre hψ
                                  go_simp
                                  exact hK _ _ γ HR.out (fun _ _ _ _ h => h) (fun _ _ _ h => h) rfl
                                · refine ⟨fun hg K hK => ?_, trivial⟩
                                  clear hg
                                  have q0 : ev (.tmp 213) = _ := hpre 8 (by decide)
                                  obtain ⟨_, h61⟩ := hpre 6 (by decide)
                                  obtain ⟨r, q6⟩ := hpre 7 (by decide)
                                  replace q6 : ev (.tmp 212) = _ := q6
                                  obtain ⟨zb9, fb9, y9, cb9⟩ := (HR.out.rows xr (Or.inr (Or.inl rfl))).at_ hlt
                                  have HR9 := HR
                                  clear hpre hψ
                                  go_simp
                                  exact hK undef _ γ (HR9.out.store (Or.inr (Or.inl rfl)) HBD.out.2.2.1 hlt HII.out) (fun j u _ _ h => c42Phi_w h) (fun h => absurd rfl h) h61
                              · intro vs w' γ hvl hR hφ
                                have q9 := hφ 9 (by decide)
                                have HR := Lib.hid hR
                                clear hφ hR
                                match vs, hvl with
                                | [y0, y1, y2, y3, y4, y5, y6, y7, y8, y9], _ =>
                                simp only [List.getD_cons_zero, List.getD_cons_succ] at q9
                                replace q9 : γ 0 = 1 := q9
                                have HG2 : Hid (GI wC ga.S inn qx qy dx dq xi xc xr yc yr a1 a2 a3 (.slice (some ⟨sb, 0, none⟩) ga.S ga.S) (.slice A2 n2 c2) (.slice A3 n3 c3) (s + 1) w') := Lib.hid (by have h := HR.out; rw [q9] at h; exact h)
                                clear HR
                                simp [putAll]
                                go_wp2
                                refine wp_region_free10 14 (by kernel_rfl) [some 214, some 215, some 216, some 217, some 218, some 219, some 220, some 221, some 222, some 223, some 224, some 225, none, some 226, none] [[], [0], [], [], [3], [], [], [6], [], [7, 8], [9], [1, 2, 0, 1, 2, 10], [11, 0, 1, 2, 10], [4, 5, 0, 1, 2, 3, 4, 5, 6, 7, 8, 9, 10, 11, 12], [13, 10, 12, 0, 1, 2, 3, 4, 5, 6, 7, 8, 9, 10, 11, 12]] [(25, .pointer (some ⟨qy, 0, none⟩)), (26, .int .i64 (s : Int)), (10, .pointer (some ⟨qp, 0, none⟩))] (fun W _ => GI wC ga.S inn qx qy dx dq xi xc xr yc yr a1 a2 a3 (.slice (some ⟨sb, 0, none⟩) ga.S ga.S) (.slice A2 n2 c2) (.slice A3 n3 c3) (s + 1) W) (c43Phi ga.S qy yc yr s qp 2 r1) (fun _ _ _ => True) (by kernel_rfl) (by kernel_rfl) rfl (by kernel_rfl) ?_ ?_ ⟨fun _ => 0, HG2.out.next (Below.refl _ _).drew, fun i _ => trivial⟩ ?_ ?_
                                · intro z hz
                                  simp only [List.mem_cons, List.mem_nil_iff, or_false] at hz
                                  rcases hz with rfl | rfl | rfl
                                  all_goals exact ⟨by kernel_rfl, rfl⟩
                                · intro i v W γ hi h
                                  rcases i with _ | _ | _ | _ | _ | _ | _ | _ | _ | _ | _ | _ | _ | _ | _ | i
                                  all_goals first | exact h | (simp at hi)
                                · refine ⟨?_, ?_, ?_, ?_, ?_, ?_, ?_, ?_, ?_, ?_, ?_, ?_, ?_, ?_, ?_, trivial⟩
                                  all_goals
                                    intro a9 W γ ev hcc hff hfx hR hψ hpre
                                    simp only [List.mem_cons, List.mem_nil_iff, or_false, forall_eq, forall_eq_or_imp] at hfx
                                    obtain ⟨f0, f1, f2⟩ := hfx
                                    have HR := Lib.hid hR
                                    clear hR
                                  · refine ⟨fun hg K hK => ?_, trivial⟩
                                    clear hg
                                    clear hpre hψ
                                    go_simp
                                    exact hK _ _ γ HR.out (fun _ _ _ _ h => h) (fun _ _ _ h => h) rfl
                                  · refine ⟨fun hg K hK => ?_, trivial⟩
                                    clear hg
                                    have q0 : ev (.tmp 214) = _ := hpre 0 (by decide)
                                    have hbk := HR.out.by_
                                    have hzg := hbk.lt
                                    have e1 := hbk.cell 1
                                    simp only [List.getElem?_toArray, List.getElem?_cons_zero, List.getElem?_cons_succ] at e1
                                    clear hbk
                                    clear hpre hψ
                                    go_simp
                                    exact hK _ _ γ HR.out (fun _ _ _ _ h => h) (fun _ _ _ h => h) rfl
                                  · refine ⟨fun hg K hK => ?_, trivial⟩
                                    clear hg
                                    clear hpre hψ
                                    go_simp
                                    exact hK _ _ γ HR.out (fun _ _ _ _ h => h) (fun _ _ _ h => h) rfl
                                  · refine ⟨fun hg K hK => ?_, trivial⟩
                                    clear hg
                                    clear hpre hψ
                                    go_simp
                                    exact hK _ _ γ HR.out (fun _ _ _ _ h => h) (fun _ _ _ h => h) rfl
                                  · refine ⟨fun hg K hK => ?_, trivial⟩
                                    clear hg
                                    have q0 : ev (.tmp 217) = _ := hpre 3 (by decide)
                                    have hbk := HR.out.by_
                                    have hzg := hbk.lt
                                    have e2 := hbk.cell 2
                                    simp only [List.getElem?_toArray, List.getElem?_cons_zero, List.getElem?_cons_succ] at e2
                                    clear hbk
                                    clear hpre hψ
                                    go_simp
                                    exact hK _ _ γ HR.out (fun _ _ _ _ h => h) (fun _ _ _ h => h) rfl
                                  · refine ⟨fun hg K hK => ?_, trivial⟩
                                    clear hg
                                    clear hpre hψ
                                    go_simp
                                    exact hK _ _ γ HR.out (fun _ _ _ _ h => h) (fun _ _ _ h => h) rfl
                                  · refine ⟨fun hg K hK => ?_, trivial⟩
                                    clear hg
                                    clear hpre hψ
                                    go_simp
                                    exact hK _ _ γ HR.out (fun _ _ _ _ h => h) (fun _ _ _ h => h) rfl
                                  · refine ⟨fun hg K hK => ?_, trivial⟩
                                    clear hg
                                    have q0 : ev (.tmp 220) = _ := hpre 6 (by decide)
                                    have hbk := HQC.out.below HR.out.low HQC.out.lt
                                    have hzg := hbk.lt
                                    have e2 := hbk.cell 2
                                    simp only [List.getElem?_toArray, List.getElem?_cons_zero, List.getElem?_cons_succ] at e2
                                    clear hbk
                                    clear hpre hψ
                                    go_simp
                                    exact hK _ _ γ HR.out (fun _ _ _ _ h => h) (fun _ _ _ h => h) rfl
                                  · refine ⟨fun hg K hK => ?_, trivial⟩
                                    clear hg
                                    clear hpre hψ
                                    go_simp
                                    exact hK _ _ γ HR.out (fun _ _ _ _ h => h) (fun _ _ _ h => h) rfl
                                  · refine ⟨fun hg K hK => ?_, trivial⟩
                                    clear hg
                                    have q0 : ev (.tmp 221) = _ := hpre 7 (by decide)
                                    have q1 : ev (.tmp 222) = _ := hpre 8 (by decide)
                                    clear hpre hψ
                                    go_simp
                                    exact hK _ _ γ HR.out (fun _ _ _ _ h => h) (fun _ _ _ h => h) rfl
                                  · refine ⟨fun hg K hK => ?_, trivial⟩
                                    clear hg
                                    have q0 : ev (.tmp 223) = _ := hpre 9 (by decide)
                                    obtain ⟨b8, o8, y8, e8, hb8, hx8, hc8⟩ := (HRC.out.next HR.out.low).at_ hlt
                                    obtain ⟨rfl, rfl⟩ : b8 = r1 ∧ o8 = 0 := by simpa [eq_comm] using e8
                                    have cb9 := cellI hc8
                                    rw [Nat.zero_add] at cb9
                                    have zb9 := block_of_cell cb9
                                    dsimp only at zb9
                                    clear hpre hψ hx8 hc8 e8 hb8
                                    go_simp
                                    exact hK _ _ γ HR.out (fun _ _ _ _ h => h) (fun _ _ _ h => h) ⟨y8, rfl⟩
                                  · refine ⟨fun hg K hK => ?_, trivial⟩
                                    clear hg
                                    have q0 : ev (.tmp 215) = _ := hpre 1 (by decide)
                                    have q1 : ev (.tmp 216) = _ := hpre 2 (by decide)
                                    clear hpre hψ
                                    go_simp
                                    exact hK _ _ γ HR.out (fun _ _ _ _ h => h) (fun _ _ _ h => h) rfl
                                  · refine ⟨fun hg K hK => ?_, trivial⟩
                                    clear hg
                                    have q0 : ev (.tmp 225) = _ := hpre 11 (by decide)
                                    obtain ⟨zb9, fb9, y9, cb9⟩ := (HR.out.rows yc (Or.inr (Or.inr (Or.inl rfl)))).at_ hlt
                                    have HR9 := HR
                                    clear hpre hψ
                                    go_simp
                                    exact hK undef _ γ (HR9.out.store (Or.inr (Or.inr (Or.inl rfl))) HBD.out.2.2.2.1 hlt HII.out) (fun j u _ _ h => c43Phi_w h) (fun _ _ _ h => h) trivial
                                  · refine ⟨fun hg K hK => ?_, trivial⟩
                                    clear hg
                                    have q0 : ev (.tmp 218) = _ := hpre 4 (by decide)
                                    have q1 : ev (.tmp 219) = _ := hpre 5 (by decide)
                                    clear hpre hψ
                                    go_simp
                                    exact hK _ _ γ HR.out (fun _ _ _ _ h => h) (fun _ _ _ h => h) rfl
                                  · refine ⟨fun hg K hK => ?_, trivial⟩
                                    clear hg
                                    have q0 : ev (.tmp 226) = _ := hpre 13 (by decide)
                                    obtain ⟨y10, q10⟩ := hpre 10 (by decide)
                                    replace q10 : ev (.tmp 224) = _ := q10
                                    obtain ⟨zb9, fb9, y9, cb9⟩ := (HR.out.rows yr (Or.inr (Or.inr (Or.inr rfl)))).at_ hlt
                                    have HR9 := HR
                                    clear hpre hψ
                                    go_simp
                                    exact hK undef _ γ (HR9.out.store (Or.inr (Or.inr (Or.inr rfl))) HBD.out.2.2.2.2 hlt HII.out) (fun j u _ _ h => c43Phi_w h) (fun h => absurd rfl h) trivial
                                · intro vs wu1 γ hvl hR hφ
                                  have HR := Lib.hid hR
                                  clear hφ hR
                                  match vs, hvl with
                                  | [v1_0, v1_1, v1_2, v1_3, v1_4, v1_5, v1_6, v1_7, v1_8, v1_9, v1_10, v1_11, v1_12, v1_13, v1_14], _ =>
                                  have HG1 : Hid (GI wC ga.S inn qx qy dx dq xi xc xr yc yr a1 a2 a3 (.slice (some ⟨sb, 0, none⟩) ga.S ga.S) (.slice A2 n2 c2) (.slice A3 n3 c3) (s + 1) wu1) := Lib.hid HR.out
                                  have HOV := HSC.out.next HG1.out.low
                                  obtain ⟨ov, _, cs⟩ := HOV.at_ hlt
                                  have zs := HOV.blk.lt
                                  clear HR HOV
                                  simp [putAll]
                                  cases ov
                                  · go_wp2
                                    go_roundw
                                    case rel => exact ⟨s + 1, by omega, by go_num, HG1⟩
                                    case measure => simp [intOf]; omega
                                  · go_wp2
                                    refine wp_region_free10 14 (by kernel_rfl) [some 231, some 232, some 233, some 234, some 235, some 236, some 237, some 238, some 239, some 240, some 241, some 242, none, some 243, none] [[], [0], [], [], [3], [], [], [6], [], [7, 8], [9], [1, 2, 0, 1, 2, 6, 7, 8, 9, 10], [11, 10, 0, 1, 2, 6, 7, 8, 9, 10], [4, 5, 0, 1, 2, 3, 4, 5, 6, 7, 8, 9, 10, 11, 12], [13, 12, 0, 1, 2, 3, 4, 5, 6, 7, 8, 9, 10, 11, 12]] [(25, .pointer (some ⟨qy, 0, none⟩)), (26, .int .i64 (s : Int)), (10, .pointer (some ⟨qp, 0, none⟩))] (fun W _ => GI wC ga.S inn qx qy dx dq xi xc xr yc yr a1 a2 a3 (.slice (some ⟨sb, 0, none⟩) ga.S ga.S) (.slice A2 n2 c2) (.slice A3 n3 c3) (s + 1) W) (c43Phi ga.S qy yc yr s qp 1 ff) (fun _ _ _ => True) (by kernel_rfl) (by kernel_rfl) rfl (by kernel_rfl) ?_ ?_ ⟨fun _ => 0, HG1.out.next (Below.refl _ _).drew, fun i _ => trivial⟩ ?_ ?_
                                    · intro z hz
                                      simp only [List.mem_cons, List.mem_nil_iff, or_false] at hz
                                      rcases hz with rfl | rfl | rfl
                                      all_goals exact ⟨by kernel_rfl, rfl⟩
                                    · intro i v W γ hi h
                                      rcases i with _ | _ | _ | _ | _ | _ | _ | _ | _ | _ | _ | _ | _ | _ | _ | i
                                      all_goals first | exact h | (simp at hi)
                                    · refine ⟨?_, ?_, ?_, ?_, ?_, ?_, ?_, ?_, ?_, ?_, ?_, ?_, ?_, ?_, ?_, trivial⟩
                                      all_goals
                                        intro a9 W γ ev hcc hff hfx hR hψ hpre
                                        simp only [List.mem_cons, List.mem_nil_iff, or_false, forall_eq, forall_eq_or_imp] at hfx
                                        obtain ⟨f0, f1, f2⟩ := hfx
                                        have HR := Lib.hid hR
                                        clear hR
                                      · refine ⟨fun hg K hK => ?_, trivial⟩
                                        clear hg
                                        clear hpre hψ
                                        go_simp
                                        exact hK _ _ γ HR.out (fun _ _ _ _ h => h) (fun _ _ _ h => h) rfl
                                      · refine ⟨fun hg K hK => ?_, trivial⟩
                                        clear hg
                                        have q0 : ev (.tmp 231) = _ := hpre 0 (by decide)
                                        have hbk := HR.out.by_
                                        have hzg := hbk.lt
                                        have e1 := hbk.cell 1
                                        simp only [List.getElem?_toArray, List.getElem?_cons_zero, List.getElem?_cons_succ] at e1
                                        clear hbk
                                        clear hpre hψ
                                        go_simp
                                        exact hK _ _ γ HR.out (fun _ _ _ _ h => h) (fun _ _ _ h => h) rfl
                                      · refine ⟨fun hg K hK => ?_, trivial⟩
                                        clear hg
                                        clear hpre hψ
                                        go_simp
                                        exact hK _ _ γ HR.out (fun _ _ _ _ h => h) (fun _ _ _ h => h) rfl
                                      · refine ⟨fun hg K hK => ?_, trivial⟩
                                        clear hg
                                        clear hpre hψ
                                        go_simp
                                        exact hK _ _ γ HR.out (fun _ _ _ _ h => h) (fun _ _ _ h => h) rfl
                                      · refine ⟨fun hg K hK => ?_, trivial⟩
                                        clear hg
                                        have q0 : ev (.tmp 234) = _ := hpre 3 (by decide)
                                        have hbk := HR.out.by_
                                        have hzg := hbk.lt
                                        have e2 := hbk.cell 2
                                        simp only [List.getElem?_toArray, List.getElem?_cons_zero, List.getElem?_cons_succ] at e2
                                        clear hbk
                                        clear hpre hψ
                                        go_simp
                                        exact hK _ _ γ HR.out (fun _ _ _ _ h => h) (fun _ _ _ h => h) rfl
                                      · refine ⟨fun hg K hK => ?_, trivial⟩
                                        clear hg
                                        clear hpre hψ
                                        go_simp
                                        exact hK _ _ γ HR.out (fun _ _ _ _ h => h) (fun _ _ _ h => h) rfl
                                      · refine ⟨fun hg K hK => ?_, trivial⟩
                                        clear hg
                                        clear hpre hψ
                                        go_simp
                                        exact hK _ _ γ HR.out (fun _ _ _ _ h => h) (fun _ _ _ h => h) rfl
                                      · refine ⟨fun hg K hK => ?_, trivial⟩
                                        clear hg
                                        have q0 : ev (.tmp 237) = _ := hpre 6 (by decide)
                                        have hbk := HQC.out.below HR.out.low HQC.out.lt
                                        have hzg := hbk.lt
                                        have e1 := hbk.cell 1
                                        simp only [List.getElem?_toArray, List.getElem?_cons_zero, List.getElem?_cons_succ] at e1
                                        clear hbk
                                        clear hpre hψ
                                        go_simp
                                        exact hK _ _ γ HR.out (fun _ _ _ _ h => h) (fun _ _ _ h => h) rfl
                                      · refine ⟨fun hg K hK => ?_, trivial⟩
                                        clear hg
                                        clear hpre hψ
                                        go_simp
                                        exact hK _ _ γ HR.out (fun _ _ _ _ h => h) (fun _ _ _ h => h) rfl
                                      · refine ⟨fun hg K hK => ?_, trivial⟩
                                        clear hg
                                        have q0 : ev (.tmp 238) = _ := hpre 7 (by decide)
                                        have q1 : ev (.tmp 239) = _ := hpre 8 (by decide)
                                        clear hpre hψ
                                        go_simp
                                        exact hK _ _ γ HR.out (fun _ _ _ _ h => h) (fun _ _ _ h => h) rfl
                                      · refine ⟨fun hg K hK => ?_, trivial⟩
                                        clear hg
                                        have q0 : ev (.tmp 240) = _ := hpre 9 (by decide)
                                        obtain ⟨b8, o8, y8, e8, hb8, hx8, hc8⟩ := (HFC.out.next HR.out.low).at_ hlt
                                        obtain ⟨rfl, rfl⟩ : b8 = ff ∧ o8 = 0 := by simpa [eq_comm] using e8
                                        have cb9 := cellI hc8
                                        rw [Nat.zero_add] at cb9
                                        have zb9 := block_of_cell cb9
                                        dsimp only at zb9
                                        clear hpre hψ hx8 hc8 e8 hb8
                                        go_simp
                                        exact hK _ _ γ HR.out (fun _ _ _ _ h => h) (fun _ _ _ h => h) ⟨y8, rfl⟩
                                      · refine ⟨fun hg K hK => ?_, trivial⟩
                                        clear hg
                                        have q0 : ev (.tmp 232) = _ := hpre 1 (by decide)
                                        have q1 : ev (.tmp 233) = _ := hpre 2 (by decide)
                                        clear hpre hψ
                                        go_simp
                                        exact hK _ _ γ HR.out (fun _ _ _ _ h => h) (fun _ _ _ h => h) rfl
                                      · refine ⟨fun hg K hK => ?_, trivial⟩
                                        clear hg
                                        have q0 : ev (.tmp 242) = _ := hpre 11 (by decide)
                                        obtain ⟨y10, q10⟩ := hpre 10 (by decide)
                                        replace q10 : ev (.tmp 241) = _ := q10
                                        obtain ⟨zb9, fb9, y9, cb9⟩ := (HR.out.rows yc (Or.inr (Or.inr (Or.inl rfl)))).at_ hlt
                                        have HR9 := HR
                                        clear hpre hψ
                                        go_simp
                                        exact hK undef _ γ (HR9.out.store (Or.inr (Or.inr (Or.inl rfl))) HBD.out.2.2.2.1 hlt HII.out) (fun j u _ _ h => c43Phi_w h) (fun _ _ _ h => h) trivial
                                      · refine ⟨fun hg K hK => ?_, trivial⟩
                                        clear hg
                                        have q0 : ev (.tmp 235) = _ := hpre 4 (by decide)
                                        have q1 : ev (.tmp 236) = _ := hpre 5 (by decide)
                                        clear hpre hψ
                                        go_simp
                                        exact hK _ _ γ HR.out (fun _ _ _ _ h => h) (fun _ _ _ h => h) rfl
                                      · refine ⟨fun hg K hK => ?_, trivial⟩
                                        clear hg
                                        have q0 : ev (.tmp 243) = _ := hpre 13 (by decide)
                                        obtain ⟨zb9, fb9, y9, cb9⟩ := (HR.out.rows yr (Or.inr (Or.inr (Or.inr rfl)))).at_ hlt
                                        have HR9 := HR
                                        clear hpre hψ
                                        go_simp
                                        exact hK undef _ γ (HR9.out.store (Or.inr (Or.inr (Or.inr rfl))) HBD.out.2.2.2.2 hlt HII.out) (fun j u _ _ h => c43Phi_w h) (fun h => absurd rfl h) trivial
                                    · intro vs wv1 γ hvl hR hφ
                                      have HR := Lib.hid hR
                                      clear hφ hR
                                      match vs, hvl with
                                      | [u1_0, u1_1, u1_2, u1_3, u1_4, u1_5, u1_6, u1_7, u1_8, u1_9, u1_10, u1_11, u1_12, u1_13, u1_14], _ =>
                                      have HGZ : Hid (GI wC ga.S inn qx qy dx dq xi xc xr yc yr a1 a2 a3 (.slice (some ⟨sb, 0, none⟩) ga.S ga.S) (.slice A2 n2 c2) (.slice A3 n3 c3) (s + 1) wv1) := Lib.hid HR.out
                                      clear HR
                                      simp [putAll]
                                      go_wp2
                                      go_roundw
                                      case rel => exact ⟨s + 1, by omega, by go_num, HGZ⟩
                                      case measure => simp [intOf]; omega
                            · have dy : decide (0 < yv) = false := decide_eq_false hyv
                              have HG2 : Hid (GI wC ga.S inn qx qy dx dq xi xc xr yc yr a1 a2 a3 (.slice (some ⟨sb, 0, none⟩) ga.S ga.S) (.slice A2 n2 c2) (.slice A3 n3 c3) (s + 1) wr) := Lib.hid (HG.out.mono (Nat.le_succ _))
                              go_wp2
                              refine wp_region_free10 14 (by kernel_rfl) [some 214, some 215, some 216, some 217, some 218, some 219, some 220, some 221, some 222, some 223, some 224, some 225, none, some 226, none] [[], [0], [], [], [3], [], [], [6], [], [7, 8], [9], [1, 2, 0, 1, 2, 10], [11, 0, 1, 2, 10], [4, 5, 0, 1, 2, 3, 4, 5, 6, 7, 8, 9, 10, 11, 12], [13, 10, 12, 0, 1, 2, 3, 4, 5, 6, 7, 8, 9, 10, 11, 12]] [(25, .pointer (some ⟨qy, 0, none⟩)), (26, .int .i64 (s : Int)), (10, .pointer (some ⟨qp, 0, none⟩))] (fun W _ => GI wC ga.S inn qx qy dx dq xi xc xr yc yr a1 a2 a3 (.slice (some ⟨sb, 0, none⟩) ga.S ga.S) (.slice A2 n2 c2) (.slice A3 n3 c3) (s + 1) W) (c43Phi ga.S qy yc yr s qp 2 r1) (fun _ _ _ => True) (by kernel_rfl) (by kernel_rfl) rfl (by kernel_rfl) ?_ ?_ ⟨fun _ => 0, HG2.out.next (Below.refl _ _).drew, fun i _ => trivial⟩ ?_ ?_
                              · intro z hz
                                simp only [List.mem_cons, List.mem_nil_iff, or_false] at hz
                                rcases hz with rfl | rfl | rfl
                                all_goals exact ⟨by kernel_rfl, rfl⟩
                              · intro i v W γ hi h
                                rcases i with _ | _ | _ | _ | _ | _ | _ | _ | _ | _ | _ | _ | _ | _ | _ | i
                                all_goals first | exact h | (simp at hi)
                              · refine ⟨?_, ?_, ?_, ?_, ?_, ?_, ?_, ?_, ?_, ?_, ?_, ?_, ?_, ?_, ?_, trivial⟩
                                all_goals
                                  intro a9 W γ ev hcc hff hfx hR hψ hpre
                                  simp only [List.mem_cons, List.mem_nil_iff, or_false, forall_eq, forall_eq_or_imp] at hfx
                                  obtain ⟨f0, f1, f2⟩ := hfx
                                  have HR := Lib.hid hR
                                  clear hR
                                · refine ⟨fun hg K hK => ?_, trivial⟩
                                  clear hg
                                  clear hpre hψ
                                  go_simp
                                  exact hK _ _ γ HR.out (fun _ _ _ _ h => h) (fun _ _ _ h => h) rfl
                                · refine ⟨fun hg K hK => ?_, trivial⟩
                                  clear hg
                                  have q0 : ev (.tmp 214) = _ := hpre 0 (by decide)
                                  have hbk := HR.out.by_
                                  have hzg := hbk.lt
                                  have e1 := hbk.cell 1
                                  simp only [List.getElem?_toArray, List.getElem?_cons_zero, List.getElem?_cons_succ] at e1
                                  clear hbk
                                  clear hpre hψ
                                  go_simp
                                  exact hK _ _ γ HR.out (fun _ _ _ _ h => h) (fun _ _ _ h => h) rfl
                                · refine ⟨fun hg K hK => ?_, trivial⟩
                                  clear hg
                                  clear hpre hψ
                                  go_simp
                                  exact hK _ _ γ HR.out (fun _ _ _ _ h => h) (fun _ _ _ h => h) rfl
                                · refine ⟨fun hg K hK => ?_, trivial⟩
                                  clear hg
                                  clear hpre hψ
                                  go_simp
                                  exact hK _ _ γ HR.out (fun _ _ _ _ h => h) (fun _ _ _ h => h) rfl
                                · refine ⟨fun hg K hK => ?_, trivial⟩
                                  clear hg
                                  have q0 : ev (.tmp 217) = _ := hpre 3 (by decide)
                                  have hbk := HR.out.by_
                                  have hzg := hbk.lt
                                  have e2 := hbk.cell 2
                                  simp only [List.getElem?_toArray, List.getElem?_cons_zero, List.getElem?_cons_succ] at e2
                                  clear hbk
                                  clear hpre hψ
                                  go_simp
                                  exact hK _ _ γ HR.out (fun _ _ _ _ h => h) (fun _ _ _ h => h) rfl
                                · refine ⟨fun hg K hK => ?_, trivial⟩
                                  clear hg
                                  clear hpre hψ
                                  go_simp
                                  exact hK _ _ γ HR.out (fun _ _ _ _ h => h) (fun _ _ _ h => h) rfl
                                · refine ⟨fun hg K hK => ?_, trivial⟩
                                  clear hg
                                  clear hpre hψ
                                  go_simp
                                  exact hK _ _ γ HR.out (fun _ _ _ _ h => h) (fun _ _ _ h => h) rfl
                                · refine ⟨fun hg K hK => ?_, trivial⟩
                                  clear hg
                                  have q0 : ev (.tmp 220) = _ := hpre 6 (by decide)
                                  have hbk := HQC.out.below HR.out.low HQC.out.lt
                                  have hzg := hbk.lt
                                  have e2 := hbk.cell 2
                                  simp only [List.getElem?_toArray, List.getElem?_cons_zero, List.getElem?_cons_succ] at e2
                                  clear hbk
                                  clear hpre hψ
                                  go_simp
                                  exact hK _ _ γ HR.out (fun _ _ _ _ h => h) (fun _ _ _ h => h) rfl
                                · refine ⟨fun hg K hK => ?_, trivial⟩
                                  clear hg
                                  clear hpre hψ
                                  go_simp
                                  exact hK _ _ γ HR.out (fun _ _ _ _ h => h) (fun _ _ _ h => h) rfl
                                · refine ⟨fun hg K hK => ?_, trivial⟩
                                  clear hg
                                  have q0 : ev (.tmp 221) = _ := hpre 7 (by decide)
                                  have q1 : ev (.tmp 222) = _ := hpre 8 (by decide)
                                  clear hpre hψ
                                  go_simp
                                  exact hK _ _ γ HR.out (fun _ _ _ _ h => h) (fun _ _ _ h => h) rfl
                                · refine ⟨fun hg K hK => ?_, trivial⟩
                                  clear hg
                                  have q0 : ev (.tmp 223) = _ := hpre 9 (by decide)
                                  obtain ⟨b8, o8, y8, e8, hb8, hx8, hc8⟩ := (HRC.out.next HR.out.low).at_ hlt
                                  obtain ⟨rfl, rfl⟩ : b8 = r1 ∧ o8 = 0 := by simpa [eq_comm] using e8
                                  have cb9 := cellI hc8
                                  rw [Nat.zero_add] at cb9
                                  have zb9 := block_of_cell cb9
                                  dsimp only at zb9
                                  clear hpre hψ hx8 hc8 e8 hb8
                                  go_simp
                                  exact hK _ _ γ HR.out (fun _ _ _ _ h => h) (fun _ _ _ h => h) ⟨y8, rfl⟩
                                · refine ⟨fun hg K hK => ?_, trivial⟩
                                  clear hg
                                  have q0 : ev (.tmp 215) = _ := hpre 1 (by decide)
                                  have q1 : ev (.tmp 216) = _ := hpre 2 (by decide)
                                  clear hpre hψ
                                  go_simp
                                  exact hK _ _ γ HR.out (fun _ _ _ _ h => h) (fun _ _ _ h => h) rfl
                                · refine ⟨fun hg K hK => ?_, trivial⟩
                                  clear hg
                                  have q0 : ev (.tmp 225) = _ := hpre 11 (by decide)
                                  obtain ⟨zb9, fb9, y9, cb9⟩ := (HR.out.rows yc (Or.inr (Or.inr (Or.inl rfl)))).at_ hlt
                                  have HR9 := HR
                                  clear hpre hψ
                                  go_simp
                                  exact hK undef _ γ (HR9.out.store (Or.inr (Or.inr (Or.inl rfl))) HBD.out.2.2.2.1 hlt HII.out) (fun j u _ _ h => c43Phi_w h) (fun _ _ _ h => h) trivial
                                · refine ⟨fun hg K hK => ?_, trivial⟩
                                  clear hg
                                  have q0 : ev (.tmp 218) = _ := hpre 4 (by decide)
                                  have q1 : ev (.tmp 219) = _ := hpre 5 (by decide)
                                  clear hpre hψ
                                  go_simp
                                  exact hK _ _ γ HR.out (fun _ _ _ _ h => h) (fun _ _ _ h => h) rfl
                                · refine ⟨fun hg K hK => ?_, trivial⟩
                                  clear hg
                                  have q0 : ev (.tmp 226) = _ := hpre 13 (by decide)
                                  obtain ⟨y10, q10⟩ := hpre 10 (by decide)
                                  replace q10 : ev (.tmp 224) = _ := q10
                                  obtain ⟨zb9, fb9, y9, cb9⟩ := (HR.out.rows yr (Or.inr (Or.inr (Or.inr rfl)))).at_ hlt
                                  have HR9 := HR
                                  clear hpre hψ
                                  go_simp
                                  exact hK undef _ γ (HR9.out.store (Or.inr (Or.inr (Or.inr rfl))) HBD.out.2.2.2.2 hlt HII.out) (fun j u _ _ h => c43Phi_w h) (fun h => absurd rfl h) trivial
                              · intro vs wu2 γ hvl hR hφ
                                have HR := Lib.hid hR
                                clear hφ hR
                                match vs, hvl with
                                | [v2_0, v2_1, v2_2, v2_3, v2_4, v2_5, v2_6, v2_7, v2_8, v2_9, v2_10, v2_11, v2_12, v2_13, v2_14], _ =>
                                have HG2 : Hid (GI wC ga.S inn qx qy dx dq xi xc xr yc yr a1 a2 a3 (.slice (some ⟨sb, 0, none⟩) ga.S ga.S) (.slice A2 n2 c2) (.slice A3 n3 c3) (s + 1) wu2) := Lib.hid HR.out
                                have HOV := HSC.out.next HG2.out.low
                                obtain ⟨ov, _, cs⟩ := HOV.at_ hlt
                                have zs := HOV.blk.lt
                                clear HR HOV
                                simp [putAll]
                                cases ov
                                · go_wp2
                                  go_roundw
                                  case rel => exact ⟨s + 1, by omega, by go_num, HG2⟩
                                  case measure => simp [intOf]; omega
                                · go_wp2
                                  refine wp_region_free10 14 (by kernel_rfl) [some 231, some 232, some 233, some 234, some 235, some 236, some 237, some 238, some 239, some 240, some 241, some 242, none, some 243, none] [[], [0], [], [], [3], [], [], [6], [], [7, 8], [9], [1, 2, 0, 1, 2, 6, 7, 8, 9, 10], [11, 10, 0, 1, 2, 6, 7, 8, 9, 10], [4, 5, 0, 1, 2, 3, 4, 5, 6, 7, 8, 9, 10, 11, 12], [13, 12, 0, 1, 2, 3, 4, 5, 6, 7, 8, 9, 10, 11, 12]] [(25, .pointer (some ⟨qy, 0, none⟩)), (26, .int .i64 (s : Int)), (10, .pointer (some ⟨qp, 0, none⟩))] (fun W _ => GI wC ga.S inn qx qy dx dq xi xc xr yc yr a1 a2 a3 (.slice (some ⟨sb, 0, none⟩) ga.S ga.S) (.slice A2 n2 c2) (.slice A3 n3 c3) (s + 1) W) (c43Phi ga.S qy yc yr s qp 1 ff) (fun _ _ _ => True) (by kernel_rfl) (by kernel_rfl) rfl (by kernel_rfl) ?_ ?_ ⟨fun _ => 0, HG2.out.next (Below.refl _ _).drew, fun i _ => trivial⟩ ?_ ?_
                                  · intro z hz
                                    simp only [List.mem_cons, List.mem_nil_iff, or_false] at hz
                                    rcases hz with rfl | rfl | rfl
                                    all_goals exact ⟨by kernel_rfl, rfl⟩
                                  · intro i v W γ hi h
                                    rcases i with _ | _ | _ | _ | _ | _ | _ | _ | _ | _ | _ | _ | _ | _ | _ | i
                                    all_goals first | exact h | (simp at hi)
                                  · refine ⟨?_, ?_, ?_, ?_, ?_, ?_, ?_, ?_, ?_, ?_, ?_, ?_, ?_, ?_, ?_, trivial⟩
                                    all_goals
                                      intro a9 W γ ev hcc hff hfx hR hψ hpre
                                      simp only [List.mem_cons, List.mem_nil_iff, or_false, forall_eq, forall_eq_or_imp] at hfx
                                      obtain ⟨f0, f1, f2⟩ := hfx
                                      have HR := Lib.hid hR
                                      clear hR
                                    · refine ⟨fun hg K hK => ?_, trivial⟩
                                      clear hg
                                      clear hpre hψ
                                      go_simp
                                      exact hK _ _ γ HR.out (fun _ _ _ _ h => h) (fun _ _ _ h => h) rfl
                                    · refine ⟨fun hg K hK => ?_, trivial⟩
                                      clear hg
                                      have q0 : ev (.tmp 231) = _ := hpre 0 (by decide)
                                      have hbk := HR.out.by_
                                      have hzg := hbk.lt
                                      have e1 := hbk.cell 1
                                      simp only [List.getElem?_toArray, List.getElem?_cons_zero, List.getElem?_cons_succ] at e1
                                      clear hbk
                                      clear hpre hψ
                                      go_simp
                                      exact hK _ _ γ HR.out (fun _ _ _ _ h => h) (fun _ _ _ h => h) rfl
                                    · refine ⟨fun hg K hK => ?_, trivial⟩
                                      clear hg
                                      clear hpre hψ
                                      go_simp
                                      exact hK _ _ γ HR.out (fun _ _ _ _ h => h) (fun _ _ _ h => h) rfl
                                    · refine ⟨fun hg K hK => ?_, trivial⟩
                                      clear hg
                                      clear hpre hψ
                                      go_simp
                                      exact hK _ _ γ HR.out (fun _ _ _ _ h => h) (fun _ _ _ h => h) rfl
                                    · refine ⟨fun hg K hK => ?_, trivial⟩
                                      clear hg
                                      have q0 : ev (.tmp 234) = _ := hpre 3 (by decide)
                                      have hbk := HR.out.by_
                                      have hzg := hbk.lt
                                      have e2 := hbk.cell 2
                                      simp only [List.getElem?_toArray, List.getElem?_cons_zero, List.getElem?_cons_succ] at e2
                                      clear hbk
                                      clear hpre hψ
                                      go_simp
                                      exact hK _ _ γ HR.out (fun _ _ _ _ h => h) (fun _ _ _ h => h) rfl
                                    · refine ⟨fun hg K hK => ?_, trivial⟩
                                      clear hg
                                      clear hpre hψ
                                      go_simp
                                      exact hK _ _ γ HR.out (fun _ _ _ _ h => h) (fun _ _ _ h => h) rfl
                                    · refine ⟨fun hg K hK => ?_, trivial⟩
                                      clear hg
                                      clear hpre hψ
                                      go_simp
                                      exact hK _ _ γ HR.out (fun _ _ _ _ h => h) (fun _ _ _ h => h) rfl
                                    · refine ⟨fun hg K hK => ?_, trivial⟩
                                      clear hg
                                      have q0 : ev (.tmp 237) = _ := hpre 6 (by decide)
                                      have hbk := HQC.out.below HR.out.low HQC.out.lt
                                      have hzg := hbk.lt
                                      have e1 := hbk.cell 1
                                      simp only [List.getElem?_toArray, List.getElem?_cons_zero, List.getElem?_cons_succ] at e1
                                      clear hbk
                                      clear hpre hψ
                                      go_simp
                                      exact hK _ _ γ HR.out (fun _ _ _ _ h => h) (fun _ _ _ h => h) rfl
                                    · refine ⟨fun hg K hK => ?_, trivial⟩
                                      clear hg
                                      clear hpre hψ
                                      go_simp
                                      exact hK _ _ γ HR.out (fun _ _ _ _ h => h) (fun _ _ _ h => h) rfl
                                    · refine ⟨fun hg K hK => ?_, trivial⟩
                                      clear hg
                                      have q0 : ev (.tmp 238) = _ := hpre 7 (by decide)
                                      have q1 : ev (.tmp 239) = _ := hpre 8 (by decide)
                                      clear hpre hψ
                                      go_simp
                                      exact hK _ _ γ HR.out (fun _ _ _ _ h => h) (fun _ _ _ h => h) rfl
                                    · refine ⟨fun hg K hK => ?_, trivial⟩
                                      clear hg
                                      have q0 : ev (.tmp 240) = _ := hpre 9 (by decide)
                                      obtain ⟨b8, o8, y8, e8, hb8, hx8, hc8⟩ := (HFC.out.next HR.out.low).at_ hlt
                                      obtain ⟨rfl, rfl⟩ : b8 = ff ∧ o8 = 0 := by simpa [eq_comm] using e8
                                      have cb9 := cellI hc8
                                      rw [Nat.zero_add] at cb9
                                      have zb9 := block_of_cell cb9
                                      dsimp only at zb9
                                      clear hpre hψ hx8 hc8 e8 hb8
                                      go_simp
                                      exact hK _ _ γ HR.out (fun _ _ _ _ h => h) (fun _ _ _ h => h) ⟨y8, rfl⟩
                                    · refine ⟨fun hg K hK => ?_, trivial⟩
                                      clear hg
                                      have q0 : ev (.tmp 232) = _ := hpre 1 (by decide)
                                      have q1 : ev (.tmp 233) = _ := hpre 2 (by decide)
                                      clear hpre hψ
                                      go_simp
                                      exact hK _ _ γ HR.out (fun _ _ _ _ h => h) (fun _ _ _ h => h) rfl
                                    · refine ⟨fun hg K hK => ?_, trivial⟩
                                      clear hg
                                      have q0 : ev (.tmp 242) = _ := hpre 11 (by decide)
                                      obtain ⟨y10, q10⟩ := hpre 10 (by decide)
                                      replace q10 : ev (.tmp 241) = _ := q10
                                      obtain ⟨zb9, fb9, y9, cb9⟩ := (HR.out.rows yc (Or.inr (Or.inr (Or.inl rfl)))).at_ hlt
                                      have HR9 := HR
                                      clear hpre hψ
                                      go_simp
                                      exact hK undef _ γ (HR9.out.store (Or.inr (Or.inr (Or.inl rfl))) HBD.out.2.2.2.1 hlt HII.out) (fun j u _ _ h => c43Phi_w h) (fun _ _ _ h => h) trivial
                                    · refine ⟨fun hg K hK => ?_, trivial⟩
                                      clear hg
                                      have q0 : ev (.tmp 235) = _ := hpre 4 (by decide)
                                      have q1 : ev (.tmp 236) = _ := hpre 5 (by decide)
                                      clear hpre hψ
                                      go_simp
                                      exact hK _ _ γ HR.out (fun _ _ _ _ h => h) (fun _ _ _ h => h) rfl
                                    · refine ⟨fun hg K hK => ?_, trivial⟩
                                      clear hg
                                      have q0 : ev (.tmp 243) = _ := hpre 13 (by decide)
                                      obtain ⟨zb9, fb9, y9, cb9⟩ := (HR.out.rows yr (Or.inr (Or.inr (Or.inr rfl)))).at_ hlt
                                      have HR9 := HR
                                      clear hpre hψ
                                      go_simp
                                      exact hK undef _ γ (HR9.out.store (Or.inr (Or.inr (Or.inr rfl))) HBD.out.2.2.2.2 hlt HII.out) (fun j u _ _ h => c43Phi_w h) (fun h => absurd rfl h) trivial
                                  · intro vs wv2 γ hvl hR hφ
                                    have HR := Lib.hid hR
                                    clear hφ hR
                                    match vs, hvl with
                                    | [u2_0, u2_1, u2_2, u2_3, u2_4, u2_5, u2_6, u2_7, u2_8, u2_9, u2_10, u2_11, u2_12, u2_13, u2_14], _ =>
                                    have HGZ : Hid (GI wC ga.S inn qx qy dx dq xi xc xr yc yr a1 a2 a3 (.slice (some ⟨sb, 0, none⟩) ga.S ga.S) (.slice A2 n2 c2) (.slice A3 n3 c3) (s + 1) wv2) := Lib.hid HR.out
                                    clear HR
                                    simp [putAll]
                                    go_wp2
                                    go_roundw
                                    case rel => exact ⟨s + 1, by omega, by go_num, HGZ⟩
                                    case measure => simp [intOf]; omega
                          · go_wp2
                            clear x0 x2 zx zr cr ci zi
                            refine wp_region_free10 8 (by kernel_rfl) [some 191, some 192, some 193, some 194, some 195, some 196, some 197, some 198, none] [[], [0], [], [], [], [4], [3, 5], [1, 2, 0, 1, 2, 3, 4, 5, 6], [7, 6, 6, 0, 1, 2, 3, 4, 5, 6]] [(24, .pointer (some ⟨qx, 0, none⟩)), (26, .int .i64 (s : Int)), (22, .pointer (some ⟨dx, 0, none⟩)), (9, .pointer (some ⟨qa, 0, none⟩))] (fun W γ => GI wC ga.S inn qx qy dx dq xi xc xr yc yr a1 a2 a3 (.slice (some ⟨sb, 0, none⟩) ga.S ga.S) (.slice A2 n2 c2) (.slice A3 n3 c3) (s + γ 0) W) (c40Phi ga.S qx xc a2 s dx qa ga.C) (fun i _ γ => i = 6 → γ 0 = 0) (by kernel_rfl) (by kernel_rfl) rfl (by kernel_rfl) ?_ ?_ ⟨fun _ => 0, HG.out.next (Below.refl _ _).drew, fun i _ _ => rfl⟩ ?_ ?_
                            · intro z hz
                              simp only [List.mem_cons, List.mem_nil_iff, or_false] at hz
                              rcases hz with rfl | rfl | rfl | rfl
                              all_goals exact ⟨by kernel_rfl, rfl⟩
                            · intro i v W γ hi h
                              rcases i with _ | _ | _ | _ | _ | _ | _ | _ | _ | i
                              all_goals first | exact h | (simp at hi)
                            · refine ⟨?_, ?_, ?_, ?_, ?_, ?_, ?_, ?_, ?_, trivial⟩
                              all_goals
                                intro a9 W γ ev hcc hff hfx hR hψ hpre
                                simp only [List.mem_cons, List.mem_nil_iff, or_false, forall_eq, forall_eq_or_imp] at hfx
                                obtain ⟨f0, f1, f2, f3⟩ := hfx
                                have HR := Lib.hid hR
                                clear hR
                              · refine ⟨fun hg K hK => ?_, trivial⟩
                                clear hg
                                clear hpre hψ
                                go_simp
                                exact hK _ _ γ HR.out (fun _ _ _ _ h => h) (fun _ _ _ h => h) rfl
                              · refine ⟨fun hg K hK => ?_, trivial⟩
                                clear hg
                                have q0 : ev (.tmp 191) = _ := hpre 0 (by decide)
                                have hbk := HR.out.bx
                                have hzg := hbk.lt
                                have e1 := hbk.cell 1
                                simp only [List.getElem?_toArray, List.getElem?_cons_zero, List.getElem?_cons_succ] at e1
                                clear hbk
                                clear hpre hψ
                                go_simp
                                exact hK _ _ γ HR.out (fun _ _ _ _ h => h) (fun _ _ _ h => h) rfl
                              · refine ⟨fun hg K hK => ?_, trivial⟩
                                clear hg
                                clear hpre hψ
                                go_simp
                                exact hK _ _ γ HR.out (fun _ _ _ _ h => h) (fun _ _ _ h => h) rfl
                              · refine ⟨fun hg K hK => ?_, trivial⟩
                                clear hg
                                clear hpre hψ
                                go_simp
                                exact hK _ _ γ HR.out (fun _ _ _ _ h => h) (fun _ _ _ h => h) rfl
                              · refine ⟨fun hg K hK => ?_, trivial⟩
                                clear hg
                                clear hpre hψ
                                go_simp
                                exact hK _ _ γ HR.out (fun _ _ _ _ h => h) (fun _ _ _ h => h) rfl
                              · refine ⟨fun hg K hK => ?_, trivial⟩
                                clear hg
                                have q0 : ev (.tmp 195) = _ := hpre 4 (by decide)
                                have hbk := HQAC.out.below HR.out.low HQAC.out.lt
                                have hzg := hbk.lt
                                have e1 := hbk.cell 1
                                simp only [List.getElem?_toArray, List.getElem?_cons_zero, List.getElem?_cons_succ] at e1
                                clear hbk
                                clear hpre hψ
                                go_simp
                                exact hK _ _ γ HR.out (fun _ _ _ _ h => h) (fun _ _ _ h => h) rfl
                              · refine ⟨fun hg K hK => ?_, trivial⟩
                                clear hg
                                have q0 : ev (.tmp 194) = _ := hpre 3 (by decide)
                                have q1 : ev (.tmp 196) = _ := hpre 5 (by decide)
                                have hcm : 1 ≤ (ga.C : Int) ∧ (ga.C : Int) ≤ 1000 := by have h1 := OA.out.c0; have h2 := OA.out.c1; omega
                                have h0 : γ 0 = 0 := hψ rfl
                                obtain ⟨i, hi, hd⟩ := HR.out.dx
                                rw [h0, Nat.add_zero] at hi
                                have C := Lib.hid (KN1.out (ga.C : Int) hcm W i hd HR.out.low (by omega))
                                have HX9 := Lib.hid (And.intro hi hd)
                                have HR9 := HR
                                clear hpre hψ hi hd
                                go_simp
                                refine C.out.mono ?_
                                rintro e w5x ⟨r, rfl, _, hk5, hb5⟩
                                exact hK _ w5x (fun i => if i = 0 then 1 else γ i) (GI.turn1 (by have h := HR9.out; rw [h0, Nat.add_zero] at h; exact h) hS1 HII.out HBD.out.1.1 (Ne.symm HBD.out.1.2.2) hk5 hb5 HX9.out.1) (fun j u hj hne h => c40Phi_g hne (fun e => by subst e; exact absurd (by decide) hj) h) (fun _ j h1 _ e => absurd e h1) ⟨⟨r, rfl⟩, rfl⟩
                              · refine ⟨fun hg K hK => ?_, trivial⟩
                                clear hg
                                have q0 : ev (.tmp 192) = _ := hpre 1 (by decide)
                                have q1 : ev (.tmp 193) = _ := hpre 2 (by decide)
                                clear hpre hψ
                                go_simp
                                exact hK _ _ γ HR.out (fun _ _ _ _ h => h) (fun _ _ _ h => h) rfl
                              · refine ⟨fun hg K hK => ?_, trivial⟩
                                clear hg
                                have q0 : ev (.tmp 198) = _ := hpre 7 (by decide)
                                obtain ⟨⟨r, q6⟩, h61⟩ := hpre 6 (by decide)
                                replace q6 : ev (.tmp 197) = _ := q6
                                obtain ⟨zb9, fb9, y9, cb9⟩ := (HR.out.rows xc (Or.inl rfl)).at_ hlt
                                have HR9 := HR
                                clear hpre hψ
                                go_simp
                                exact hK undef _ γ (HR9.out.store (Or.inl rfl) HBD.out.2.1 hlt HII.out) (fun j u _ _ h => c40Phi_w h) (fun h => absurd rfl h) h61
                            · intro vs w' γ hvl hR hφ
                              have q8 := hφ 8 (by decide)
                              have HR := Lib.hid hR
                              clear hφ hR
                              match vs, hvl with
                              | [y0, y1, y2, y3, y4, y5, y6, y7, y8], _ =>
                              simp only [List.getD_cons_zero, List.getD_cons_succ] at q8
                              replace q8 : γ 0 = 1 := q8
                              have HG2 : Hid (GI wC ga.S inn qx qy dx dq xi xc xr yc yr a1 a2 a3 (.slice (some ⟨sb, 0, none⟩) ga.S ga.S) (.slice A2 n2 c2) (.slice A3 n3 c3) (s + 1) w') := Lib.hid (by have h := HR.out; rw [q8] at h; exact h)
                              clear HR
                              simp [putAll]
                              go_wp2
                              refine wp_region_free10 14 (by kernel_rfl) [some 214, some 215, some 216, some 217, some 218, some 219, some 220, some 221, some 222, some 223, some 224, some 225, none, some 226, none] [[], [0], [], [], [3], [], [], [6], [], [7, 8], [9], [1, 2, 0, 1, 2, 10], [11, 0, 1, 2, 10], [4, 5, 0, 1, 2, 3, 4, 5, 6, 7, 8, 9, 10, 11, 12], [13, 10, 12, 0, 1, 2, 3, 4, 5, 6, 7, 8, 9, 10, 11, 12]] [(25, .pointer (some ⟨qy, 0, none⟩)), (26, .int .i64 (s : Int)), (10, .pointer (some ⟨qp, 0, none⟩))] (fun W _ => GI wC ga.S inn qx qy dx dq xi xc xr yc yr a1 a2 a3 (.slice (some ⟨sb, 0, none⟩) ga.S ga.S) (.slice A2 n2 c2) (.slice A3 n3 c3) (s + 1) W) (c43Phi ga.S qy yc yr s qp 2 r1) (fun _ _ _ => True) (by kernel_rfl) (by kernel_rfl) rfl (by kernel_rfl) ?_ ?_ ⟨fun _ => 0, HG2.out.next (Below.refl _ _).drew, fun i _ => trivial⟩ ?_ ?_
                              · intro z hz
                                simp only [List.mem_cons, List.mem_nil_iff, or_false] at hz
                                rcases hz with rfl | rfl | rfl
                                all_goals exact ⟨by kernel_rfl, rfl⟩
                              · intro i v W γ hi h
                                rcases i with _ | _ | _ | _ | _ | _ | _ | _ | _ | _ | _ | _ | _ | _ | _ | i
                                all_goals first | exact h | (simp at hi)
                              · refine ⟨?_, ?_, ?_, ?_, ?_, ?_, ?_, ?_, ?_, ?_, ?_, ?_, ?_, ?_, ?_, trivial⟩
                                all_goals
                                  intro a9 W γ ev hcc hff hfx hR hψ hpre
                                  simp only [List.mem_cons, List.mem_nil_iff, or_false, forall_eq, forall_eq_or_imp] at hfx
                                  obtain ⟨f0, f1, f2⟩ := hfx
                                  have HR := Lib.hid hR
                                  clear hR
                                · refine ⟨fun hg K hK => ?_, trivial⟩
                                  clear hg
                                  clear hpre hψ
                                  go_simp
                                  exact hK _ _ γ HR.out (fun _ _ _ _ h => h) (fun _ _ _ h => h) rfl
                                · refine ⟨fun hg K hK => ?_, trivial⟩
                                  clear hg
                                  have q0 : ev (.tmp 214) = _ := hpre 0 (by decide)
                                  have hbk := HR.out.by_
                                  have hzg := hbk.lt
                                  have e1 := hbk.cell 1
                                  simp only [List.getElem?_toArray, List.getElem?_cons_zero, List.getElem?_cons_succ] at e1
                                  clear hbk
                                  clear hpre hψ
                                  go_simp
                                  exact hK _ _ γ HR.out (fun _ _ _ _ h => h) (fun _ _ _ h => h) rfl
                                · refine ⟨fun hg K hK => ?_, trivial⟩
                                  clear hg
                                  clear hpre hψ
                                  go_simp
                                  exact hK _ _ γ HR.out (fun _ _ _ _ h => h) (fun _ _ _ h => h) rfl
                                · refine ⟨fun hg K hK => ?_, trivial⟩
                                  clear hg
                                  clear hpre hψ
                                  go_simp
                                  exact hK _ _ γ HR.out (fun _ _ _ _ h => h) (fun _ _ _ h => h) rfl
                                · refine ⟨fun hg K hK => ?_, trivial⟩
                                  clear hg
                                  have q0 : ev (.tmp 217) = _ := hpre 3 (by decide)
                                  have hbk := HR.out.by_
                                  have hzg := hbk.lt
                                  have e2 := hbk.cell 2
                                  simp only [List.getElem?_toArray, List.getElem?_cons_zero, List.getElem?_cons_succ] at e2
                                  clear hbk
                                  clear hpre hψ
                                  go_simp
                                  exact hK _ _ γ HR.out (fun _ _ _ _ h => h) (fun _ _ _ h => h) rfl
                                · refine ⟨fun hg K hK => ?_, trivial⟩
                                  clear hg
                                  clear hpre hψ
                                  go_simp
                                  exact hK _ _ γ HR.out (fun _ _ _ _ h => h) (fun _ _ _ h => h) rfl
                                · refine ⟨fun hg K hK => ?_, trivial⟩
                                  clear hg
                                  clear hpre hψ
                                  go_simp
                                  exact hK _ _ γ HR.out (fun _ _ _ _ h => h) (fun _ _ _ h => h) rfl
                                · refine ⟨fun hg K hK => ?_, trivial⟩
                                  clear hg
                                  have q0 : ev (.tmp 220) = _ := hpre 6 (by decide)
                                  have hbk := HQC.out.below HR.out.low HQC.out.lt
                                  have hzg := hbk.lt
                                  have e2 := hbk.cell 2
                                  simp only [List.getElem?_toArray, List.getElem?_cons_zero, List.getElem?_cons_succ] at e2
                                  clear hbk
                                  clear hpre hψ
                                  go_simp
                                  exact hK _ _ γ HR.out (fun _ _ _ _ h => h) (fun _ _ _ h => h) rfl
                                · refine ⟨fun hg K hK => ?_, trivial⟩
                                  clear hg
                                  clear hpre hψ
                                  go_simp
                                  exact hK _ _ γ HR.out (fun _ _ _ _ h => h) (fun _ _ _ h => h) rfl
                                · refine ⟨fun hg K hK => ?_, trivial⟩
                                  clear hg
                                  have q0 : ev (.tmp 221) = _ := hpre 7 (by decide)
                                  have q1 : ev (.tmp 222) = _ := hpre 8 (by decide)
                                  clear hpre hψ
                                  go_simp
                                  exact hK _ _ γ HR.out (fun _ _ _ _ h => h) (fun _ _ _ h => h) rfl
                                · refine ⟨fun hg K hK => ?_, trivial⟩
                                  clear hg
                                  have q0 : ev (.tmp 223) = _ := hpre 9 (by decide)
                                  obtain ⟨b8, o8, y8, e8, hb8, hx8, hc8⟩ := (HRC.out.next HR.out.low).at_ hlt
                                  obtain ⟨rfl, rfl⟩ : b8 = r1 ∧ o8 = 0 := by simpa [eq_comm] using e8
                                  have cb9 := cellI hc8
                                  rw [Nat.zero_add] at cb9
                                  have zb9 := block_of_cell cb9
                                  dsimp only at zb9
                                  clear hpre hψ hx8 hc8 e8 hb8
                                  go_simp
                                  exact hK _ _ γ HR.out (fun _ _ _ _ h => h) (fun _ _ _ h => h) ⟨y8, rfl⟩
                                · refine ⟨fun hg K hK => ?_, trivial⟩
                                  clear hg
                                  have q0 : ev (.tmp 215) = _ := hpre 1 (by decide)
                                  have q1 : ev (.tmp 216) = _ := hpre 2 (by decide)
                                  clear hpre hψ
                                  go_simp
                                  exact hK _ _ γ HR.out (fun _ _ _ _ h => h) (fun _ _ _ h => h) rfl
                                · refine ⟨fun hg K hK => ?_, trivial⟩
                                  clear hg
                                  have q0 : ev (.tmp 225) = _ := hpre 11 (by decide)
                                  obtain ⟨zb9, fb9, y9, cb9⟩ := (HR.out.rows yc (Or.inr (Or.inr (Or.inl rfl)))).at_ hlt
                                  have HR9 := HR
                                  clear hpre hψ
                                  go_simp
                                  exact hK undef _ γ (HR9.out.store (Or.inr (Or.inr (Or.inl rfl))) HBD.out.2.2.2.1 hlt HII.out) (fun j u _ _ h => c43Phi_w h) (fun _ _ _ h => h) trivial
                                · refine ⟨fun hg K hK => ?_, trivial⟩
                                  clear hg
                                  have q0 : ev (.tmp 218) = _ := hpre 4 (by decide)
                                  have q1 : ev (.tmp 219) = _ := hpre 5 (by decide)
                                  clear hpre hψ
                                  go_simp
                                  exact hK _ _ γ HR.out (fun _ _ _ _ h => h) (fun _ _ _ h => h) rfl
                                · refine ⟨fun hg K hK => ?_, trivial⟩
                                  clear hg
                                  have q0 : ev (.tmp 226) = _ := hpre 13 (by decide)
                                  obtain ⟨y10, q10⟩ := hpre 10 (by decide)
                                  replace q10 : ev (.tmp 224) = _ := q10
                                  obtain ⟨zb9, fb9, y9, cb9⟩ := (HR.out.rows yr (Or.inr (Or.inr (Or.inr rfl)))).at_ hlt
                                  have HR9 := HR
                                  clear hpre hψ
                                  go_simp
                                  exact hK undef _ γ (HR9.out.store (Or.inr (Or.inr (Or.inr rfl))) HBD.out.2.2.2.2 hlt HII.out) (fun j u _ _ h => c43Phi_w h) (fun h => absurd rfl h) trivial
                              · intro vs wu3 γ hvl hR hφ
                                have HR := Lib.hid hR
                                clear hφ hR
                                match vs, hvl with
                                | [v3_0, v3_1, v3_2, v3_3, v3_4, v3_5, v3_6, v3_7, v3_8, v3_9, v3_10, v3_11, v3_12, v3_13, v3_14], _ =>
                                have HG3 : Hid (GI wC ga.S inn qx qy dx dq xi xc xr yc yr a1 a2 a3 (.slice (some ⟨sb, 0, none⟩) ga.S ga.S) (.slice A2 n2 c2) (.slice A3 n3 c3) (s + 1) wu3) := Lib.hid HR.out
                                have HOV := HSC.out.next HG3.out.low
                                obtain ⟨ov, _, cs⟩ := HOV.at_ hlt
                                have zs := HOV.blk.lt
                                clear HR HOV
                                simp [putAll]
                                cases ov
                                · go_wp2
                                  go_roundw
                                  case rel => exact ⟨s + 1, by omega, by go_num, HG3⟩
                                  case measure => simp [intOf]; omega
                                · go_wp2
                                  refine wp_region_free10 14 (by kernel_rfl) [some 231, some 232, some 233, some 234, some 235, some 236, some 237, some 238, some 239, some 240, some 241, some 242, none, some 243, none] [[], [0], [], [], [3], [], [], [6], [], [7, 8], [9], [1, 2, 0, 1, 2, 6, 7, 8, 9, 10], [11, 10, 0, 1, 2, 6, 7, 8, 9, 10], [4, 5, 0, 1, 2, 3, 4, 5, 6, 7, 8, 9, 10, 11, 12], [13, 12, 0, 1, 2, 3, 4, 5, 6, 7, 8, 9, 10, 11, 12]] [(25, .pointer (some ⟨qy, 0, none⟩)), (26, .int .i64 (s : Int)), (10, .pointer (some ⟨qp, 0, none⟩))] (fun W _ => GI wC ga.S inn qx qy dx dq xi xc xr yc yr a1 a2 a3 (.slice (some ⟨sb, 0, none⟩) ga.S ga.S) (.slice A2 n2 c2) (.slice A3 n3 c3) (s + 1) W) (c43Phi ga.S qy yc yr s qp 1 ff) (fun _ _ _ => True) (by kernel_rfl) (by kernel_rfl) rfl (by kernel_rfl) ?_ ?_ ⟨fun _ => 0, HG3.out.next (Below.refl _ _).drew, fun i _ => trivial⟩ ?_ ?_
                                  · intro z hz
                                    simp only [List.mem_cons, List.mem_nil_iff, or_false] at hz
                                    rcases hz with rfl | rfl | rfl
                                    all_goals exact ⟨by kernel_rfl, rfl⟩
                                  · intro i v W γ hi h
                                    rcases i with _ | _ | _ | _ | _ | _ | _ | _ | _ | _ | _ | _ | _ | _ | _ | i
                                    all_goals first | exact h | (simp at hi)
                                  · refine ⟨?_, ?_, ?_, ?_, ?_, ?_, ?_, ?_, ?_, ?_, ?_, ?_, ?_, ?_, ?_, trivial⟩
                                    all_goals
                                      intro a9 W γ ev hcc hff hfx hR hψ hpre
                                      simp only [List.mem_cons, List.mem_nil_iff, or_false, forall_eq, forall_eq_or_imp] at hfx
                                      obtain ⟨f0, f1, f2⟩ := hfx
                                      have HR := Lib.hid hR
                                      clear hR
                                    · refine ⟨fun hg K hK => ?_, trivial⟩
                                      clear hg
                                      clear hpre hψ
                                      go_simp
                                      exact hK _ _ γ HR.out (fun _ _ _ _ h => h) (fun _ _ _ h => h) rfl
                                    · refine ⟨fun hg K hK => ?_, trivial⟩
                                      clear hg
                                      have q0 : ev (.tmp 231) = _ := hpre 0 (by decide)
                                      have hbk := HR.out.by_
                                      have hzg := hbk.lt
                                      have e1 := hbk.cell 1
                                      simp only [List.getElem?_toArray, List.getElem?_cons_zero, List.getElem?_cons_succ] at e1
                                      clear hbk
                                      clear hpre hψ
                                      go_simp
                                      exact hK _ _ γ HR.out (fun _ _ _ _ h => h) (fun _ _ _ h => h) rfl
                                    · refine ⟨fun hg K hK => ?_, trivial⟩
                                      clear hg
                                      clear hpre hψ
                                      go_simp
                                      exact hK _ _ γ HR.out (fun _ _ _ _ h => h) (fun _ _ _ h => h) rfl
                                    · refine ⟨fun hg K hK => ?_, trivial⟩
                                      clear hg
                                      clear hpre hψ
                                      go_simp
                                      exact hK _ _ γ HR.out (fun _ _ _ _ h => h) (fun _ _ _ h => h) rfl
                                    · refine ⟨fun hg K hK => ?_, trivial⟩
                                      clear hg
                                      have q0 : ev (.tmp 234) = _ := hpre 3 (by decide)
                                      have hbk := HR.out.by_
                                      have hzg := hbk.lt
                                      have e2 := hbk.cell 2
                                      simp only [List.getElem?_toArray, List.getElem?_cons_zero, List.getElem?_cons_succ] at e2
                                      clear hbk
                                      clear hpre hψ
                                      go_simp
                                      exact hK _ _ γ HR.out (fun _ _ _ _ h => h) (fun _ _ _ h => h) rfl
                                    · refine ⟨fun hg K hK => ?_, trivial⟩
                                      clear hg
                                      clear hpre hψ
                                      go_simp
                                      exact hK _ _ γ HR.out (fun _ _ _ _ h => h) (fun _ _ _ h => h) rfl
                                    · refine ⟨fun hg K hK => ?_, trivial⟩
                                      clear hg
                                      clear hpre hψ
                                      go_simp
                                      exact hK _ _ γ HR.out (fun _ _ _ _ h => h) (fun _ _ _ h => h) rfl
                                    · refine ⟨fun hg K hK => ?_, trivial⟩
                                      clear hg
                                      have q0 : ev (.tmp 237) = _ := hpre 6 (by decide)
                                      have hbk := HQC.out.below HR.out.low HQC.out.lt
                                      have hzg := hbk.lt
                                      have e1 := hbk.cell 1
                                      simp only [List.getElem?_toArray, List.getElem?_cons_zero, List.getElem?_cons_succ] at e1
                                      clear hbk
                                      clear hpre hψ
                                      go_simp
                                      exact hK _ _ γ HR.out (fun _ _ _ _ h => h) (fun _ _ _ h => h) rfl
                                    · refine ⟨fun hg K hK => ?_, trivial⟩
                                      clear hg
                                      clear hpre hψ
                                      go_simp
                                      exact hK _ _ γ HR.out (fun _ _ _ _ h => h) (fun _ _ _ h => h) rfl
                                    · refine ⟨fun hg K hK => ?_, trivial⟩
                                      clear hg
                                      have q0 : ev (.tmp 238) = _ := hpre 7 (by decide)
                                      have q1 : ev (.tmp 239) = _ := hpre 8 (by decide)
                                      clear hpre hψ
                                      go_simp
                                      exact hK _ _ γ HR.out (fun _ _ _ _ h => h) (fun _ _ _ h => h) rfl
                                    · refine ⟨fun hg K hK => ?_, trivial⟩
                                      clear hg
                                      have q0 : ev (.tmp 240) = _ := hpre 9 (by decide)
                                      obtain ⟨b8, o8, y8, e8, hb8, hx8, hc8⟩ := (HFC.out.next HR.out.low).at_ hlt
                                      obtain ⟨rfl, rfl⟩ : b8 = ff ∧ o8 = 0 := by simpa [eq_comm] using e8
                                      have cb9 := cellI hc8
                                      rw [Nat.zero_add] at cb9
                                      have zb9 := block_of_cell cb9
                                      dsimp only at zb9
                                      clear hpre hψ hx8 hc8 e8 hb8
                                      go_simp
                                      exact hK _ _ γ HR.out (fun _ _ _ _ h => h) (fun _ _ _ h => h) ⟨y8, rfl⟩
                                    · refine ⟨fun hg K hK => ?_, trivial⟩
                                      clear hg
                                      have q0 : ev (.tmp 232) = _ := hpre 1 (by decide)
                                      have q1 : ev (.tmp 233) = _ := hpre 2 (by decide)
                                      clear hpre hψ
                                      go_simp
                                      exact hK _ _ γ HR.out (fun _ _ _ _ h => h) (fun _ _ _ h => h) rfl
                                    · refine ⟨fun hg K hK => ?_, trivial⟩
                                      clear hg
                                      have q0 : ev (.tmp 242) = _ := hpre 11 (by decide)
                                      obtain ⟨y10, q10⟩ := hpre 10 (by decide)
                                      replace q10 : ev (.tmp 241) = _ := q10
                                      obtain ⟨zb9, fb9, y9, cb9⟩ := (HR.out.rows yc (Or.inr (Or.inr (Or.inl rfl)))).at_ hlt
                                      have HR9 := HR
                                      clear hpre hψ
                                      go_simp
                                      exact hK undef _ γ (HR9.out.store (Or.inr (Or.inr (Or.inl rfl))) HBD.out.2.2.2.1 hlt HII.out) (fun j u _ _ h => c43Phi_w h) (fun _ _ _ h => h) trivial
                                    · refine ⟨fun hg K hK => ?_, trivial⟩
                                      clear hg
                                      have q0 : ev (.tmp 235) = _ := hpre 4 (by decide)
                                      have q1 : ev (.tmp 236) = _ := hpre 5 (by decide)
                                      clear hpre hψ
                                      go_simp
                                      exact hK _ _ γ HR.out (fun _ _ _ _ h => h) (fun _ _ _ h => h) rfl
                                    · refine ⟨fun hg K hK => ?_, trivial⟩
                                      clear hg
                                      have q0 : ev (.tmp 243) = _ := hpre 13 (by decide)
                                      obtain ⟨zb9, fb9, y9, cb9⟩ := (HR.out.rows yr (Or.inr (Or.inr (Or.inr rfl)))).at_ hlt
                                      have HR9 := HR
                                      clear hpre hψ
                                      go_simp
                                      exact hK undef _ γ (HR9.out.store (Or.inr (Or.inr (Or.inr rfl))) HBD.out.2.2.2.2 hlt HII.out) (fun j u _ _ h => c43Phi_w h) (fun h => absurd rfl h) trivial
                                  · intro vs wv3 γ hvl hR hφ
                                    have HR := Lib.hid hR
                                    clear hφ hR
                                    match vs, hvl with
                                    | [u3_0, u3_1, u3_2, u3_3, u3_4, u3_5, u3_6, u3_7, u3_8, u3_9, u3_10, u3_11, u3_12, u3_13, u3_14], _ =>
                                    have HGZ : Hid (GI wC ga.S inn qx qy dx dq xi xc xr yc yr a1 a2 a3 (.slice (some ⟨sb, 0, none⟩) ga.S ga.S) (.slice A2 n2 c2) (.slice A3 n3 c3) (s + 1) wv3) := Lib.hid HR.out
                                    clear HR
                                    simp [putAll]
                                    go_wp2
                                    go_roundw
                                    case rel => exact ⟨s + 1, by omega, by go_num, HGZ⟩
                                    case measure => simp [intOf]; omega
                        · obtain rfl : ga.S = s := by omega
                          obtain ⟨wD, hwD⟩ : ∃ z, z = wr := ⟨wr, rfl⟩
                          subst hwD
                          have hBl := HG.out.low
                          have B7 : Hid (Below wC.heap.size wC wD) := Lib.hid hBl
                          clear hBl HGI
                          obtain ⟨lc, _, hlc⟩ := (HG.out.rows xc (Or.inl rfl)).rd
                          obtain ⟨lr, _, hlr⟩ := (HG.out.rows xr (Or.inr (Or.inl rfl))).rd
                          obtain ⟨mc, _, hmc⟩ := (HG.out.rows yc (Or.inr (Or.inr (Or.inl rfl)))).rd
                          obtain ⟨mr, _, hmr⟩ := (HG.out.rows yr (Or.inr (Or.inr (Or.inr rfl)))).rd
                          have HXD := Lib.hid (And.intro (show Rd wD wD.heap.size 1 encB (some ⟨xi, 0, none⟩) ga.S inn from HG.out.xin.rd (fun _ => rfl) HLC.out.2) (And.intro hlc hlr))
                          have HYD := Lib.hid (And.intro (HSC.out.rd.next B7.out) (And.intro hmc hmr))
                          have HAD := Lib.hid (HA5.out.next' (below3 B5.out (below3 B6.out B7.out (Nat.le_refl _)) (Nat.le_refl _)))
                          have HQAD := Lib.hid (HQAC.out.below B7.out HQAC.out.lt)
                          have HQPD := Lib.hid (HQC.out.below B7.out HQC.out.lt)
                          have HID := Lib.hid (HIC.out.next B7.out)
                          have x0 := HG.out.bx.cell 0
                          have x1 := HG.out.bx.cell 1
                          have x2 := HG.out.bx.cell 2
                          have zx := HG.out.bx.lt
                          have y0 := HG.out.by_.cell 0
                          have y1 := HG.out.by_.cell 1
                          have y2 := HG.out.by_.cell 2
                          have zy := HG.out.by_.lt
                          simp only [List.getElem?_toArray, List.getElem?_cons_zero, List.getElem?_cons_succ] at x0 x1 x2 y0 y1 y2
                          clear hlc hlr hmc hmr
                          go_wp2_with fail
                          obtain ⟨zb, hzb⟩ : ∃ z, z = wD.heap.size := ⟨_, rfl⟩
                          obtain ⟨wE, hwE⟩ : ∃ z, z = wD.alloc (.cells #[.slice (some ⟨xi, 0, none⟩) ga.S a1, .slice (some ⟨xc, 0, none⟩) ga.S a2, .slice (some ⟨xr, 0, none⟩) ga.S a3, .slice (some ⟨sb, 0, none⟩) ga.S ga.S, .slice (some ⟨yc, 0, none⟩) ga.S ga.S, .slice (some ⟨yr, 0, none⟩) ga.S ga.S] 27) := ⟨_, rfl⟩
                          have ZB : Hid (Blk wE zb 27 #[.slice (some ⟨xi, 0, none⟩) ga.S a1, .slice (some ⟨xc, 0, none⟩) ga.S a2, .slice (some ⟨xr, 0, none⟩) ga.S a3, .slice (some ⟨sb, 0, none⟩) ga.S ga.S, .slice (some ⟨yc, 0, none⟩) ga.S ga.S, .slice (some ⟨yr, 0, none⟩) ga.S ga.S]) := Lib.hid (by rw [hwE, hzb]; exact heap_alloc_new wD _)
                          have SwE : Hid (wE.heap.size = zb + 1) := Lib.hid (by rw [hwE, hzb, World.size_alloc])
                          have Zzb : Hid (wD.heap.size ≤ zb) := Lib.hid (by rw [hzb]; exact Nat.le_refl _)
                          have hBn : Below wD.heap.size wD wE := by rw [hwE]; exact (Below.refl _ _).alloc (Nat.le_refl _) _
                          rw [← hwE, ← hzb]
                          have B8 : Hid (Below wD.heap.size wD wE) := Lib.hid hBn
                          clear hwE hzb hBn
                          clear x0 x1 x2 y0 y1 y2 zx zy
                          go_loopw [249] (fun i wr => ∃ k : Nat, k ≤ 2 ∧ i = .int .i64 k ∧ Hid (Below wE.heap.size wE wr)) (fun i _ => 2 - (intOf i).toNat)
                          case atStart => exact ⟨0, by omega, rfl, Lib.hid (Below.refl _ _)⟩
                          case round =>
                            obtain ⟨k, hk, rfl, HW⟩ := hrel
                            by_cases hlt : k < 2
                            · have hbk := ZB.out.below HW.out ZB.out.lt
                              have c0' := hbk.cell 0
                              have c1' := hbk.cell 1
                              have c2' := hbk.cell 2
                              have c3' := hbk.cell 3
                              have c4' := hbk.cell 4
                              have c5' := hbk.cell 5
                              have zc := hbk.lt
                              have hbk2 := (HQAD.out.below B8.out HQAD.out.lt).below HW.out (HQAD.out.below B8.out HQAD.out.lt).lt
                              have p0 := hbk2.cell 0
                              have p1 := hbk2.cell 1
                              have p2 := hbk2.cell 2
                              have p3 := hbk2.cell 3
                              have p4 := hbk2.cell 4
                              have zp := hbk2.lt
                              simp only [List.getElem?_toArray, List.getElem?_cons_zero, List.getElem?_cons_succ] at c0' c1' c2' c3' c4' c5' p0 p1 p2 p3 p4
                              clear hbk hbk2
                              have hBr := HW.out
                              have B9 : Hid (Below wE.heap.size wE wr) := Lib.hid hBr
                              clear hBr
                              have h01 : k = 0 ∨ k = 1 := by omega
                              rcases h01 with rfl | rfl
                              · skip
                                go_wp2_with fail
                                obtain ⟨zz, hzz⟩ : ∃ z, z = wr.heap.size := ⟨_, rfl⟩
                                obtain ⟨wF, hwF⟩ : ∃ z, z = wr.alloc (.cells #[.slice (some ⟨xi, 0, none⟩) ga.S a1, .slice (some ⟨xc, 0, none⟩) ga.S a2, .slice (some ⟨xr, 0, none⟩) ga.S a3] 27) := ⟨_, rfl⟩
                                have ZZ : Hid (Blk wF zz 27 #[.slice (some ⟨xi, 0, none⟩) ga.S a1, .slice (some ⟨xc, 0, none⟩) ga.S a2, .slice (some ⟨xr, 0, none⟩) ga.S a3]) := Lib.hid (by rw [hwF, hzz]; exact heap_alloc_new wr _)
                                have SwF : Hid (wF.heap.size = zz + 1) := Lib.hid (by rw [hwF, hzz, World.size_alloc])
                                have Zzz : Hid (wr.heap.size ≤ zz) := Lib.hid (by rw [hzz]; exact Nat.le_refl _)
                                have hBn : Below wr.heap.size wr wF := by rw [hwF]; exact (Below.refl _ _).alloc (Nat.le_refl _) _
                                rw [← hwF, ← hzz]
                                have B10 : Hid (Below wr.heap.size wr wF) := Lib.hid hBn
                                clear hwF hzz hBn
                                have KV := Lib.hid (Verify_any aN an ac ab 0 ag xi 0 a1 xc 0 a2 xr 0 a3 ga inn lc lr wF (HAD.out.next' (below3 (below3 B8.out B9.out (Nat.le_refl _)) B10.out (Nat.le_refl _))) OA.out (HXD.out.1.next (below3 (below3 B8.out B9.out (Nat.le_refl _)) B10.out (Nat.le_refl _))) (HXD.out.2.1.next (below3 (below3 B8.out B9.out (Nat.le_refl _)) B10.out (Nat.le_refl _))) (HXD.out.2.2.next (below3 (below3 B8.out B9.out (Nat.le_refl _)) B10.out (Nat.le_refl _))))
                                obtain ⟨q, hq⟩ : ∃ z, z = rightB ga inn lc lr := ⟨_, rfl⟩
                                have HQ := Lib.hid hq
                                rw [← hq] at KV
                                clear hq
                                refine (KV.out).mono ?_
                                rintro e wG ⟨rfl, hB⟩
                                have B11 : Hid (Below wF.heap.size wF wG) := Lib.hid hB
                                clear hB
                                clear KV p0 p1 p2 p3 p4 zp c0' c1' c2' c3' c4' c5' zc
                                cases q
                                · simp only [show verifyN false = 7 from rfl]
                                  go_wp2
                                  go_roundw
                                  case rel => exact ⟨1, by omega, by go_num, Lib.hid (below3 (below3 B9.out B10.out (Nat.le_refl _)) B11.out (Nat.le_refl _))⟩
                                  case measure => first | (simp [intOf]; done) | (simp [intOf]; omega)
                                · simp only [show verifyN true = 0 from rfl]
                                  skip
                                  have hbk := HQPD.out.below (below3 (below3 (below3 B8.out B9.out (Nat.le_refl _)) B10.out (Nat.le_refl _)) B11.out (Nat.le_refl _)) HQPD.out.lt
                                  have o0 := hbk.cell 0
                                  simp only [List.getElem?_toArray, List.getElem?_cons_zero, List.getElem?_cons_succ] at o0
                                  have zo := hbk.lt
                                  clear hbk
                                  have hbk := ZZ.out.below B11.out ZZ.out.lt
                                  have c0 := hbk.cell 0
                                  simp only [List.getElem?_toArray, List.getElem?_cons_zero, List.getElem?_cons_succ] at c0
                                  have zc := hbk.lt
                                  clear hbk
                                  go_wp2_with fail
                                  refine (EqualB_yes (some ⟨xi, 0, none⟩) (some ⟨i1, 0, none⟩) ga.S a1 d1 inn wG (HXD.out.1.next (below3 (below3 (below3 B8.out B9.out (Nat.le_refl _)) B10.out (Nat.le_refl _)) B11.out (Nat.le_refl _))) (HID.out.next (below3 (below3 (below3 B8.out B9.out (Nat.le_refl _)) B10.out (Nat.le_refl _)) B11.out (Nat.le_refl _))) (by omega)).mono ?_
                                  rintro e wH ⟨rfl, hB⟩
                                  have B12 : Hid (Below wG.heap.size wG wH) := Lib.hid hB
                                  clear hB
                                  clear o0 zo c0 zc
                                  go_wp2
                                  go_roundw
                                  case rel => exact ⟨1, by omega, by go_num, Lib.hid (below3 (below3 (below3 B9.out B10.out (Nat.le_refl _)) B11.out (Nat.le_refl _)) B12.out (Nat.le_refl _))⟩
                                  case measure => first | (simp [intOf]; done) | (simp [intOf]; omega)
                              · skip
                                go_wp2_with fail
                                obtain ⟨zz, hzz⟩ : ∃ z, z = wr.heap.size := ⟨_, rfl⟩
                                obtain ⟨wF, hwF⟩ : ∃ z, z = wr.alloc (.cells #[.slice (some ⟨sb, 0, none⟩) ga.S ga.S, .slice (some ⟨yc, 0, none⟩) ga.S ga.S, .slice (some ⟨yr, 0, none⟩) ga.S ga.S] 27) := ⟨_, rfl⟩
                                have ZZ : Hid (Blk wF zz 27 #[.slice (some ⟨sb, 0, none⟩) ga.S ga.S, .slice (some ⟨yc, 0, none⟩) ga.S ga.S, .slice (some ⟨yr, 0, none⟩) ga.S ga.S]) := Lib.hid (by rw [hwF, hzz]; exact heap_alloc_new wr _)
                                have SwF : Hid (wF.heap.size = zz + 1) := Lib.hid (by rw [hwF, hzz, World.size_alloc])
                                have Zzz : Hid (wr.heap.size ≤ zz) := Lib.hid (by rw [hzz]; exact Nat.le_refl _)
                                have hBn : Below wr.heap.size wr wF := by rw [hwF]; exact (Below.refl _ _).alloc (Nat.le_refl _) _
                                rw [← hwF, ← hzz]
                                have B10 : Hid (Below wr.heap.size wr wF) := Lib.hid hBn
                                clear hwF hzz hBn
                                have KV := Lib.hid (Verify_any aN an ac ab 0 ag sb 0 ga.S yc 0 ga.S yr 0 ga.S ga L0 mc mr wF (HAD.out.next' (below3 (below3 B8.out B9.out (Nat.le_refl _)) B10.out (Nat.le_refl _))) OA.out (HYD.out.1.next (below3 (below3 B8.out B9.out (Nat.le_refl _)) B10.out (Nat.le_refl _))) (HYD.out.2.1.next (below3 (below3 B8.out B9.out (Nat.le_refl _)) B10.out (Nat.le_refl _))) (HYD.out.2.2.next (below3 (below3 B8.out B9.out (Nat.le_refl _)) B10.out (Nat.le_refl _))))
                                obtain ⟨q, hq⟩ : ∃ z, z = rightB ga L0 mc mr := ⟨_, rfl⟩
                                have HQ := Lib.hid hq
                                rw [← hq] at KV
                                clear hq
                                refine (KV.out).mono ?_
                                rintro e wG ⟨rfl, hB⟩
                                have B11 : Hid (Below wF.heap.size wF wG) := Lib.hid hB
                                clear hB
                                clear KV p0 p1 p2 p3 p4 zp c0' c1' c2' c3' c4' c5' zc
                                cases q
                                · simp only [show verifyN false = 7 from rfl]
                                  go_wp2
                                  go_roundw
                                  case rel => exact ⟨2, by omega, by go_num, Lib.hid (below3 (below3 B9.out B10.out (Nat.le_refl _)) B11.out (Nat.le_refl _))⟩
                                  case measure => first | (simp [intOf]; done) | (simp [intOf]; omega)
                                · simp only [show verifyN true = 0 from rfl]
                                  have heq : L0 = inn := list_getD HLC.out.1 HLC.out.2 (fun s hs => by rw [right_safe OA.out HQ.out.symm S1.out s hs, HIN.out])
                                  have hbk := HQPD.out.below (below3 (below3 (below3 B8.out B9.out (Nat.le_refl _)) B10.out (Nat.le_refl _)) B11.out (Nat.le_refl _)) HQPD.out.lt
                                  have o0 := hbk.cell 0
                                  simp only [List.getElem?_toArray, List.getElem?_cons_zero, List.getElem?_cons_succ] at o0
                                  have zo := hbk.lt
                                  clear hbk
                                  have hbk := ZZ.out.below B11.out ZZ.out.lt
                                  have c0 := hbk.cell 0
                                  simp only [List.getElem?_toArray, List.getElem?_cons_zero, List.getElem?_cons_succ] at c0
                                  have zc := hbk.lt
                                  clear hbk
                                  go_wp2_with fail
                                  refine (EqualB_yes (some ⟨sb, 0, none⟩) (some ⟨i1, 0, none⟩) ga.S ga.S d1 inn wG ((show Rd wD wD.heap.size 1 encB (some ⟨sb, 0, none⟩) ga.S inn from by rw [← heq]; exact HYD.out.1).next (below3 (below3 (below3 B8.out B9.out (Nat.le_refl _)) B10.out (Nat.le_refl _)) B11.out (Nat.le_refl _))) (HID.out.next (below3 (below3 (below3 B8.out B9.out (Nat.le_refl _)) B10.out (Nat.le_refl _)) B11.out (Nat.le_refl _))) (by omega)).mono ?_
                                  rintro e wH ⟨rfl, hB⟩
                                  have B12 : Hid (Below wG.heap.size wG wH) := Lib.hid hB
                                  clear hB
                                  clear o0 zo c0 zc
                                  go_wp2
                                  go_roundw
                                  case rel => exact ⟨2, by omega, by go_num, Lib.hid (below3 (below3 (below3 B9.out B10.out (Nat.le_refl _)) B11.out (Nat.le_refl _)) B12.out (Nat.le_refl _))⟩
                                  case measure => first | (simp [intOf]; done) | (simp [intOf]; omega)
                            · obtain rfl : k = 2 := by omega
                              have hBr := HW.out
                              have B9 : Hid (Below wE.heap.size wE wr) := Lib.hid hBr
                              clear hBr
                              go_wp2_with fail
                              refine (KA.out _).mono ?_
                              rintro e w90 ⟨rfl, hB⟩
                              have B10 : Hid (Below wr.heap.size wr w90) := Lib.hid hB
                              clear hB
                              go_wp2
                              go_ret
                              exact ⟨rfl, (below3 (below3 (below3 (below3 (below3 (below3 (below3 (below3 (below3 (below3 B0.out B1.out (Nat.le_refl _)) B2.out (Nat.le_refl _)) B3.out (Nat.le_refl _)) B4.out (Nat.le_refl _)) B5.out (Nat.le_refl _)) B6.out (Nat.le_refl _)) B7.out (Nat.le_refl _)) B8.out (Nat.le_refl _)) B9.out (Nat.le_refl _)) B10.out (Nat.le_refl _))⟩
            · go_wp2
              go_loopw [17, 122] (fun v i wr => ∃ (t : Nat) (ag : Bool) (L1 : List Bool), t ≤ ga.S ∧ v = .bool ag ∧ i = .int .i64 t ∧ Hid (SetI wA sb ga.S L1 wr ∧ AllG ga L1 ∧ (ag = false → L1 = L0 ∧ ∀ t' < t, L0.getD t' false = true → exB ga L0 t' = true) ∧ (ag = true → L1.count true < L0.count true))) (fun _ i _ => ga.S - (intOf i).toNat)
              case atStart => exact ⟨0, false, L0, by omega, rfl, rfl, Lib.hid ⟨HLO.out.1, HLO.out.2.1, fun _ => ⟨rfl, fun t' h => absurd h (by omega)⟩, fun h => (by cases h)⟩⟩
              case round =>
                obtain ⟨t, ag, L1, ht, rfl, rfl, HL1⟩ := hrel
                by_cases hlt : t < ga.S
                · obtain ⟨ov, hov, cs⟩ := HL1.out.1.at_ hlt
                  have zs := HL1.out.1.blk.lt
                  have fs := HL1.out.1.blk.frozen
                  have hk0 : (0 : Int) ≤ (t : Int) := by omega
                  have hkn : (t : Int) < (ga.S : Int) := by omega
                  have hgv : L1.getD t false = ov := by rw [List.getD_eq_getElem?_getD, hov]; rfl
                  have HGV := Lib.hid hgv
                  clear hov hgv
                  cases ov
                  · go_wp2
                    go_roundw
                    case rel => exact ⟨t + 1, ag, L1, by omega, rfl, by go_num, Lib.hid ⟨HL1.out.1, HL1.out.2.1, fun e => ⟨(HL1.out.2.2.1 e).1, fun t' h hi => by
                      rcases Nat.lt_succ_iff_lt_or_eq.1 h with h | h
                      · exact (HL1.out.2.2.1 e).2 t' h hi
                      · subst h
                        rw [← (HL1.out.2.2.1 e).1, HGV.out] at hi
                        cases hi⟩, HL1.out.2.2.2⟩⟩
                    case measure => simp [intOf]; omega
                  · have K := Lib.hid (KK.out t wr (below3 B5.out HL1.out.1.low (Nat.le_refl _)) hlt L1 sb ga.S HL1.out.1.rd)
                    obtain ⟨eb, heb⟩ : ∃ z, z = exB ga L1 t := ⟨_, rfl⟩
                    have HEB := Lib.hid heb
                    rw [← heb] at K
                    clear heb
                    go_wp2_with fail
                    refine K.out.mono ?_
                    rintro e w6 ⟨rfl, hB6⟩
                    have HN := Lib.hid (HL1.out.1.next hB6)
                    clear hB6 cs zs fs
                    cases eb
                    · obtain ⟨ov2, hov2, cs⟩ := HN.out.at_ hlt
                      have zs := HN.out.blk.lt
                      have fs := HN.out.blk.frozen
                      clear hov2
                      go_wp2
                      go_roundw
                      case rel => exact ⟨t + 1, true, L1.set t false, by omega, rfl, by go_num, Lib.hid ⟨HN.out.set HSB.out t false, HL1.out.2.1.set (fun h => (by cases h)), fun h => (by cases h), fun _ => by
                        have h1 := cnt_set L1 t
                        have h2 := h1.2 HGV.out
                        cases ag
                        · rw [← (HL1.out.2.2.1 rfl).1]; exact h2
                        · exact Nat.lt_trans h2 (HL1.out.2.2.2 rfl)⟩⟩
                      case measure => simp [intOf]; omega
                    · go_wp2
                      go_roundw
                      case rel => exact ⟨t + 1, ag, L1, by omega, rfl, by go_num, Lib.hid ⟨HN.out, HL1.out.2.1, fun e => ⟨(HL1.out.2.2.1 e).1, fun t' h hi => by
                        rcases Nat.lt_succ_iff_lt_or_eq.1 h with h | h
                        · exact (HL1.out.2.2.1 e).2 t' h hi
                        · subst h
                          rw [← (HL1.out.2.2.1 e).1]
                          exact HEB.out.symm⟩, HL1.out.2.2.2⟩⟩
                      case measure => simp [intOf]; omega
                · obtain rfl : ga.S = t := by omega
                  have HM : Hid (2 * onW sb wr + againN (.bool ag) < 2 * onW sb wo + againN (.bool true)) := Lib.hid (by
                    rw [onW_eq HL1.out.1.blk, onW_eq HLO.out.1.blk]
                    cases ag
                    · rw [(HL1.out.2.2.1 rfl).1]
                      show 2 * _ + 0 < 2 * _ + 1
                      omega
                    · have := HL1.out.2.2.2 rfl
                      omega)
                  go_wp2
                  go_roundw
                  case rel => exact ⟨ag, rfl, L1, Lib.hid ⟨HL1.out.1, HL1.out.2.1, fun e => by
                    obtain ⟨e1, e2⟩ := HL1.out.2.2.1 e
                    rw [e1]
                    exact e2⟩⟩
                  case measure => exact HM.out
end Go.Proofs.Ytalngalikblgkaa
