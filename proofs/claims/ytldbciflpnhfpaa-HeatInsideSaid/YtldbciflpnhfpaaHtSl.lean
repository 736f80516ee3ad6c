/- heat: Settle. -/
import Derived.Test.YtldbciflpnhfpaaHtIb
import Derived.Test.YtldbciflpnhfpaaFreeB
import Derived.Test.YtldbciflpnhfpaaHtM
import Derived.Test.YtldbciflpnhfpaaHtV

set_option linter.unusedSimpArgs false
set_option linter.unusedVariables false
namespace Go.Proofs.Ytldbciflpnhfpaa
open Go.RowKit Go.Shelf
attribute [local go_sem] Oper.semAt_some

theorem always_any (c0 c1 c2 : Value) (cnt : Int) (w : World) :
    Calls Try.prog 44 #[.agg #[c0, c1, c2], .int .i64 cnt] w fun e w' => ∃ nB cB, e = .returned (.func (.func 70) #[] #[.pointer (some ⟨nB, 0, none⟩), .pointer (some ⟨cB, 0, none⟩)]) ∧ Blk w' nB 3 #[.int .i64 cnt] ∧ Blk w' cB 35 #[c0, c1, c2] ∧ w.heap.size ≤ nB ∧ w.heap.size ≤ cB ∧ Below w.heap.size w w' :=
  (callsIn_wide.1 (always_in Fence.wide 8 trivial rfl c0 c1 c2 cnt w)).mono (fun e w' ⟨he, hw⟩ => by
    refine ⟨_, _, he, ?_, ?_, by omega, Nat.le_refl _, ?_⟩
    · have e2 := heap_alloc_new (w.alloc (.cells #[c0, c1, c2] 35)) (.cells #[.int .i64 cnt] 3)
      rw [World.size_alloc] at e2
      rw [hw]; exact e2
    · rw [hw]; exact Blk.alloc (heap_alloc_new w _) _
    · rw [hw]; exact ((Below.refl _ _).alloc (Nat.le_refl _) _).alloc (by simp) _)
theorem seconds_any (h0 h1 h2 h3 : Value) (tA : Option Addr) (tn tc : Nat) (qf : Fn) (q1 q2 : Array Value) (w : World) :
    Calls Try.prog 40 #[.agg #[h0, h1, h2, h3], .slice tA tn tc, .func qf q1 q2] w fun e w' => ∃ tB qB hB, e = .returned (.func (.func 68) #[] #[.pointer (some ⟨tB, 0, none⟩), .pointer (some ⟨qB, 0, none⟩), .pointer (some ⟨hB, 0, none⟩)]) ∧ (Blk w' tB 30 #[.slice tA tn tc] ∧ Blk w' qB 97 #[.func qf q1 q2] ∧ Blk w' hB 28 #[h0, h1, h2, h3]) ∧ w.heap.size ≤ tB ∧ w.heap.size ≤ qB ∧ w.heap.size ≤ hB ∧ Below w.heap.size w w' :=
  (callsIn_wide.1 (seconds_in Fence.wide 8 trivial rfl h0 h1 h2 h3 tA tn tc qf q1 q2 w)).mono (fun e w' ⟨he, hw⟩ => by
    have e2 := heap_alloc_new (w.alloc (.cells #[h0, h1, h2, h3] 28)) (.cells #[.slice tA tn tc] 30)
    rw [World.size_alloc] at e2
    have e3 := heap_alloc_new ((w.alloc (.cells #[h0, h1, h2, h3] 28)).alloc (.cells #[.slice tA tn tc] 30)) (.cells #[.func qf q1 q2] 97)
    rw [World.size_alloc, World.size_alloc] at e3
    refine ⟨_, _, _, he, ⟨?_, ?_, ?_⟩, by omega, by omega, Nat.le_refl _, ?_⟩
    · rw [hw]; exact Blk.alloc e2 _
    · rw [hw]; exact e3
    · rw [hw]; exact Blk.alloc (Blk.alloc (heap_alloc_new w _) _) _
    · rw [hw]; exact (((Below.refl _ _).alloc (Nat.le_refl _) _).alloc (by simp) _).alloc (by simp; omega) _)
/-- What the iterators' boxes hold. -/
structure ItIn (W : World) (z : Nat) (hs : Array Value) (t0 : Value) (cs : Array Value) (cnt : Int) (tB qB hB nB cB : Nat) : Prop where
  t : Blk W tB 30 #[t0]
  q : Blk W qB 97 #[.func (.func 70) #[] #[.pointer (some ⟨nB, 0, none⟩), .pointer (some ⟨cB, 0, none⟩)]]
  h : Blk W hB 28 hs
  n : Blk W nB 3 #[.int .i64 cnt]
  c : Blk W cB 35 cs
  z1 : z ≤ tB
  z2 : z ≤ qB
  z3 : z ≤ hB
  z4 : z ≤ nB
  z5 : z ≤ cB
theorem ItIn.next {W W' : World} {z : Nat} {hs : Array Value} {t0 : Value} {cs : Array Value} {cnt : Int} {tB qB hB nB cB : Nat} (h : ItIn W z hs t0 cs cnt tB qB hB nB cB) (hb : Below W.heap.size W W') : ItIn W' z hs t0 cs cnt tB qB hB nB cB :=
  ⟨h.t.below hb h.t.lt, h.q.below hb h.q.lt, h.h.below hb h.h.lt, h.n.below hb h.n.lt, h.c.below hb h.c.lt, h.z1, h.z2, h.z3, h.z4, h.z5⟩
def settPhi (z : Nat) (hs : Array Value) (t0 : Value) (cs : Array Value) (cnt : Int) : Nat → Value → World → (Nat → Nat) → Prop
  | 0, v, _, _ => v = .agg hs
  | 1, v, _, _ => v = t0
  | 2, v, _, _ => v = .agg cs
  | 3, v, _, _ => v = .int .i64 cnt
  | 4, v, W, _ => ∃ nB cB, v = .func (.func 70) #[] #[.pointer (some ⟨nB, 0, none⟩), .pointer (some ⟨cB, 0, none⟩)] ∧ Blk W nB 3 #[.int .i64 cnt] ∧ Blk W cB 35 cs ∧ z ≤ nB ∧ z ≤ cB
  | 5, v, W, _ => ∃ tB qB hB nB cB, v = .func (.func 68) #[] #[.pointer (some ⟨tB, 0, none⟩), .pointer (some ⟨qB, 0, none⟩), .pointer (some ⟨hB, 0, none⟩)] ∧ ItIn W z hs t0 cs cnt tB qB hB nB cB
  | _, _, _, _ => True
theorem settPhi_next {z : Nat} {hs : Array Value} {t0 : Value} {cs : Array Value} {cnt : Int} {W W' : World} (hb : Below W.heap.size W W') (j : Nat) (v : Value) {γ : Nat → Nat} (h : settPhi z hs t0 cs cnt j v W γ) : settPhi z hs t0 cs cnt j v W' γ := by
  unfold settPhi at h ⊢
  split at h
  all_goals first | exact h | trivial | skip
  · obtain ⟨nB, cB, e, h1, h2, h3⟩ := h; exact ⟨nB, cB, e, h1.below hb h1.lt, h2.below hb h2.lt, h3⟩
  · obtain ⟨tB, qB, hB, nB, cB, e, hi⟩ := h; exact ⟨tB, qB, hB, nB, cB, e, hi.next hb⟩
/-- The boxes of the call while it goes through the seconds. -/
structure SlX (w0 : World) (rb nb eb b2 : Nat) (x0 x1 x2 : Value) (k : Int) (W : World) : Prop where
  r0 : Blk W rb 30 #[x0]
  r1 : Blk W nb 3 #[x1]
  r2 : Blk W eb 40 #[x2]
  n : Blk W b2 3 #[.int .i64 k]
  low : Below w0.heap.size w0 W
theorem SlX.own {w0 V V' : World} {rb nb eb b2 : Nat} {x0 x1 x2 : Value} {k : Int} {row : Option Nat} (h : SlX w0 rb nb eb b2 x0 x1 x2 k V) (hg : V.grownBy V' row) (hr : ∀ r, row = some r → w0.heap.size ≤ r ∧ r ≠ rb ∧ r ≠ nb ∧ r ≠ eb ∧ r ≠ b2) : SlX w0 rb nb eb b2 x0 x1 x2 k V' :=
  ⟨h.r0.kept hg (fun e => (hr _ e.symm).2.1 rfl), h.r1.kept hg (fun e => (hr _ e.symm).2.2.1 rfl), h.r2.kept hg (fun e => (hr _ e.symm).2.2.2.1 rfl), h.n.kept hg (fun e => (hr _ e.symm).2.2.2.2 rfl), h.low.grown hg h.low.size (fun r e => (hr r e).1)⟩
/-- The cells of a list stay. -/
theorem cells_own {V V' : World} {row : Option Nat} {b off : Nat} {L : List Int} (h : ∀ (i : Nat) (x : Int), L[i]? = some x → V.cell? ⟨b, off + i, none⟩ = some (.int .i64 x)) (hg : V.grownBy V' row) (hr : ∀ r, row = some r → r ≠ b ∨ ∃ o : Obj, V.heap[r]? = some o ∧ o.isCells = false) : ∀ (i : Nat) (x : Int), L[i]? = some x → V'.cell? ⟨b, off + i, none⟩ = some (.int .i64 x) := fun i x hx => by
  have hc := h i x hx
  refine (World.cell?_of_block (w := V) (hg.block b (block_of_cell hc) (fun e => ?_))).trans hc
  rcases hr b e.symm with h9 | ⟨o, ho, hn⟩
  · exact h9 rfl
  · obtain ⟨o2, ho2, hc2⟩ := cells_of_cell hc
    rw [show V.heap[b]? = _ from ho2] at ho
    cases ho
    rw [hn] at hc2
    cases hc2
structure StR (V1 : World) (B rb nb eb : Nat) (W : World) : Prop where
  keep : Keep (fun b => b = rb ∨ b = nb ∨ b = eb) V1 W
  kf : KeepsFrom B V1 W
  e0 : ∃ v, Blk W rb 30 #[v]
  e1 : ∃ v, Blk W nb 3 #[v]
  e2 : ∃ v, Blk W eb 40 #[v]
theorem blk1_set {W : World} {z g : Nat} {T : TypeId} {v : Value} (h : Blk W z T #[v]) (u : Value) : Blk (W.setCell ⟨z, 0, none⟩ u) z T #[u] := by
  have h9 := h.set_ 0 u
  simpa using h9
theorem blk1_any {W : World} {z g : Nat} {T : TypeId} (u : Value) (h : ∃ v, Blk W g T #[v]) : ∃ v, Blk (W.setCell ⟨z, 0, none⟩ u) g T #[v] := by
  obtain ⟨v, h⟩ := h
  by_cases e : g = z
  · subst e; exact ⟨u, blk1_set (g := g) h u⟩
  · exact ⟨v, h.far e u⟩
theorem StR.store {V1 : World} {B rb nb eb z : Nat} {W : World} (h : StR V1 B rb nb eb W) (hz : z = rb ∨ z = nb ∨ z = eb) (hB : z < B) (u : Value) : StR V1 B rb nb eb (W.setCell ⟨z, 0, none⟩ u) :=
  ⟨h.keep.setCell hz u, h.kf.trans (KeepsFrom.of_grownBy (grown_set W z 0 u) (fun r e => by cases e; exact hB)), blk1_any u h.e0, blk1_any u h.e1, blk1_any u h.e2⟩
def stPhi (rb nb eb : Nat) (now : Value) (k : Int) : Nat → Value → World → (Nat → Nat) → Prop
  | 0, v, _, _ => v = now
  | 1, v, _, _ => v = .int .i64 k
  | 2, _, W, _ => Blk W rb 30 #[now]
  | 3, _, W, _ => Blk W nb 3 #[.int .i64 k]
  | 4, _, W, _ => Blk W eb 40 #[.int .i64 0]
  | _, _, _, _ => True
theorem stPhi_keep {rb nb eb z : Nat} {now : Value} {k : Int} {j : Nat} {v : Value} {W W' : World} {γ : Nat → Nat} (hk : Keep (fun b => b = z) W W') (h : stPhi rb nb eb now k j v W γ) (h2 : j = 2 → rb ≠ z) (h3 : j = 3 → nb ≠ z) (h4 : j = 4 → eb ≠ z) : stPhi rb nb eb now k j v W' γ := by
  unfold stPhi at h ⊢
  split at h
  all_goals first | exact h | trivial | skip
  · exact hk.blk h (h2 rfl)
  · exact hk.blk h (h3 rfl)
  · exact hk.blk h (h4 rfl)
theorem SlX.put {w0 V : World} {rb nb eb b2 D : Nat} {x0 x1 x2 : Value} {k : Int} {o : Obj} (h : SlX w0 rb nb eb b2 x0 x1 x2 k V) (hD : V.heap[D]? = some o) (hc : o.isCells = false) (hw : w0.heap.size ≤ D) (o' : Obj) : SlX w0 rb nb eb b2 x0 x1 x2 k (V.putObj D o') := by
  refine h.own (grownBy_putObj' V D o') (fun r e => ?_)
  cases e
  have hn : ∀ {T cs}, ¬ Blk V D T cs := fun {T cs} hb => by
    rw [show V.heap[D]? = _ from hb] at hD
    cases hD
    cases hc
  exact ⟨hw, fun e => hn (e ▸ h.r0), fun e => hn (e ▸ h.r1), fun e => hn (e ▸ h.r2), fun e => hn (e ▸ h.n)⟩
theorem rd_cells {V : World} {b off n : Nat} {L : List Int} (h3 : L.length = n) (hn : 1 ≤ n) (h4 : ∀ (i : Nat) (x : Int), L[i]? = some x → V.cell? ⟨b, off + i, none⟩ = some (.int .i64 x)) : Rd V V.heap.size 1 encI (some ⟨b, off, none⟩) n L := by
  refine ⟨h3, fun _ => ⟨b, off, rfl, ?_, fun i x hx j u hu => ?_⟩⟩
  · obtain ⟨x, hx⟩ : ∃ x, L[0]? = some x := ⟨_, List.getElem?_eq_getElem (by omega)⟩
    exact block_of_cell (h4 0 x hx)
  · match j, hu with
    | 0, hu =>
      simp only [encI, List.getElem?_cons_zero, Option.some.injEq] at hu
      subst hu
      rw [Nat.mul_one, Nat.add_zero]
      exact h4 i x hx
set_option maxRecDepth 100000 in
set_option maxHeartbeats 8000000 in
theorem Settle_any (rA wA bA cA tA lA : Option Addr) (rn rc wn wc bn bc cn cc lc tc cnt : Nat) (hcnt : cnt ≤ 20000) (out pump : Int) (h : Hl) (t l : List Int) (w : World) (hin : HlIn w w.heap.size ⟨rA, wA, bA, cA, rn, wn, bn, cn⟩ h) (ok : HlOk h) (ho : 0 ≤ out ∧ out ≤ 1000000) (hp : 0 ≤ pump ∧ pump ≤ 100000) (ht : Rd w w.heap.size 1 encI tA rn t) (htb : ∀ x ∈ t, 0 ≤ x ∧ x ≤ 1000000) (hl : Rd w w.heap.size 1 encI lA rn l) (hlb : ∀ x ∈ l, 0 ≤ x ∧ x ≤ 10000000) :
    Calls Try.prog 25 #[.agg #[.slice rA rn rc, .slice wA wn wc, .slice bA bn bc, .slice cA cn cc], .slice tA rn tc, .agg #[.slice lA rn lc, .int .i64 out, .int .i64 pump], .int .i64 (cnt : Int)] w fun e w' => Below w.heap.size w w' ∧ (e = .returned (.tuple #[.slice none 0 0, .int .i64 0, .int .i64 60]) ∨ ∃ (k b off c : Nat), itL h l out pump t (k + 1) = itL h l out pump t k ∧ e = .returned (.tuple #[.slice (some ⟨b, off, none⟩) rn c, .int .i64 (k : Int), .int .i64 0]) ∧ Rd w' w'.heap.size 1 encI (some ⟨b, off, none⟩) rn (itL h l out pump t k)) := by
  have hrn : h.rooms.length = rn := hin.rm.1
  have hn1 : 1 ≤ rn ∧ rn ≤ 8 := by rw [← hrn]; exact ⟨ok.n1, ok.n8⟩
  have KS := Lib.hid (fun W (hW : Below w.heap.size w W) => checkSecond_yes rA wA bA cA lA tA rn rc wn wc bn bc cn cc lc tc out pump h t l W (hin.next hW) ok ho hp (ht.next hW) htb (hl.next hW) hlb)
  have KT := Lib.hid (fun W => isTime_yes (n := (cnt : Int)) ⟨by omega, by omega⟩ W)
  have KC := Lib.hid (fun W (hW : Below w.heap.size w W) => clone_ints tA rn tc t W (ht.next hW) (by omega))
  have HTL : Hid (t.length = rn) := Lib.hid ht.1
  have HIT := Lib.hid (fun k => itL_ok ok (l := l) (out := out) (pump := pump) (by rw [ht.1, hrn]) htb hlb ho.1 hp k)
  have HSX := Lib.hid (fun (n : Nat) (hn : 4 ≤ n) (tB qB hB nB cB : Nat) (Sf : Nat → Prop) (W : World) (hW : Below w.heap.size w W) => seconds_x n hn rA wA bA cA tA lA rn rc wn wc bn bc cn cc tc lc h ok out pump ho hp t l cnt (by omega) tB qB hB nB cB w.heap.size Sf W (hin.below hW) (ht.below hW) htb (hl.below hW) hlb)
  have HALL9 := Lib.hid (And.intro hn1 hrn)
  have g1 : w.heap.size < w.heap.size + 1 := by omega
  have g2 : w.heap.size < w.heap.size + 1 + 1 := by omega
  have g3 : w.heap.size < w.heap.size + 1 + 1 + 1 := by omega
  have g4 : w.heap.size < w.heap.size + 1 + 1 + 1 + 1 := by omega
  have g5 : w.heap.size + 1 < w.heap.size + 1 + 1 := by omega
  have g6 : w.heap.size + 1 < w.heap.size + 1 + 1 + 1 := by omega
  have g7 : w.heap.size + 1 < w.heap.size + 1 + 1 + 1 + 1 := by omega
  clear hin ok ho hp ht htb hl hlb hn1 hrn
  refine (callsIn_wide (n := 8)).1 ?_
  refine callsIn_of_wp_marks Try.func25 rfl trivial ?_ rfl
  simp only [Try.ntmps25, List.size_toArray, List.length_cons, List.length_nil, Nat.reduceAdd, Nat.reduceSub, Array.replicate_succ, Array.replicate_zero, List.push_toArray, List.append_toArray, List.nil_append, List.cons_append]
  gi_wp2_with fail
  obtain ⟨hb, hhb⟩ : ∃ z, z = w.heap.size := ⟨_, rfl⟩
  obtain ⟨w1, hw1⟩ : ∃ z, z = w.alloc (.cells #[.slice rA rn rc, .slice wA wn wc, .slice bA bn bc, .slice cA cn cc] 28) := ⟨_, rfl⟩
  have HB : Hid (Blk w1 hb 28 #[.slice rA rn rc, .slice wA wn wc, .slice bA bn bc, .slice cA cn cc]) := Lib.hid (by rw [hw1, hhb]; exact heap_alloc_new w _)
  have Sw1 : Hid (w1.heap.size = hb + 1) := Lib.hid (by rw [hw1, hhb, World.size_alloc])
  have Zhb : Hid (w.heap.size ≤ hb) := Lib.hid (by rw [hhb]; exact Nat.le_refl _)
  have hBn : Below w.heap.size w w1 := by rw [hw1]; exact (Below.refl _ _).alloc (Nat.le_refl _) _
  rw [← hw1, ← hhb]
  have B0 : Hid (Below w.heap.size w w1) := Lib.hid hBn
  clear hw1 hhb hBn
  obtain ⟨xb, hxb⟩ : ∃ z, z = hb + 1 := ⟨_, rfl⟩
  obtain ⟨w2, hw2⟩ : ∃ z, z = w1.alloc (.cells #[.slice lA rn lc, .int .i64 out, .int .i64 pump] 35) := ⟨_, rfl⟩
  have XB : Hid (Blk w2 xb 35 #[.slice lA rn lc, .int .i64 out, .int .i64 pump]) := Lib.hid (by have e2 := heap_alloc_new w1 (.cells #[.slice lA rn lc, .int .i64 out, .int .i64 pump] 35); rw [Sw1.out] at e2; rw [hw2, hxb]; exact e2)
  have Sw2 : Hid (w2.heap.size = xb + 1) := Lib.hid (by rw [hw2, hxb, World.size_alloc, Sw1.out])
  have Zxb : Hid (w1.heap.size = xb) := Lib.hid (by rw [Sw1.out, hxb])
  have hBn : Below w1.heap.size w1 w2 := by rw [hw2]; exact (Below.refl _ _).alloc (Nat.le_refl _) _
  rw [← hw2, ← hxb]
  have B1 : Hid (Below w1.heap.size w1 w2) := Lib.hid hBn
  clear hw2 hxb hBn
  obtain ⟨rb, hrb⟩ : ∃ z, z = xb + 1 := ⟨_, rfl⟩
  obtain ⟨w3, hw3⟩ : ∃ z, z = w2.alloc (.cells #[.slice none 0 0] 30) := ⟨_, rfl⟩
  have RB : Hid (Blk w3 rb 30 #[.slice none 0 0]) := Lib.hid (by have e2 := heap_alloc_new w2 (.cells #[.slice none 0 0] 30); rw [Sw2.out] at e2; rw [hw3, hrb]; exact e2)
  have Sw3 : Hid (w3.heap.size = rb + 1) := Lib.hid (by rw [hw3, hrb, World.size_alloc, Sw2.out])
  have Zrb : Hid (w2.heap.size = rb) := Lib.hid (by rw [Sw2.out, hrb])
  have hBn : Below w2.heap.size w2 w3 := by rw [hw3]; exact (Below.refl _ _).alloc (Nat.le_refl _) _
  rw [← hw3, ← hrb]
  have B2 : Hid (Below w2.heap.size w2 w3) := Lib.hid hBn
  clear hw3 hrb hBn
  obtain ⟨nb, hnb⟩ : ∃ z, z = rb + 1 := ⟨_, rfl⟩
  obtain ⟨w4, hw4⟩ : ∃ z, z = w3.alloc (.cells #[.int .i64 0] 3) := ⟨_, rfl⟩
  have NB : Hid (Blk w4 nb 3 #[.int .i64 0]) := Lib.hid (by have e2 := heap_alloc_new w3 (.cells #[.int .i64 0] 3); rw [Sw3.out] at e2; rw [hw4, hnb]; exact e2)
  have Sw4 : Hid (w4.heap.size = nb + 1) := Lib.hid (by rw [hw4, hnb, World.size_alloc, Sw3.out])
  have Znb : Hid (w3.heap.size = nb) := Lib.hid (by rw [Sw3.out, hnb])
  have hBn : Below w3.heap.size w3 w4 := by rw [hw4]; exact (Below.refl _ _).alloc (Nat.le_refl _) _
  rw [← hw4, ← hnb]
  have B3 : Hid (Below w3.heap.size w3 w4) := Lib.hid hBn
  clear hw4 hnb hBn
  obtain ⟨eb, heb⟩ : ∃ z, z = nb + 1 := ⟨_, rfl⟩
  obtain ⟨w5, hw5⟩ : ∃ z, z = w4.alloc (.cells #[.int .i64 0] 40) := ⟨_, rfl⟩
  have EB : Hid (Blk w5 eb 40 #[.int .i64 0]) := Lib.hid (by have e2 := heap_alloc_new w4 (.cells #[.int .i64 0] 40); rw [Sw4.out] at e2; rw [hw5, heb]; exact e2)
  have Sw5 : Hid (w5.heap.size = eb + 1) := Lib.hid (by rw [hw5, heb, World.size_alloc, Sw4.out])
  have Zeb : Hid (w4.heap.size = eb) := Lib.hid (by rw [Sw4.out, heb])
  have hBn : Below w4.heap.size w4 w5 := by rw [hw5]; exact (Below.refl _ _).alloc (Nat.le_refl _) _
  rw [← hw5, ← heb]
  have B4 : Hid (Below w4.heap.size w4 w5) := Lib.hid hBn
  clear hw5 heb hBn
  clear g1 g2 g3 g4 g5 g6 g7
  refine ⟨trivial, ?_⟩
  refine (callsIn_wide.2 (KS.out _ (below3 (below3 (below3 (below3 B0.out B1.out (Nat.le_refl _)) B2.out (Nat.le_refl _)) B3.out (Nat.le_refl _)) B4.out (Nat.le_refl _)))).mono ?_
  rintro e w6 ⟨rfl, hB⟩
  have B5 : Hid (Below w5.heap.size w5 w6) := Lib.hid hB
  clear hB
  gi_wp2_with fail
  refine ⟨trivial, ?_⟩
  refine (callsIn_wide.2 (KT.out w6)).mono ?_
  rintro e w6b ⟨rfl, hw9⟩
  obtain rfl := hw9.symm
  gi_wp2_with fail
  refine ⟨trivial, ?_⟩
  refine (callsIn_wide.2 (KC.out _ (below3 (below3 (below3 (below3 (below3 B0.out B1.out (Nat.le_refl _)) B2.out (Nat.le_refl _)) B3.out (Nat.le_refl _)) B4.out (Nat.le_refl _)) B5.out (Nat.le_refl _)))).mono ?_
  rintro e w7 ⟨A1, c1, rfl, hrow, hB, hsome⟩
  have B6 : Hid (Below w6.heap.size w6 w7) := Lib.hid hB
  clear hB
  have hrd := row_rd (f := encI) (size := 1) (fun _ => rfl) HTL.out hrow
  obtain ⟨ab, ao, rfl, hab, hcell⟩ := hrd.2 (by have := HALL9.out; omega)
  have hfr : w6.heap.size ≤ ab := by
    have hrow' : World.ownsRow w7 w6.heap.size 3 1 (.slice (some ⟨ab, ao, none⟩) rn c1) t.length (t.flatMap encI) := by rw [HTL.out]; exact hrow
    obtain ⟨A', c', g7, e7, hw7, hz7⟩ := RowW.of_own hrow'
    have k8 := HTL.out
    have k9 := HALL9.out.1.1
    rcases hw7 with h9 | ⟨h9, _⟩
    · rw [h9] at k8
      simp at k8
      omega
    · have h8 := (hz7 (by omega)).1
      subst h9
      simp only [Value.slice.injEq, Option.some.injEq, Addr.mk.injEq] at e7
      omega
  have HCL : Hid (w6.heap.size ≤ ab ∧ ab < w7.heap.size ∧ w.heap.size ≤ w7.heap.size ∧ ∀ (i : Nat) (x : Int), t[i]? = some x → w7.cell? ⟨ab, ao + i, none⟩ = some (.int .i64 x)) := Lib.hid ⟨hfr, hab, (below3 (below3 (below3 (below3 (below3 (below3 B0.out B1.out (Nat.le_refl _)) B2.out (Nat.le_refl _)) B3.out (Nat.le_refl _)) B4.out (Nat.le_refl _)) B5.out (Nat.le_refl _)) B6.out (Nat.le_refl _)).size, fun i x hx => by
    have h9 := hcell i x hx 0 (.int .i64 x) rfl
    rw [Nat.mul_one, Nat.add_zero] at h9
    exact h9⟩
  clear hrow hsome hrd hab hcell hfr
  have g1 : w7.heap.size < w7.heap.size + 1 := by omega
  gi_wp2_with fail
  obtain ⟨b1, hb1⟩ : ∃ z, z = w7.heap.size := ⟨_, rfl⟩
  obtain ⟨w8, hw8⟩ : ∃ z, z = w7.alloc (.cells #[.slice (some ⟨ab, ao, none⟩) rn c1] 30) := ⟨_, rfl⟩
  have B1X : Hid (Blk w8 b1 30 #[.slice (some ⟨ab, ao, none⟩) rn c1]) := Lib.hid (by rw [hw8, hb1]; exact heap_alloc_new w7 _)
  have Sw8 : Hid (w8.heap.size = b1 + 1) := Lib.hid (by rw [hw8, hb1, World.size_alloc])
  have Zb1 : Hid (w7.heap.size ≤ b1) := Lib.hid (by rw [hb1]; exact Nat.le_refl _)
  have hBn : Below w7.heap.size w7 w8 := by rw [hw8]; exact (Below.refl _ _).alloc (Nat.le_refl _) _
  rw [← hw8, ← hb1]
  have B7 : Hid (Below w7.heap.size w7 w8) := Lib.hid hBn
  clear hw8 hb1 hBn
  obtain ⟨b2, hb2⟩ : ∃ z, z = b1 + 1 := ⟨_, rfl⟩
  obtain ⟨w9, hw9⟩ : ∃ z, z = w8.alloc (.cells #[.int .i64 0] 3) := ⟨_, rfl⟩
  have B2X : Hid (Blk w9 b2 3 #[.int .i64 0]) := Lib.hid (by have e2 := heap_alloc_new w8 (.cells #[.int .i64 0] 3); rw [Sw8.out] at e2; rw [hw9, hb2]; exact e2)
  have Sw9 : Hid (w9.heap.size = b2 + 1) := Lib.hid (by rw [hw9, hb2, World.size_alloc, Sw8.out])
  have Zb2 : Hid (w8.heap.size = b2) := Lib.hid (by rw [Sw8.out, hb2])
  have hBn : Below w8.heap.size w8 w9 := by rw [hw9]; exact (Below.refl _ _).alloc (Nat.le_refl _) _
  rw [← hw9, ← hb2]
  have B8 : Hid (Below w8.heap.size w8 w9) := Lib.hid hBn
  clear hw9 hb2 hBn
  clear g1
  have hbk := HB.out.below (below3 (below3 (below3 (below3 (below3 (below3 (below3 B1.out B2.out (Nat.le_refl _)) B3.out (Nat.le_refl _)) B4.out (Nat.le_refl _)) B5.out (Nat.le_refl _)) B6.out (Nat.le_refl _)) B7.out (Nat.le_refl _)) B8.out (Nat.le_refl _)) HB.out.lt
  have p0 := hbk.cell 0
  have p1 := hbk.cell 1
  have p2 := hbk.cell 2
  have p3 := hbk.cell 3
  simp only [List.getElem?_toArray, List.getElem?_cons_zero, List.getElem?_cons_succ] at p0 p1 p2 p3
  have zp := hbk.lt
  clear hbk
  have hbk := XB.out.below (below3 (below3 (below3 (below3 (below3 (below3 B2.out B3.out (Nat.le_refl _)) B4.out (Nat.le_refl _)) B5.out (Nat.le_refl _)) B6.out (Nat.le_refl _)) B7.out (Nat.le_refl _)) B8.out (Nat.le_refl _)) XB.out.lt
  have q0 := hbk.cell 0
  have q1 := hbk.cell 1
  have q2 := hbk.cell 2
  simp only [List.getElem?_toArray, List.getElem?_cons_zero, List.getElem?_cons_succ] at q0 q1 q2
  have zq := hbk.lt
  clear hbk
  have HP : Hid (Blk w9 hb 28 #[.slice rA rn rc, .slice wA wn wc, .slice bA bn bc, .slice cA cn cc] ∧ Blk w9 xb 35 #[.slice lA rn lc, .int .i64 out, .int .i64 pump]) := Lib.hid ⟨HB.out.below (below3 (below3 (below3 (below3 (below3 (below3 (below3 B1.out B2.out (Nat.le_refl _)) B3.out (Nat.le_refl _)) B4.out (Nat.le_refl _)) B5.out (Nat.le_refl _)) B6.out (Nat.le_refl _)) B7.out (Nat.le_refl _)) B8.out (Nat.le_refl _)) HB.out.lt, XB.out.below (below3 (below3 (below3 (below3 (below3 (below3 B2.out B3.out (Nat.le_refl _)) B4.out (Nat.le_refl _)) B5.out (Nat.le_refl _)) B6.out (Nat.le_refl _)) B7.out (Nat.le_refl _)) B8.out (Nat.le_refl _)) XB.out.lt⟩
  clear p0 p1 p2 p3 zp q0 q1 q2 zq
  refine wpIn_wide.2 ?_
  refine wp_region_free9 5 (by kernel_rfl) [some 27, some 28, some 29, some 30, some 31, some 32] [[], [], [], [], [2, 3], [0, 1, 4, 4]] [(4, .pointer (some ⟨hb, 0, none⟩)), (1, .slice tA rn tc), (6, .pointer (some ⟨xb, 0, none⟩)), (3, .int .i64 (cnt : Int))] (fun W _ => Below w9.heap.size w9 W) (settPhi w9.heap.size #[.slice rA rn rc, .slice wA wn wc, .slice bA bn bc, .slice cA cn cc] (.slice tA rn tc) #[.slice lA rn lc, .int .i64 out, .int .i64 pump] (cnt : Int)) (fun _ _ _ => True) (by kernel_rfl) (by kernel_rfl) rfl (by kernel_rfl) ?_ ?_ ⟨fun _ => 0, ((Below.refl w9.heap.size w9).drew), fun _ _ => trivial⟩ ?_ ?_
  · intro z hz
    simp only [List.mem_cons, List.mem_nil_iff, or_false] at hz
    rcases hz with rfl | rfl | rfl | rfl
    all_goals exact ⟨by kernel_rfl, rfl⟩
  · intro i v W γ hi h
    rcases i with _ | _ | _ | _ | _ | _ | i
    all_goals first | exact h | (simp at hi)
  · refine ⟨?_, ?_, ?_, ?_, ?_, ?_, trivial⟩
    all_goals
      intro a W γ ev hcc hff hfx hR hψ hpre
      simp only [List.mem_cons, List.mem_nil_iff, or_false, forall_eq, forall_eq_or_imp] at hfx
      obtain ⟨f0, f1, f2, f3⟩ := hfx
      have HR := Lib.hid hR
      clear hR
      refine ⟨fun _ K hK => ?_, trivial⟩
    · have hbk := HP.out.1.below HR.out HP.out.1.lt
      have p0 := hbk.cell 0
      have p1 := hbk.cell 1
      have p2 := hbk.cell 2
      have p3 := hbk.cell 3
      simp only [List.getElem?_toArray, List.getElem?_cons_zero, List.getElem?_cons_succ] at p0 p1 p2 p3
      have zp := hbk.lt
      clear hbk
      clear hpre hψ
      go_simp
      exact hK _ _ γ HR.out (fun _ _ _ _ h => h) (fun _ _ h => h) rfl
    · clear hpre hψ
      go_simp
      exact hK _ _ γ HR.out (fun _ _ _ _ h => h) (fun _ _ h => h) rfl
    · have hbk := HP.out.2.below HR.out HP.out.2.lt
      have p0 := hbk.cell 0
      have p1 := hbk.cell 1
      have p2 := hbk.cell 2
      simp only [List.getElem?_toArray, List.getElem?_cons_zero, List.getElem?_cons_succ] at p0 p1 p2
      have zp := hbk.lt
      clear hbk
      clear hpre hψ
      go_simp
      exact hK _ _ γ HR.out (fun _ _ _ _ h => h) (fun _ _ h => h) rfl
    · clear hpre hψ
      go_simp
      exact hK _ _ γ HR.out (fun _ _ _ _ h => h) (fun _ _ h => h) rfl
    · have q0 : ev (.tmp 29) = _ := hpre 2 (by decide)
      have q1 : ev (.tmp 30) = _ := hpre 3 (by decide)
      have C := Lib.hid (always_any (.slice lA rn lc) (.int .i64 out) (.int .i64 pump) (cnt : Int) W)
      clear hpre hψ
      go_simp
      refine C.out.mono ?_
      rintro e w10 ⟨nB, cB, rfl, h1, h2, h3, h4, hB5⟩
      exact hK _ w10 γ (HR.out.trans (hB5.mono HR.out.size)) (fun j u _ _ h => settPhi_next hB5 j u h) (fun _ _ h => h) ⟨nB, cB, rfl, h1, h2, Nat.le_trans HR.out.size h3, Nat.le_trans HR.out.size h4⟩
    · have q0 : ev (.tmp 27) = _ := hpre 0 (by decide)
      have q1 : ev (.tmp 28) = _ := hpre 1 (by decide)
      obtain ⟨nB, cB, q4, h1, h2, h3, h4⟩ := hpre 4 (by decide)
      replace q4 : ev (.tmp 31) = _ := q4
      have HX := Lib.hid (And.intro h1 (And.intro h2 (And.intro h3 h4)))
      clear h1 h2 h3 h4
      have C := Lib.hid (seconds_any (.slice rA rn rc) (.slice wA wn wc) (.slice bA bn bc) (.slice cA cn cc) tA rn tc (.func 70) #[] #[.pointer (some ⟨nB, 0, none⟩), .pointer (some ⟨cB, 0, none⟩)] W)
      clear hpre hψ
      go_simp
      refine C.out.mono ?_
      rintro e w10 ⟨tB, qB, hB, rfl, ⟨h1, h2, h3⟩, h4, h5, h6, hB5⟩
      obtain ⟨k1, k2, k3, k4⟩ := HX.out
      exact hK _ w10 γ (HR.out.trans (hB5.mono HR.out.size)) (fun j u _ _ h => settPhi_next hB5 j u h) (fun _ _ h => h) ⟨tB, qB, hB, nB, cB, rfl, h1, h2, h3, k1.below hB5 k1.lt, k2.below hB5 k2.lt, Nat.le_trans HR.out.size h4, Nat.le_trans HR.out.size h5, Nat.le_trans HR.out.size h6, k3, k4⟩
  · intro vs w10 γ hvl hR hφ
    obtain ⟨tB, qB, hB, nB, cB, e5, hit⟩ := hφ 5 (by decide)
    have HR := Lib.hid hR
    have HI := Lib.hid hit
    clear hφ hR hit
    match vs, hvl with
    | [y0, y1, y2, y3, y4, y5], _ =>
    simp only [List.getD_cons_zero, List.getD_cons_succ] at e5
    subst e5
    have HLW : Hid (Below w.heap.size w w10) := Lib.hid (below3 (below3 (below3 (below3 (below3 (below3 (below3 (below3 (below3 B0.out B1.out (Nat.le_refl _)) B2.out (Nat.le_refl _)) B3.out (Nat.le_refl _)) B4.out (Nat.le_refl _)) B5.out (Nat.le_refl _)) B6.out (Nat.le_refl _)) B7.out (Nat.le_refl _)) B8.out (Nat.le_refl _)) HR.out (Nat.le_refl _))
    have HSZ : Hid (w.heap.size ≤ hb ∧ xb = hb + 1 ∧ rb = hb + 2 ∧ nb = hb + 3 ∧ eb = hb + 4 ∧ eb < w6.heap.size ∧ w6.heap.size ≤ w7.heap.size ∧ w7.heap.size ≤ b1 ∧ b2 = b1 + 1 ∧ w9.heap.size = b2 + 1 ∧ w9.heap.size ≤ w10.heap.size) := Lib.hid (by
      have e1 := Zhb.out
      have e2 := Zxb.out
      have e3 := Zrb.out
      have e4 := Znb.out
      have e5 := Zeb.out
      have e6 := Zb1.out
      have e7 := Zb2.out
      have f1 := Sw1.out
      have f2 := Sw2.out
      have f3 := Sw3.out
      have f4 := Sw4.out
      have f5 := Sw5.out
      have f8 := Sw8.out
      have f9 := Sw9.out
      have k1 := B5.out.size
      have k2 := B6.out.size
      have k3 := (HR.out : Below w9.heap.size w9 w10).size
      refine ⟨?_, ?_, ?_, ?_, ?_, ?_, ?_, ?_, ?_, ?_, ?_⟩ <;> omega)
    have HBX : Hid (SlX w rb nb eb b2 (.slice none 0 0) (.int .i64 0) (.int .i64 0) 0 w10) := Lib.hid ⟨RB.out.below (below3 (below3 (below3 (below3 (below3 (below3 B3.out B4.out (Nat.le_refl _)) B5.out (Nat.le_refl _)) B6.out (Nat.le_refl _)) B7.out (Nat.le_refl _)) B8.out (Nat.le_refl _)) HR.out (Nat.le_refl _)) RB.out.lt, NB.out.below (below3 (below3 (below3 (below3 (below3 B4.out B5.out (Nat.le_refl _)) B6.out (Nat.le_refl _)) B7.out (Nat.le_refl _)) B8.out (Nat.le_refl _)) HR.out (Nat.le_refl _)) NB.out.lt, EB.out.below (below3 (below3 (below3 (below3 B5.out B6.out (Nat.le_refl _)) B7.out (Nat.le_refl _)) B8.out (Nat.le_refl _)) HR.out (Nat.le_refl _)) EB.out.lt, B2X.out.below HR.out B2X.out.lt, HLW.out⟩
    have HB1 : Hid (Blk w10 b1 30 #[.slice (some ⟨ab, ao, none⟩) rn c1]) := Lib.hid (B1X.out.below (below3 B8.out HR.out (Nat.le_refl _)) B1X.out.lt)
    have HC10 : Hid (∀ (i : Nat) (x : Int), t[i]? = some x → w10.cell? ⟨ab, ao + i, none⟩ = some (.int .i64 x)) := Lib.hid (fun i x hx => ((below3 (below3 B7.out B8.out (Nat.le_refl _)) HR.out (Nat.le_refl _)).cell (p := ⟨ab, ao + i, none⟩) HCL.out.2.1).trans (HCL.out.2.2.2 i x hx))
    obtain ⟨Sq, hSq⟩ : ∃ z : Nat → Prop, z = fun b => (b < w10.heap.size ∨ w10.heap.size + 4 ≤ b) ∧ b ≠ b1 ∧ b ≠ b2 ∧ b ≠ rb ∧ b ≠ nb ∧ b ≠ eb := ⟨_, rfl⟩
    have HQ : Hid (∀ b, Sq b ↔ (b < w10.heap.size ∨ w10.heap.size + 4 ≤ b) ∧ b ≠ b1 ∧ b ≠ b2 ∧ b ≠ rb ∧ b ≠ nb ∧ b ≠ eb) := Lib.hid (fun b => by rw [hSq])
    obtain ⟨Sf, hSf⟩ : ∃ z : Nat → Prop, z = fun b => b ≠ b1 ∧ b ≠ b2 := ⟨_, rfl⟩
    have HF : Hid (∀ b, Sf b ↔ b ≠ b1 ∧ b ≠ b2) := Lib.hid (fun b => by rw [hSf])
    have HC0 : Hid (CurIs Sq rn b1 (itL h l out pump t 0) w10) := Lib.hid ⟨ab, ao, c1, HB1.out, (HQ.out _).2 (by have := HSZ.out; have := HCL.out.1; have := HCL.out.2.1; refine ⟨?_, ?_⟩ <;> omega), HTL.out, HC10.out⟩
    clear hSq hSf
    simp [putAll]
    gi_wp2
    refine wpIn_range_x rfl (by omega) (gf := 68) (lb := #[.pointer (some ⟨tB, 0, none⟩), .pointer (some ⟨qB, 0, none⟩), .pointer (some ⟨hB, 0, none⟩)]) rfl trivial (enters_of Try.func68 (by kernel_rfl) rfl)
      (HSX.out 7 (by omega) tB qB hB nB cB Sf w10 HLW.out ?sa ?sb HLW.out.size ?sc HI.out.t HI.out.q HI.out.h HI.out.n HI.out.c)
      (Below.refl _ _) (fun _ => rfl) (fun h9 k9 => KpB.trans h9 k9) (fun W9 l9 o o' _ h9 hc _ => KpB.putObj W9 l9 o o' h9 hc)
      (fun pre V => CurIs Sq rn b1 (itL h l out pump t pre.length) V ∧ SlX w rb nb eb b2 (.slice none 0 0) (.int .i64 0) (.int .i64 0) (pre.length : Int) V ∧ pre.length ≤ cnt)
      (fun pre V => ∃ (k b off c : Nat), itL h l out pump t (k + 1) = itL h l out pump t k ∧ SlX w rb nb eb b2 (.slice (some ⟨b, off, none⟩) rn c) (.int .i64 (k : Int)) (.int .i64 0) (k : Int) V ∧ Sq b ∧ ∀ (i : Nat) (x : Int), (itL h l out pump t k)[i]? = some x → V.cell? ⟨b, off + i, none⟩ = some (.int .i64 x))
      ?own ?ownr ?start (fun b9 => { tmps := #[.agg #[.slice rA rn rc, .slice wA wn wc, .slice bA bn bc, .slice cA cn cc], .slice tA rn tc, .agg #[.slice lA rn lc, .int .i64 out, .int .i64 pump], .int .i64 (cnt : Int), .pointer (some ⟨hb, 0, none⟩), undef, .pointer (some ⟨xb, 0, none⟩), undef, .pointer (some ⟨rb, 0, none⟩), .pointer (some ⟨nb, 0, none⟩), .pointer (some ⟨eb, 0, none⟩), .int .i64 0, .pointer (some ⟨b1, 0, none⟩), .pointer (some ⟨b2, 0, none⟩), .slice (some ⟨b9, 0, none⟩) rn rn, .agg #[.slice rA rn rc, .slice wA wn wc, .slice bA bn bc, .slice cA cn cc], .slice tA rn tc, .agg #[.slice lA rn lc, .int .i64 out, .int .i64 pump], .int .i64 0, .int .i64 0, .bool false, undef, .int .i64 (cnt : Int), .bool true, .bool false, .slice tA rn tc, .slice (some ⟨ab, ao, none⟩) rn c1, y0, y1, y2, y3, y4, .func (.func 68) #[] #[.pointer (some ⟨tB, 0, none⟩), .pointer (some ⟨qB, 0, none⟩), .pointer (some ⟨hB, 0, none⟩)], .slice (some ⟨b9, 0, none⟩) rn rn, undef, undef, undef, undef, undef, undef, undef, undef], defers := [] }) ?hX ?assign ?body ?done ?stop
    case sa => exact fun b hb9 => (HF.out b).2 (by have := HSZ.out; omega)
    case sb => exact fun b hb9 => (HF.out b).2 (by have := HSZ.out; omega)
    case sc => exact ⟨(HF.out _).2 (by have := HSZ.out; have := HI.out.z1; omega), (HF.out _).2 (by have := HSZ.out; have := HI.out.z2; omega), (HF.out _).2 (by have := HSZ.out; have := HI.out.z3; omega), (HF.out _).2 (by have := HSZ.out; have := HI.out.z4; omega), (HF.out _).2 (by have := HSZ.out; have := HI.out.z5; omega)⟩
    case own =>
      rintro pre A C row ⟨⟨b, off, c, h1, h2, h3, h4⟩, h5, h6⟩ hg hr
      have hs := HSZ.out
      have hb := (HQ.out b).1 h2
      refine ⟨⟨b, off, c, h1.kept hg (fun e => by have := hr _ e.symm; omega), h2, h3, cells_own h4 hg (fun r e => ?_)⟩, h5.own hg (fun r e => by have := hr r e; refine ⟨?_, ?_, ?_, ?_, ?_⟩ <;> omega), h6⟩
      obtain ⟨q1, q2 | q2⟩ := hr r e
      · exact .inl (by omega)
      · exact .inr q2
    case ownr =>
      rintro pre A C row ⟨k, b, off, c, h1, h5, h2, h4⟩ hg hr
      have hs := HSZ.out
      have hb := (HQ.out b).1 h2
      refine ⟨k, b, off, c, h1, h5.own hg (fun r e => by have := hr r e; refine ⟨?_, ?_, ?_, ?_, ?_⟩ <;> omega), h2, cells_own h4 hg (fun r e => ?_)⟩
      obtain ⟨q1, q2 | q2⟩ := hr r e
      · exact .inl (by omega)
      · exact .inr q2
    case start => exact ⟨HC0.out, HBX.out, Nat.zero_le _⟩
    case hX =>
      rintro pre x V l9 o o' ⟨h1, h2⟩ hl9 ho hc
      exact ⟨h1.kept (grownBy_putObj' V l9 o') (by intro e; cases e; rw [show V.heap[_]? = _ from h1] at ho; cases ho; cases hc), h2⟩
    case assign =>
      intro l9 x V K hK
      gi_wp2
      exact hK
    case body =>
      rintro l9 pre x V hl9 ⟨r9, hr9⟩ ⟨⟨b, off, c, h1, h2, h3, h4⟩, h5, h6⟩ ⟨k1, k2, k3⟩
      have hrd0 : Rd V V.heap.size 1 encI (some ⟨b, off, none⟩) rn (itL h l out pump t pre.length) := rd_cells h3 (by have := HALL9.out; omega) h4
      have hrd1 : Rd V V.heap.size 1 encI (some ⟨x, 0, none⟩) rn (itL h l out pump t (pre.length + 1)) := by
        have h9 := k1.rdI
        rwa [(HIT.out _).1, HALL9.out.2] at h9
      have HE := Lib.hid (Equal_any (some ⟨x, 0, none⟩) (some ⟨b, off, none⟩) rn rn rn c _ _ V hrd1 hrd0 (by have := HALL9.out; omega) (by have := HALL9.out; omega))
      have c0 := h1.cell 0
      simp only [List.getElem?_toArray, List.getElem?_cons_zero] at c0
      have z0 := h1.lt
      have HV := Lib.hid (And.intro h1 (And.intro h2 (And.intro h3 (And.intro h4 (And.intro h5 (And.intro h6 (And.intro k1 (And.intro k2 k3))))))))
      have hp3 : pre.length < 20000 := by omega
      clear hrd0 hrd1 h1 h2 h3 h4 h5 h6 k1 k2 k3 hr9
      gi_wp2_with fail
      refine ⟨trivial, ?_⟩
      refine (CallsIn.inRound l9 (callsIn_wide.2 HE.out)).mono ?_
      rintro e V1 ⟨rfl, hB1⟩
      obtain ⟨h1, h2, h3, h4, h5, h6, k1, k2, k3⟩ := HV.out
      have m1 := h1.below hB1 h1.lt
      have m2 := h5.n.below hB1 h5.n.lt
      have c0b := m1.cell 0
      have c1b := m2.cell 0
      simp only [List.getElem?_toArray, List.getElem?_cons_zero] at c0b c1b
      have z0b := m1.lt
      have z1b := m2.lt
      have f0b := m1.frozen
      have f1b := m2.frozen
      have HB9 := Lib.hid hB1
      have hnn : b1 ≠ b2 := by have := HSZ.out; omega
      have hnm : b2 ≠ b1 := by have := HSZ.out; omega
      clear c0 z0
      cases hsm : sameL (itL h l out pump t (pre.length + 1)) (itL h l out pump t pre.length)
      · clear hsm h1 h2 h3 h4 h5 h6 k1 k2 k3 m1 m2 hB1
        gi_wp2
        obtain ⟨h1, h2, h3, h4, h5, h6, k1, k2, k3⟩ := HV.out
        have hs := HSZ.out
        have hB1 := HB9.out
        have m1 := h1.below hB1 h1.lt
        have S1 := h5.own (grown_of_below hB1) (fun r e => by cases e)
        have K1 := k1.below hB1 k1.lt
        have gA := grown_set V1 b1 0 (.slice (some ⟨x, 0, none⟩) rn rn)
        have gB := grown_set (V1.setCell ⟨b1, 0, none⟩ (.slice (some ⟨x, 0, none⟩) rn rn)) b2 0 (.int .i64 ((pre.length : Int) + 1))
        refine ⟨((KeepsFrom.of_grownBy (grown_of_below hB1) (fun r e => by cases e)).trans (KeepsFrom.of_grownBy gA (fun r e => by cases e; omega))).trans (KeepsFrom.of_grownBy gB (fun r e => by cases e; omega)), (KpB.trans (KpB.grown (grown_of_below hB1) (fun r e => by cases e)) (KpB.grown gA (fun r e hr => by cases e; exact ((HF.out _).1 hr).1 rfl))).trans (KpB.grown gB (fun r e hr => by cases e; exact ((HF.out _).1 hr).2 rfl)), ?_, ?_, ?_⟩
        · rw [List.length_append, List.length_singleton]
          refine ⟨x, 0, rn, (blk1_set (g := b1) m1 _).far (by omega) _, (HQ.out x).2 (by omega), by rw [(HIT.out _).1, HALL9.out.2], fun i y hy => ?_⟩
          rw [Nat.zero_add]
          exact ((K1.far (p := ⟨b1, 0, none⟩) (by show x ≠ b1; omega) _).far (p := ⟨b2, 0, none⟩) (by show x ≠ b2; omega) _).intAt hy
        · rw [List.length_append, List.length_singleton]
          have S2 := S1.own gA (fun r e => by cases e; refine ⟨?_, ?_, ?_, ?_, ?_⟩ <;> omega)
          exact ⟨S2.r0.far (by show rb ≠ b2; omega) _, S2.r1.far (by show nb ≠ b2; omega) _, S2.r2.far (by show eb ≠ b2; omega) _, by simpa using blk1_set (g := b2) S2.n (.int .i64 ((pre.length : Int) + 1)), S2.low.grown gB S2.low.size (fun r e => by cases e; omega)⟩
        · rw [List.length_append, List.length_singleton]; omega
      · have HSM : Hid (itL h l out pump t (pre.length + 1) = itL h l out pump t pre.length) := Lib.hid (by simpa [sameL] using hsm)
        clear hsm h1 h2 h3 h4 h5 h6 k1 k2 k3 m1 m2 hB1
        have HNE : Hid (rb < w10.heap.size ∧ nb < w10.heap.size ∧ eb < w10.heap.size ∧ (rb ≠ nb ∧ rb ≠ eb ∧ nb ≠ eb) ∧ (b1 ≠ rb ∧ b1 ≠ nb ∧ b1 ≠ eb) ∧ (b2 ≠ rb ∧ b2 ≠ nb ∧ b2 ≠ eb)) := Lib.hid (by have := HSZ.out; refine ⟨?_, ?_, ?_, ⟨?_, ?_, ?_⟩, ⟨?_, ?_, ?_⟩, ?_, ?_, ?_⟩ <;> omega)
        have HM : Hid (Blk V1 b1 30 #[.slice (some ⟨b, off, none⟩) rn c] ∧ SlX w rb nb eb b2 (.slice none 0 0) (.int .i64 0) (.int .i64 0) (pre.length : Int) V1) := Lib.hid ⟨HV.out.1.below HB9.out HV.out.1.lt, HV.out.2.2.2.2.1.own (grown_of_below HB9.out) (fun r e => by cases e)⟩
        clear c0b c1b z0b z1b f0b f1b
        gi_wp2
        refine wpIn_round_free10 (by kernel_rfl) 4 (by kernel_rfl) [some 37, some 38, none, none, none] [[], [], [0, 0], [1, 2, 0, 1, 2], [3, 0, 1, 2, 3]] [(12, .pointer (some ⟨b1, 0, none⟩)), (13, .pointer (some ⟨b2, 0, none⟩)), (8, .pointer (some ⟨rb, 0, none⟩)), (9, .pointer (some ⟨nb, 0, none⟩)), (10, .pointer (some ⟨eb, 0, none⟩))] (fun W9 _ => StR V1 w10.heap.size rb nb eb W9) (stPhi rb nb eb (.slice (some ⟨b, off, none⟩) rn c) (pre.length : Int)) (fun _ _ _ => True) (by kernel_rfl) (by kernel_rfl) rfl (by kernel_rfl) ?_ ?_ ⟨fun _ => 0, ⟨(Keep.refl _ _).drew, (KeepsOthers.drew _).from _, ⟨_, HM.out.2.r0⟩, ⟨_, HM.out.2.r1⟩, ⟨_, HM.out.2.r2⟩⟩, fun _ _ => trivial⟩ ?_ ?_
        · intro z hz
          simp only [List.mem_cons, List.mem_nil_iff, or_false] at hz
          rcases hz with rfl | rfl | rfl | rfl | rfl
          all_goals exact ⟨by kernel_rfl, rfl⟩
        · intro i v W9 γ hi h9
          rcases i with _ | _ | _ | _ | _ | i
          all_goals first | exact h9 | (simp at hi)
        · refine ⟨?_, ?_, ?_, ?_, ?_, trivial⟩
          all_goals
            intro a9 W9 γ ev hcc hff hfx hR hψ hpre
            simp only [List.mem_cons, List.mem_nil_iff, or_false, forall_eq, forall_eq_or_imp] at hfx
            obtain ⟨j0, j1, j2, j3, j4⟩ := hfx
            have HR9 := Lib.hid (show StR V1 w10.heap.size rb nb eb W9 from hR)
            clear hR
            refine ⟨fun _ K hK => ?_, trivial⟩
          · have hbk := HR9.out.keep.blk HM.out.1 (by have := HNE.out.2.2.2.2.1; omega)
            have p0 := hbk.cell 0
            simp only [List.getElem?_toArray, List.getElem?_cons_zero] at p0
            have zp := hbk.lt
            clear hbk hpre hψ
            go_simp
            exact hK _ _ γ HR9.out (fun _ _ _ _ h => h) (fun _ _ _ h => h) rfl
          · have hbk := HR9.out.keep.blk HM.out.2.n (by have := HNE.out.2.2.2.2.2; omega)
            have p0 := hbk.cell 0
            simp only [List.getElem?_toArray, List.getElem?_cons_zero] at p0
            have zp := hbk.lt
            clear hbk hpre hψ
            go_simp
            exact hK _ _ γ HR9.out (fun _ _ _ _ h => h) (fun _ _ _ h => h) rfl
          · have q0 : ev (.tmp 37) = _ := hpre 0 (by decide)
            obtain ⟨v9, hv9⟩ := HR9.out.e0
            have p0 := hv9.cell 0
            simp only [List.getElem?_toArray, List.getElem?_cons_zero] at p0
            have zp := hv9.lt
            have fp := hv9.frozen
            have HVV := Lib.hid hv9
            clear hv9 hpre hψ
            go_simp
            exact hK undef _ γ (HR9.out.store (.inl rfl) HNE.out.1 _) (fun j u hj hne h9 => stPhi_keep (z := rb) ((Keep.refl (fun b => b = rb) W9).setCell rfl _) h9 (fun e => absurd e hne) (fun _ e => HNE.out.2.2.2.1.1 e.symm) (fun _ e => HNE.out.2.2.2.1.2.1 e.symm)) (fun _ _ _ h => h) (blk1_set (g := rb) HVV.out _)
          · have q0 : ev (.tmp 38) = _ := hpre 1 (by decide)
            obtain ⟨v9, hv9⟩ := HR9.out.e1
            have p0 := hv9.cell 0
            simp only [List.getElem?_toArray, List.getElem?_cons_zero] at p0
            have zp := hv9.lt
            have fp := hv9.frozen
            have HVV := Lib.hid hv9
            clear hv9 hpre hψ
            go_simp
            exact hK undef _ γ (HR9.out.store (.inr (.inl rfl)) HNE.out.2.1 _) (fun j u hj hne h9 => stPhi_keep (z := nb) ((Keep.refl (fun b => b = nb) W9).setCell rfl _) h9 (fun _ => HNE.out.2.2.2.1.1) (fun e => absurd e hne) (fun _ e => HNE.out.2.2.2.1.2.2 e.symm)) (fun _ _ _ h => h) (blk1_set (g := nb) HVV.out _)
          · obtain ⟨v9, hv9⟩ := HR9.out.e2
            have p0 := hv9.cell 0
            simp only [List.getElem?_toArray, List.getElem?_cons_zero] at p0
            have zp := hv9.lt
            have fp := hv9.frozen
            have HVV := Lib.hid hv9
            clear hv9 hpre hψ
            go_simp
            exact hK undef _ γ (HR9.out.store (.inr (.inr rfl)) HNE.out.2.2.1 _) (fun j u hj hne h9 => stPhi_keep (z := eb) ((Keep.refl (fun b => b = eb) W9).setCell rfl _) h9 (fun _ => HNE.out.2.2.2.1.2.1) (fun _ => HNE.out.2.2.2.1.2.2) (fun e => absurd e hne)) (fun _ _ _ h => h) (blk1_set (g := eb) HVV.out _)
        · intro vs W9 γ hvl hR hφ
          have q2 : Blk W9 rb 30 #[.slice (some ⟨b, off, none⟩) rn c] := hφ 2 (by decide)
          have q3 : Blk W9 nb 3 #[.int .i64 (pre.length : Int)] := hφ 3 (by decide)
          have q4 : Blk W9 eb 40 #[.int .i64 0] := hφ 4 (by decide)
          have HQ9 := Lib.hid (And.intro q2 (And.intro q3 q4))
          have HR9 := Lib.hid (show StR V1 w10.heap.size rb nb eb W9 from hR)
          clear hφ hR q2 q3 q4
          match vs, hvl with
          | [s0, s1, s2, s3, s4], _ =>
          simp [putAll]
          gi_wp2
          obtain ⟨h1, h2, h3, h4, h5, h6, k1, k2, k3⟩ := HV.out
          have hs := HSZ.out
          have hb9 := (HQ.out b).1 h2
          have hKp := HR9.out.keep
          refine ⟨(KeepsFrom.of_grownBy (grown_of_below HB9.out) (fun r e => by cases e)).trans HR9.out.kf, pre.length, b, off, c, HSM.out, ⟨HQ9.out.1, HQ9.out.2.1, HQ9.out.2.2, hKp.blk HM.out.2.n (by omega), HM.out.2.low.trans (hKp.below HM.out.2.low.size (fun b' e => by rcases e with e | e | e <;> omega))⟩, h2, fun i y hy => ?_⟩
          have hc := (HB9.out.cell (p := ⟨b, off + i, none⟩) (block_of_cell (h4 i y hy))).trans (h4 i y hy)
          exact hKp.cell (block_of_cell hc) (by omega) hc
    case done =>
      rintro D ys V hD hys ⟨_, h5, _⟩ hK
      have y0 := h5.r0.cell 0
      have y1 := h5.r1.cell 0
      have y2 := h5.r2.cell 0
      simp only [List.getElem?_toArray, List.getElem?_cons_zero] at y0 y1 y2
      have z0 := h5.r0.lt
      have z1 := h5.r1.lt
      have z2 := h5.r2.lt
      have f0 := h5.r0.frozen
      have f1 := h5.r1.frozen
      have f2 := h5.r2.frozen
      obtain ⟨W', hW'⟩ : ∃ z, z = ((V.setCell ⟨rb, 0, none⟩ (.slice none 0 0)).setCell ⟨nb, 0, none⟩ (.int .i64 0)).setCell ⟨eb, 0, none⟩ (.int .i64 60) := ⟨_, rfl⟩
      have hne : rb ≠ nb ∧ rb ≠ eb ∧ nb ≠ eb ∧ nb ≠ rb ∧ eb ≠ rb ∧ eb ≠ nb ∧ b2 ≠ rb ∧ b2 ≠ nb ∧ b2 ≠ eb ∧ w.heap.size ≤ D := by have := HSZ.out; refine ⟨?_, ?_, ?_, ?_, ?_, ?_, ?_, ?_, ?_, ?_⟩ <;> omega
      obtain ⟨n1, n2, n3, n4, n5, n6, n7, n8, n9, n10⟩ := hne
      have hdd : ∀ {z : Nat} {T : TypeId} {cs : Array Value}, Blk V z T cs → D ≠ z := fun hb e => by
        subst e
        rw [show V.heap[D]? = _ from hb] at hK
        cases hK
      have HX : Hid (SlX w rb nb eb b2 (.slice none 0 0) (.int .i64 0) (.int .i64 60) (ys.length : Int) W' ∧ W'.heap[D]? = some (.deferred (some []))) := Lib.hid (by
        rw [hW']
        refine ⟨⟨((blk1_set (g := rb) h5.r0 _).far n1 _).far n2 _, (blk1_set (g := nb) (h5.r1.far n4 _) _).far n3 _, blk1_set (g := eb) ((h5.r2.far n5 _).far n6 _) _, ((h5.n.far n7 _).far n8 _).far n9 _, ?_⟩, ?_⟩
        · have hs := HSZ.out
          exact ((h5.low.setCell (by show w.heap.size ≤ rb; omega) _).setCell (by show w.heap.size ≤ nb; omega) _).setCell (by show w.heap.size ≤ eb; omega) _
        · rw [Below.heap_setCell _ _ _ _ (hdd h5.r2), Below.heap_setCell _ _ _ _ (hdd h5.r1), Below.heap_setCell _ _ _ _ (hdd h5.r0)]
          exact hK)
      clear h5 hK hys hdd
      gi_wp2
      rw [← hW']
      refine ⟨by simp, .inl ⟨_, _, rfl, run_takeDeferred HX.out.2, ?_⟩⟩
      have H2 := HX.out.1.put HX.out.2 rfl n10 (.deferred none)
      have q0 := H2.r0.cell 0
      have q1 := H2.r1.cell 0
      have q2 := H2.r2.cell 0
      simp only [List.getElem?_toArray, List.getElem?_cons_zero] at q0 q1 q2
      exact ⟨_, by simp [results, Try.results25, go_sem, q0, q1, q2], H2.low, .inl rfl⟩
    case stop =>
      rintro D pre V hD ⟨k, b, off, c, h1, h5, h2, h4⟩ hK
      have n10 : w.heap.size ≤ D := by have := HSZ.out; omega
      have HX := Lib.hid (And.intro h1 (And.intro h5 (And.intro h2 (And.intro h4 hK))))
      clear h1 h5 h2 h4 hK
      gi_wp2
      refine ⟨by simp, .inl ⟨_, _, rfl, run_takeDeferred HX.out.2.2.2.2, ?_⟩⟩
      obtain ⟨h1, h5, h2, h4, hK⟩ := HX.out
      have H2 := h5.put hK rfl n10 (.deferred none)
      have q0 := H2.r0.cell 0
      have q1 := H2.r1.cell 0
      have q2 := H2.r2.cell 0
      simp only [List.getElem?_toArray, List.getElem?_cons_zero] at q0 q1 q2
      refine ⟨_, by simp [results, Try.results25, go_sem, q0, q1, q2], H2.low, .inr ⟨k, b, off, c, h1, rfl, ?_⟩⟩
      exact rd_cells (by rw [(HIT.out _).1, HALL9.out.2]) HALL9.out.1.1 (cells_own h4 (grownBy_putObj' V D _) (fun r e => by cases e; exact .inr ⟨_, hK, rfl⟩))
end Go.Proofs.Ytldbciflpnhfpaa
