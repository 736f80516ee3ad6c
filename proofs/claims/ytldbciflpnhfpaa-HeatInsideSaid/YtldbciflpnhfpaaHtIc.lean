/- heat: seconds over an iterator of cases: the temperatures after each case. -/
import Derived.Test.YtldbciflpnhfpaaHtIb
import Derived.Test.YtldbciflpnhfpaaRgY

set_option linter.unusedSimpArgs false
set_option linter.unusedVariables false
namespace Go.Proofs.Ytldbciflpnhfpaa
open Go.RowKit Go.Shelf
attribute [local go_sem] Oper.semAt_some

theorem KpO.ks {Sf : Nat → Obj → Prop} {S : Nat → Prop} {A B : World} (h : KpO Sf A B) (hs : ∀ b, S b → ∀ o, Sf b o) : KpS S A B := ⟨h.1, fun p v hp e => by
  obtain ⟨o, ho, hc⟩ := cells_of_cell e
  exact (World.cell?_of_block ((h.2 p.block o (hs _ hp o) ho hc).trans ho.symm)).trans e⟩
/-- A case with the numbers of its loads. -/
abbrev Cz := Cs × List Int
def itC (h : Hl) (t : List Int) (l : List Cz) : List Int := l.foldl (fun u x => nxL h u x.2 x.1.out x.1.pump) t
theorem itC_snoc (h : Hl) (t : List Int) (l : List Cz) (x : Cz) : itC h t (l ++ [x]) = nxL h (itC h t l) x.2 x.1.out x.1.pump := by simp [itC]
structure CzOk (w : World) (B rn : Nat) (x : Cz) : Prop where
  n : x.1.n = rn
  rd : Rd w B 1 encI x.1.A rn x.2
  bd : ∀ y ∈ x.2, 0 ≤ y ∧ y ≤ 10000000
  o : 0 ≤ x.1.out ∧ x.1.out ≤ 1000000
  p : 0 ≤ x.1.pump ∧ x.1.pump ≤ 100000
theorem itC_ok {h : Hl} (ok : HlOk h) {w : World} {B rn : Nat} {t : List Int} (ht : t.length = h.rooms.length) (hb : ∀ y ∈ t, 0 ≤ y ∧ y ≤ 1000000) : ∀ (l : List Cz), (∀ x ∈ l, CzOk w B rn x) → (itC h t l).length = h.rooms.length ∧ ∀ y ∈ itC h t l, 0 ≤ y ∧ y ≤ 1000000 := by
  have nn {m : List Int} {hi : Int} (hm : ∀ y ∈ m, 0 ≤ y ∧ y ≤ hi) (i : Nat) : 0 ≤ m.getD i 0 := by
    rw [List.getD_eq_getElem?_getD]
    by_cases h9 : i < m.length
    · rw [List.getElem?_eq_getElem h9]; exact (hm _ (List.getElem_mem h9)).1
    · rw [List.getElem?_eq_none (by omega)]; exact Int.le_refl _
  intro l
  generalize hn : l.length = k
  induction k generalizing l with
  | zero =>
    obtain rfl := List.length_eq_zero_iff.1 hn
    exact fun _ => ⟨ht, hb⟩
  | succ k ih =>
    intro hl
    obtain ⟨m, x, rfl⟩ : ∃ m x, l = m ++ [x] := ⟨l.dropLast, l.getLast (by intro e; rw [e] at hn; simp at hn), (List.dropLast_concat_getLast _).symm⟩
    have hx := hl x (by simp)
    have ih2 := ih m (by simpa using hn) (fun y hy => hl y (by simp [hy]))
    rw [itC_snoc]
    refine ⟨nxL_len _ _ _ _ _, fun y hy => ?_⟩
    simp only [nxL] at hy
    obtain ⟨j, hj, rfl⟩ := List.mem_map.1 hy
    exact nxV_bd ok hx.p hx.o.1 (nn ih2.2) (nn hx.bd) (List.mem_range.1 hj)
/-- The list under way, as a slice in a box; its block is none of those between. -/
def CurP (B n nowB : Nat) (L : List Int) (V : World) : Prop := ∃ (b off c : Nat), Blk V nowB 30 #[.slice (some ⟨b, off, none⟩) n c] ∧ (b < B ∨ B + 2 ≤ b) ∧ L.length = n ∧ ∀ (i : Nat) (x : Int), L[i]? = some x → V.cell? ⟨b, off + i, none⟩ = some (.int .i64 x)
theorem CurP.rd {B n nowB : Nat} {L : List Int} {V : World} (hn : 1 ≤ n) (h : CurP B n nowB L V) : ∃ (b off c : Nat), Blk V nowB 30 #[.slice (some ⟨b, off, none⟩) n c] ∧ Rd V V.heap.size 1 encI (some ⟨b, off, none⟩) n L := by
  obtain ⟨b, off, c, h1, _, h3, h4⟩ := h
  exact (CurIs.rd (Sf := fun _ => True) hn ⟨b, off, c, h1, trivial, h3, h4⟩)
theorem cells_own9 {V V' : World} {row : Option Nat} {b off : Nat} {L : List Int} (h : ∀ (i : Nat) (x : Int), L[i]? = some x → V.cell? ⟨b, off + i, none⟩ = some (.int .i64 x)) (hg : V.grownBy V' row) (hr : ∀ r, row = some r → r ≠ b ∨ ∃ o : Obj, V.heap[r]? = some o ∧ o.isCells = false) : ∀ (i : Nat) (x : Int), L[i]? = some x → V'.cell? ⟨b, off + i, none⟩ = some (.int .i64 x) := fun i x hx => by
  have hc := h i x hx
  refine (World.cell?_of_block (w := V) (hg.block b (block_of_cell hc) (fun e => ?_))).trans hc
  rcases hr b e.symm with h9 | ⟨o, ho, hn⟩
  · exact h9 rfl
  · obtain ⟨o2, ho2, hc2⟩ := cells_of_cell hc
    rw [show V.heap[b]? = _ from ho2] at ho
    cases ho
    rw [hn] at hc2
    cases hc2
theorem CurP.own {B n nowB : Nat} {L : List Int} {V V' : World} {row : Option Nat} (h : CurP B n nowB L V) (hg : V.grownBy V' row) (hr : ∀ r, row = some r → ∃ o : Obj, V.heap[r]? = some o ∧ o.isCells = false) : CurP B n nowB L V' := by
  obtain ⟨b, off, c, h1, h2, h3, h4⟩ := h
  exact ⟨b, off, c, own_row h1 hg hr, h2, h3, cells_own9 h4 hg (fun r e => .inr (hr r e))⟩
theorem ownq0 {A : World} {row : Option Nat} {B : Nat} (hr : ∀ r, row = some r → B ≤ r ∧ ((B + 2 ≤ r ∧ r < B + 2 + 0) ∨ ∃ o : Obj, A.heap[r]? = some o ∧ o.isCells = false)) : ∀ r, row = some r → B ≤ r ∧ ∃ o : Obj, A.heap[r]? = some o ∧ o.isCells = false :=
  fun r e => ⟨(hr r e).1, (hr r e).2.resolve_left (fun h => by omega)⟩
def encCz (x : Cz) : Array Value := #[.agg #[.slice x.1.A x.1.n x.1.c, .int .i64 x.1.out, .int .i64 x.1.pump]]
def XCs (cl : List Cz) : Nat → List Cz → Cz → World → Prop := fun _ pre x _ => cl[pre.length]? = some x
def XSc (h : Hl) (t : List Int) (cl : List Cz) : Nat → List Nat → Nat → World → Prop := fun B pre b W => Blk W b 3 (intsA (itC h t (cl.take (pre.length + 1)))) ∧ B + 2 ≤ b ∧ pre.length < cl.length
set_option maxRecDepth 100000 in
set_option maxHeartbeats 4000000 in
theorem seconds_y (n : Nat) (hn : 4 ≤ n) (rA wA bA cA tA : Option Addr) (rn rc wn wc bn bc cn cc tc : Nat) (h : Hl) (ok : HlOk h) (t : List Int) (cl : List Cz) (tB qB hB B0 gf : Nat) (lb0 : Array Value) (Sf : Nat → Obj → Prop) (G : (Nat → Obj → Prop) → Prop) (w : World)
    (hin : HlIn w B0 ⟨rA, wA, bA, cA, rn, wn, bn, cn⟩ h) (ht : Rd w B0 1 encI tA rn t) (htb : ∀ y ∈ t, 0 ≤ y ∧ y ≤ 1000000) (hcl : ∀ x ∈ cl, CzOk w B0 rn x) (hB0 : B0 ≤ w.heap.size)
    (hS0 : ∀ b o, b < B0 → Sf b o) (hS1 : ∀ o, Sf hB o ∧ Sf (w.heap.size + 2) o ∧ Sf (w.heap.size + 3) o) (hS2 : ∀ b cs, w.heap.size + 4 ≤ b → Sf b (.cells cs 3)) (hG : ∀ oB, w.heap.size ≤ oB → G (fun b o => Sf b o ∧ b ≠ oB))
    (eg : ∀ args w, (callFunc gf args).run Try.prog w = .ok (.enter gf args) w)
    (hq : ∀ (Sg : Nat → Obj → Prop) (W : World), Below w.heap.size w W → G Sg → SeqY Fence.wide (n - 1) Try.prog gf lb0 encCz (KpO Sg) (XCs cl) (fun xs => xs = cl) 0 W)
    (ct : Blk w tB 30 #[.slice tA rn tc]) (cq : Blk w qB 97 #[.func (.func gf) #[] lb0]) (ch : Blk w hB 28 #[.slice rA rn rc, .slice wA wn wc, .slice bA bn bc, .slice cA cn cc]) :
    SeqY Fence.wide n Try.prog 68 #[.pointer (some ⟨tB, 0, none⟩), .pointer (some ⟨qB, 0, none⟩), .pointer (some ⟨hB, 0, none⟩)] (fun b : Nat => #[.slice (some ⟨b, 0, none⟩) rn rn]) (KpO Sf) (XSc h t cl) (fun xs => xs.length = cl.length) 2 w := by
  intro lp J Jx W hW hWz hJ hJx hY h0
  have hrn : h.rooms.length = rn := hin.rm.1
  have hn1 : 1 ≤ rn := by rw [← hrn]; exact ok.n1
  obtain ⟨tb, to, rfl, htb0, htc⟩ := ht.2 (by omega)
  have HIT := Lib.hid (fun k => itC_ok ok (w := w) (B := B0) (rn := rn) (by rw [ht.1, hrn]) htb (cl.take k) (fun x hx => hcl x (List.mem_of_mem_take hx)))
  have q1 := (ct.below hW ct.lt).cell 0
  have q2 := (cq.below hW cq.lt).cell 0
  have z1 := (ct.below hW ct.lt).lt
  have z2 := (cq.below hW cq.lt).lt
  simp only [List.getElem?_toArray, List.getElem?_cons_zero] at q1 q2
  have g1 : W.heap.size < W.heap.size + 1 := by omega
  have z2b : qB < W.heap.size + 1 := by omega
  have z2c : qB < W.heap.size + 1 + 1 := by omega
  have z1b : tB < W.heap.size + 1 := by omega
  have CH := Lib.hid (ch.below hW ch.lt)
  have HIN := Lib.hid (hin.below (hW.mono hB0))
  have HCZ : Hid (∀ x ∈ cl, CzOk W B0 rn x) := Lib.hid (fun x hx => ⟨(hcl x hx).n, (hcl x hx).rd.below (hW.mono hB0), (hcl x hx).bd, (hcl x hx).o, (hcl x hx).p⟩)
  have HTC : Hid (∀ i x, t[i]? = some x → W.cell? ⟨tb, to + i, none⟩ = some (.int .i64 x)) := Lib.hid (fun i x hx => by
    have h9 := htc i x hx 0 (.int .i64 x) rfl
    rw [Nat.mul_one, Nat.add_zero] at h9
    exact (hW.cell (p := ⟨tb, to + i, none⟩) (by show tb < w.heap.size; omega)).trans h9)
  have HTL : Hid (t.length = rn) := Lib.hid ht.1
  have HWZ := Lib.hid hWz
  have hWs : w.heap.size ≤ W.heap.size := hW.size
  have HWB := Lib.hid hW
  have HSZ0 : Hid (tB < W.heap.size ∧ qB < W.heap.size ∧ hB < W.heap.size) := Lib.hid ⟨z1, z2, CH.out.lt⟩
  clear ct cq ch hin ht htc hW hcl hWz
  refine callsIn_of_wp_marks Try.func68 rfl trivial ?_
  simp only [Try.ntmps68, List.size_toArray, List.length_cons, List.length_nil, Nat.reduceAdd, Nat.reduceSub, Array.replicate_succ, Array.replicate_zero, List.push_toArray, List.append_toArray, List.nil_append, List.cons_append]
  gi_wp2
  obtain ⟨yB, hyB⟩ : ∃ z, z = W.heap.size := ⟨_, rfl⟩
  obtain ⟨oB, hoB⟩ : ∃ z, z = yB + 1 := ⟨_, rfl⟩
  obtain ⟨W0, hW0⟩ : ∃ z, z = (W.alloc (.cells #[.func (.yield lp) #[] #[]] 122)).alloc (.cells #[.slice (some ⟨tb, to, none⟩) rn tc] 30) := ⟨_, rfl⟩
  have hs0 : W0.heap.size = W.heap.size + 2 := by rw [hW0]; simp
  have hB0' : Below W.heap.size W W0 := by rw [hW0]; exact ((Below.refl _ _).alloc (Nat.le_refl _) _).alloc (by simp) _
  have bY : Blk W0 yB 122 #[.func (.yield lp) #[] #[]] := by rw [hW0, hyB]; exact Blk.alloc (heap_alloc_new W _) _
  have bO : Blk W0 oB 30 #[.slice (some ⟨tb, to, none⟩) rn tc] := by
    have e2 := heap_alloc_new (W.alloc (.cells #[.func (.yield lp) #[] #[]] 122)) (.cells #[.slice (some ⟨tb, to, none⟩) rn tc] 30)
    rw [World.size_alloc] at e2
    rw [hW0, hoB, hyB]
    exact e2
  have hJ0 : J [] W0 := hJ.grow h0 hB0'
  rw [← hW0, ← hyB, ← hoB]
  have CH0 := Lib.hid (CH.out.below hB0' CH.out.lt)
  have HIN0 := Lib.hid (HIN.out.below (hB0'.mono (Nat.le_trans hB0 hWs)))
  have HCZ0 : Hid (∀ x ∈ cl, CzOk W0 B0 rn x) := Lib.hid (fun x hx => ⟨(HCZ.out x hx).n, (HCZ.out x hx).rd.below (hB0'.mono (Nat.le_trans hB0 hWs)), (HCZ.out x hx).bd, (HCZ.out x hx).o, (HCZ.out x hx).p⟩)
  have HYO : Hid (yB + 1 = oB ∧ yB = W.heap.size ∧ W0.heap.size = oB + 1 ∧ yB = w.heap.size + 2) := Lib.hid ⟨hoB.symm, hyB, by omega, by rw [hyB]; exact HWZ.out⟩
  have HBY := Lib.hid bY
  have HW0 : Hid (Below w.heap.size w W0) := Lib.hid (below3 HWB.out hB0' (Nat.le_refl _))
  obtain ⟨Sg, hSg⟩ : ∃ z : Nat → Obj → Prop, z = fun b o => Sf b o ∧ b ≠ oB := ⟨_, rfl⟩
  have HGS : Hid (G Sg) := Lib.hid (by rw [hSg]; exact hG oB (by omega))
  have HSG : Hid ((∀ b o, b < B0 → Sg b o) ∧ (∀ o, Sg hB o) ∧ (∀ o, Sg yB o) ∧ (∀ X Y, KpO Sf X Y → KpO Sg X Y) ∧ (∀ (X : World) (u : Value), KpO Sg X (X.setCell ⟨oB, 0, none⟩ u))) := Lib.hid (by
    subst hSg
    have h9 := HYO.out
    have h8 := HSZ0.out
    exact ⟨fun b o hb => ⟨hS0 b o hb, by omega⟩, fun o => ⟨(hS1 o).1, by omega⟩, fun o => ⟨by rw [h9.2.2.2]; exact (hS1 o).2.1, by omega⟩, fun X Y h9 => ⟨h9.1, fun b o hb e hc => h9.2 b o hb.1 e hc⟩, fun X u => KpO.grown (grown_set X oB 0 u) (fun r o e _ hr => by cases e; exact hr.2 rfl)⟩)
  have HC0 : Hid (CurP W0.heap.size rn oB (itC h t (cl.take 0)) W0) := Lib.hid ⟨tb, to, tc, bO, .inl (by omega), HTL.out, fun i x hx => (hB0'.cell (p := ⟨tb, to + i, none⟩) (block_of_cell (HTC.out i x hx))).trans (HTC.out i x hx)⟩
  clear hSg hyB hoB q1 q2 z1 z2 g1 z2b z2c z1b bO hW0 HTC bY
  refine wpIn_range_y rfl (by omega) (gf := gf) (lb := lb0) rfl trivial eg (hq Sg W0 HW0.out HGS.out) (fun _ => rfl)
    (fun h k => KpO.trans h k) (fun W l o o' _ ho hc _ => KpO.putObj W l o o' ho hc)
    (fun (pre : List Cz) V => pre = cl.take pre.length ∧ ∃ xs : List Nat, xs.length = pre.length ∧ J xs V ∧ KpO Sg W0 V ∧ CurP W0.heap.size rn oB (itC h t (cl.take pre.length)) V ∧ Blk V yB 122 #[.func (.yield lp) #[] #[]])
    (fun _ V => ∃ xs, Jx xs V)
    ?own ?ownx ?start
    (fun pre x a' V => ∃ xB, Blk V xB 35 #[.slice x.1.A x.1.n x.1.c, .int .i64 x.1.out, .int .i64 x.1.pump] ∧ a' = { tmps := #[.func (.yield lp) #[] #[], .pointer (some ⟨tB, 0, none⟩), .pointer (some ⟨qB, 0, none⟩), .pointer (some ⟨hB, 0, none⟩), .pointer (some ⟨yB, 0, none⟩), .pointer (some ⟨oB, 0, none⟩), .pointer (some ⟨xB, 0, none⟩), .slice (some ⟨tb, to, none⟩) rn tc, .func (.func gf) #[] lb0, .agg #[.slice x.1.A x.1.n x.1.c, .int .i64 x.1.out, .int .i64 x.1.pump], undef, undef, undef, undef, undef, undef, undef, undef], defers := [] })
    ?hAx ?hX ?assign ?body ?done ?stop
  case own =>
    rintro pre A B row ⟨h0, xs, h1, h2, h3, h4, h5⟩ hg hr
    have hr2 := ownq0 hr
    exact ⟨h0, xs, h1, hJ xs A B row h2 hg (fun r e => ⟨by have := (hr2 r e).1; omega, Or.inr (hr2 r e).2⟩), h3.own hg (fun r e => (hr2 r e).2), h4.own hg (fun r e => (hr2 r e).2), own_row h5 hg (fun r e => (hr2 r e).2)⟩
  case ownx =>
    rintro pre A B row ⟨xs, h2⟩ hg hr
    have hr2 := ownq0 hr
    exact ⟨xs, hJx xs A B row h2 hg (fun r e => ⟨by have := (hr2 r e).1; omega, Or.inr (hr2 r e).2⟩)⟩
  case start => exact ⟨rfl, [], rfl, hJ0, KpO.refl _ _, HC0.out, HBY.out⟩
  case hAx =>
    rintro pre x a' V l9 o o' ⟨xB, h2, h3⟩ hl9 ho hc
    exact ⟨xB, own_row h2 (grownBy_putObj' V l9 o') (fun r e => by cases e; exact ⟨o, ho, hc⟩), h3⟩
  case hX =>
    intro pre x V l9 o o' hx _ _ _
    exact hx
  case assign =>
    rintro l' pre x V K ⟨h0, xs, h1, h2, h3, h4, h5⟩ hx hK
    have hg := World.grownBy_alloc V (.cells #[.slice x.1.A x.1.n x.1.c, .int .i64 x.1.out, .int .i64 x.1.pump] 35) none
    unfold encCz
    gi_wp2
    exact hK _ _ ((KeepsOthers.alloc _ _).from _) (KpO.grown hg (by simp)) ⟨h0, xs, h1, hJ.alloc _ h2, KpO.trans h3 (KpO.grown hg (by simp)), h4.own hg (by simp), h5.alloc _⟩ hx ⟨V.heap.size, heap_alloc_new V _, rfl⟩
  case body =>
    rintro l' pre x a' V hl' ⟨r, hr⟩ ⟨h0, xs, h1, h2, h3, h4, h5⟩ hx ⟨xB, bX, rfl⟩
    have hx : cl[pre.length]? = some x := hx
    have HR1 := Lib.hid hr
    obtain ⟨b, off, c, hb, hrd⟩ := h4.rd hn1
    have bH := h3.blk (HSG.out.2.1 _) CH0.out
    have hSz := h3.1
    have hks := h3.ks (S := fun b => b < B0) (fun b hb o => HSG.out.1 b o hb)
    have hinV : HlIn V V.heap.size ⟨rA, wA, bA, cA, rn, wn, bn, cn⟩ h := ⟨(HIN0.out.rm.ks hks (fun _ h => h)).more (by omega), (HIN0.out.wl.ks hks (fun _ h => h)).more (by omega), (HIN0.out.br.ks hks (fun _ h => h)).more (by omega), (HIN0.out.cl.ks hks (fun _ h => h)).more (by omega)⟩
    have hz := HCZ0.out x (List.mem_of_getElem? hx)
    obtain ⟨⟨xA, xn, xc, xo, xp⟩, xl⟩ := x
    obtain rfl : xn = rn := hz.n
    have HN := Lib.hid (nextS_any rA wA bA cA xA (some ⟨b, off, none⟩) xn rc wn wc bn bc cn cc xc c xo xp h (itC h t (cl.take pre.length)) xl V hinV ok hz.o hz.p hrd (HIT.out pre.length).2 ((hz.rd.ks hks (fun _ h => h)).more (by omega)) hz.bd)
    have HTK : Hid (itC h t (cl.take (pre.length + 1)) = nxL h (itC h t (cl.take pre.length)) xl xo xp ∧ pre ++ [(⟨⟨xA, xn, xc, xo, xp⟩, xl⟩ : Cz)] = cl.take (pre.length + 1) ∧ pre.length < cl.length) := Lib.hid (by
      have e9 : cl.take (pre.length + 1) = cl.take pre.length ++ [(⟨⟨xA, xn, xc, xo, xp⟩, xl⟩ : Cz)] := by rw [List.take_add_one, hx]; rfl
      refine ⟨by rw [e9, itC_snoc], by rw [e9, ← h0], (List.getElem?_eq_some_iff.1 hx).1⟩)
    have c0 := bH.cell 0
    have c1 := bH.cell 1
    have c2 := bH.cell 2
    have c3 := bH.cell 3
    have zh := bH.lt
    have d0 := bX.cell 0
    have d1 := bX.cell 1
    have d2 := bX.cell 2
    have zx := bX.lt
    have e0 := hb.cell 0
    have zo := hb.lt
    simp only [List.getElem?_toArray, List.getElem?_cons_zero, List.getElem?_cons_succ] at c0 c1 c2 c3 d0 d1 d2 e0
    have HS := Lib.hid (And.intro h1 (And.intro h2 (And.intro h3 (And.intro h4 (And.intro h5 hb)))))
    clear bH hinV bX hb hrd h0 h1 h2 h3 h4 h5 hr hx hks hz
    gi_wp2_with fail
    refine ⟨trivial, fun h9 => absurd h9 (by simp [Fence.wide]), ?_⟩
    refine (CallsIn.inRound l' (callsIn_wide.2 HN.out)).mono ?_
    rintro e V1 ⟨lb, rfl, hx, hle, hB1⟩
    rw [← HTK.out.1] at hx
    obtain ⟨h1, h2, h3, h4, h5, hb⟩ := HS.out
    have hbo := hb.below hB1 hb.lt
    have hby := h5.below hB1 h5.lt
    have cY := hby.cell 0
    have zY := hby.lt
    have fO := hbo.frozen
    have eO := hbo.cell 0
    have zO := hbo.lt
    simp only [List.getElem?_toArray, List.getElem?_cons_zero] at cY eO
    have hyo := HYO.out
    have hne : yB ≠ oB := by omega
    have hne2 : oB ≠ yB := by omega
    have J1 := hJ.grow h2 hB1
    have J2 : J xs (V1.setCell ⟨oB, 0, none⟩ (.slice (some ⟨lb, 0, none⟩) xn xn)) := hJ.cell _ J1 (by omega) (by omega)
    have hV2 : W0.heap.size + 2 ≤ V.heap.size := by
      have h9 := (Array.getElem?_eq_some_iff.1 HR1.out).1
      omega
    have hge : W.heap.size + 2 ≤ lb := by omega
    have hxo : lb ≠ oB := by omega
    have HGE : Hid (W0.heap.size + 2 ≤ lb) := Lib.hid (by omega)
    have X2 : XSc h t cl W.heap.size xs lb (V1.setCell ⟨oB, 0, none⟩ (.slice (some ⟨lb, 0, none⟩) xn xn)) := ⟨by rw [h1]; exact hx.far hxo _, hge, by rw [h1]; exact HTK.out.2.2⟩
    obtain ⟨fn, tmps, assign, body, hy', hR⟩ := hY xs lb _ J2 X2
    have HR9 := Lib.hid (roundIn_in (l' := l') (m := n - 1 - 1 - 1) hR)
    have HF := Lib.hid (And.intro hbo (And.intro hby (And.intro hB1 hx)))
    clear hbo hby hx hR J1 J2 X2 h1 h2 h3 h4 h5 hb hyo hge hxo hV2
    gi_wp2
    refine ⟨fun h9 => absurd h9 (by simp [Fence.wide]), HR9.out.mono ?_⟩
    obtain ⟨hbo, hby, hB1, hx⟩ := HF.out
    have hg9 := grown_set V1 oB 0 (.slice (some ⟨lb, 0, none⟩) xn xn)
    obtain ⟨h1, h2, h3, h4, h5, hb⟩ := HS.out
    obtain ⟨s1, s2, s3, s4, s5⟩ := HSG.out
    have hyo := HYO.out
    have hge := HGE.out
    have hxo : lb ≠ oB := by omega
    have K1 : KpO Sg V (V1.setCell ⟨oB, 0, none⟩ (.slice (some ⟨lb, 0, none⟩) xn xn)) := KpO.trans (KpO.below hB1) (s5 V1 _)
    have F1 : KeepsFrom W0.heap.size V (V1.setCell ⟨oB, 0, none⟩ (.slice (some ⟨lb, 0, none⟩) xn xn)) := (KeepsFrom.of_grownBy (grown_of_below hB1) (fun r e => by cases e)).trans (KeepsFrom.of_grownBy hg9 (fun r e => by cases e; omega))
    have F2 : ∀ {X Y : World}, KeepsFrom W.heap.size X Y → KeepsFrom W0.heap.size X Y := fun h9 => ⟨h9.size, fun k o hk => h9.same k o (by omega)⟩
    rintro e V2 (⟨rfl, hJ2, hk2, hf2⟩ | ⟨rfl, hJx2, hf2⟩)
    · gi_wp2
      have b2 : Blk V2 lb 3 (intsA (itC h t (cl.take (pre.length + 1)))) := hk2.blk (hS2 lb _ (by omega)) (hx.far hxo _)
      have o2 : Blk V2 oB 30 #[.slice (some ⟨lb, 0, none⟩) xn xn] := hk2.blk (by rw [show oB = w.heap.size + 3 by omega]; exact (hS1 _).2.2) (by have h9 := hbo.set_ 0 (.slice (some ⟨lb, 0, none⟩) xn xn); simpa using h9)
      have y2 : Blk V2 yB 122 #[.func (.yield lp) #[] #[]] := hk2.blk (by rw [show yB = w.heap.size + 2 by omega]; exact (hS1 _).2.1) (hby.far hne _)
      refine ⟨F1.trans (F2 hf2), K1.trans (s4 _ _ hk2), ?_, xs ++ [lb], by simp [h1], hJ2, (h3.trans K1).trans (s4 _ _ hk2), ?_, y2⟩
      · rw [List.length_append, List.length_singleton]
        exact HTK.out.2.1
      · rw [List.length_append, List.length_singleton]
        exact ⟨lb, 0, xn, o2, .inr hge, by rw [(HIT.out _).1, hrn], fun i x hx => by rw [Nat.zero_add]; exact b2.intAt hx⟩
    · gi_wp2
      exact ⟨F1.trans (F2 hf2), _, hJx2⟩
  case done =>
    rintro D ys V hD hys ⟨_, xs, h1, h2, h3, h4, h5⟩ hK
    have HF : Hid (xs.length = cl.length ∧ J xs (V.putObj D (.deferred none))) := Lib.hid ⟨by rw [h1, hys], hJ.putObj _ h2 (by omega) hK rfl⟩
    have HKD := Lib.hid hK
    clear h1 h2 h3 h4 h5 hys hK
    gi_wp2
    refine ⟨by simp, .inl ⟨_, _, rfl, run_takeDeferred HKD.out, ?_⟩⟩
    refine ⟨_, results_none rfl _ _ _, ?_⟩
    exact ⟨⟨_, rfl⟩, .inl ⟨_, HF.out⟩⟩
  case stop =>
    rintro D pre V hD ⟨xs, h2⟩ hK
    have HF : Hid (Jx xs (V.putObj D (.deferred none))) := Lib.hid (hJx.putObj _ h2 (by omega) hK rfl)
    have HKD := Lib.hid hK
    clear h2 hK
    gi_wp2
    refine ⟨by simp, .inl ⟨_, _, rfl, run_takeDeferred HKD.out, ?_⟩⟩
    refine ⟨_, results_none rfl _ _ _, ?_⟩
    exact ⟨⟨_, rfl⟩, .inr ⟨_, HF.out⟩⟩
end Go.Proofs.Ytldbciflpnhfpaa
