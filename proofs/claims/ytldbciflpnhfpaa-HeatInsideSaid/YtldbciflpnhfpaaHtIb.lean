/- heat: seconds over always: the temperatures after each second of one case. -/
import Derived.Test.YtldbciflpnhfpaaHtIa
import Derived.Test.YtldbciflpnhfpaaHtK
import Derived.Test.YtldbciflpnhfpaaHtY

set_option linter.unusedSimpArgs false
set_option linter.unusedVariables false
namespace Go.Proofs.Ytldbciflpnhfpaa
open Go.RowKit Go.Shelf
attribute [local go_sem] Oper.semAt_some

/-- The temperatures after so many seconds. -/
def itL (h : Hl) (l : List Int) (out pump : Int) (t : List Int) : Nat → List Int
  | 0 => t
  | k + 1 => nxL h (itL h l out pump t k) l out pump
theorem roundIn_wide {n m l : Nat} {P : Program} {f : FuncId} {tm : Array Value} {asg bd : Code} {W : World} {R : Ending → World → Prop} (h : RoundIn Fence.wide n P l f tm asg bd W R) : RoundIn Fence.wide m P l f tm asg bd W R :=
  ⟨h.1, fun c cs _ => h.2 c cs (fun d hd => by simp [Fence.wide] at hd)⟩
theorem roundIn_in {n m l l' : Nat} {P : Program} {f : FuncId} {tm : Array Value} {asg bd : Code} {W : World} {R : Ending → World → Prop} (h : RoundIn Fence.wide n P l f tm asg bd W R) : RoundIn (Fence.wide.inRound l') m P l f tm asg bd W R :=
  ⟨h.1, fun c cs _ => h.2 c cs (fun d hd => by simp [Fence.wide] at hd)⟩
/-- The list under way, as a slice in a box. -/
def CurIs (Sf : Nat → Prop) (n : Nat) (nowB : Nat) (L : List Int) (V : World) : Prop := ∃ (b off c : Nat), Blk V nowB 30 #[.slice (some ⟨b, off, none⟩) n c] ∧ Sf b ∧ L.length = n ∧ ∀ (i : Nat) (x : Int), L[i]? = some x → V.cell? ⟨b, off + i, none⟩ = some (.int .i64 x)
theorem CurIs.rd {Sf : Nat → Prop} {n nowB : Nat} {L : List Int} {V : World} (hn : 1 ≤ n) (h : CurIs Sf n nowB L V) : ∃ (b off c : Nat), Blk V nowB 30 #[.slice (some ⟨b, off, none⟩) n c] ∧ Rd V V.heap.size 1 encI (some ⟨b, off, none⟩) n L := by
  obtain ⟨b, off, c, h1, _, h3, h4⟩ := h
  refine ⟨b, off, c, h1, h3, fun _ => ⟨b, off, rfl, ?_, fun i x hx j u hu => ?_⟩⟩
  · obtain ⟨x, hx⟩ : ∃ x, L[0]? = some x := ⟨_, List.getElem?_eq_getElem (by omega)⟩
    exact block_of_cell (h4 0 x hx)
  · match j, hu with
    | 0, hu =>
      simp only [encI, List.getElem?_cons_zero, Option.some.injEq] at hu
      subst hu
      rw [Nat.mul_one, Nat.add_zero]
      exact h4 i x hx
theorem own_row {V V' : World} {row : Option Nat} {b : Nat} {T : TypeId} {cs : Array Value} (h : Blk V b T cs) (hg : V.grownBy V' row) (hr : ∀ r, row = some r → ∃ o : Obj, V.heap[r]? = some o ∧ o.isCells = false) : Blk V' b T cs :=
  h.kept hg (fun e => by obtain ⟨o, ho, hc⟩ := hr b e.symm; rw [show V.heap[b]? = _ from h] at ho; cases ho; cases hc)
theorem CurIs.own {Sf : Nat → Prop} {n nowB : Nat} {L : List Int} {V V' : World} {row : Option Nat} (h : CurIs Sf n nowB L V) (hg : V.grownBy V' row) (hr : ∀ r, row = some r → ∃ o : Obj, V.heap[r]? = some o ∧ o.isCells = false) : CurIs Sf n nowB L V' := by
  obtain ⟨b, off, c, h1, h2, h3, h4⟩ := h
  exact ⟨b, off, c, own_row h1 hg hr, h2, h3, fun i x hx => cell_kept (h4 i x hx) hg hr⟩
theorem itL_ok {h : Hl} (ok : HlOk h) {l : List Int} {out pump : Int} {t : List Int} (ht : t.length = h.rooms.length) (hb : ∀ y ∈ t, 0 ≤ y ∧ y ≤ 1000000) (hl : ∀ y ∈ l, 0 ≤ y ∧ y ≤ 10000000) (ho : 0 ≤ out) (hp : 0 ≤ pump ∧ pump ≤ 100000) : ∀ k, (itL h l out pump t k).length = h.rooms.length ∧ ∀ y ∈ itL h l out pump t k, 0 ≤ y ∧ y ≤ 1000000 := by
  have nn {m : List Int} {hi : Int} (hm : ∀ y ∈ m, 0 ≤ y ∧ y ≤ hi) (i : Nat) : 0 ≤ m.getD i 0 := by
    rw [List.getD_eq_getElem?_getD]
    by_cases h9 : i < m.length
    · rw [List.getElem?_eq_getElem h9]; exact (hm _ (List.getElem_mem h9)).1
    · rw [List.getElem?_eq_none (by omega)]; exact Int.le_refl _
  intro k
  induction k with
  | zero => exact ⟨ht, hb⟩
  | succ k ih =>
    refine ⟨by simp only [itL]; rw [nxL_len], fun y hy => ?_⟩
    simp only [itL, nxL] at hy
    obtain ⟨j, hj, rfl⟩ := List.mem_map.1 hy
    exact nxV_bd ok hp ho (nn ih.2) (nn hl) (List.mem_range.1 hj)
def XSec (h : Hl) (l : List Int) (out pump : Int) (t : List Int) (cnt : Nat) : Nat → List Nat → Nat → World → Prop := fun B pre b W => Blk W b 3 (intsA (itL h l out pump t (pre.length + 1))) ∧ B + 2 ≤ b ∧ pre.length < cnt
set_option maxRecDepth 100000 in
set_option maxHeartbeats 4000000 in
theorem seconds_x (n : Nat) (hn : 4 ≤ n) (rA wA bA cA tA lA : Option Addr) (rn rc wn wc bn bc cn cc tc lc : Nat) (h : Hl) (ok : HlOk h) (out pump : Int) (ho : 0 ≤ out ∧ out ≤ 1000000) (hp : 0 ≤ pump ∧ pump ≤ 100000) (t l : List Int) (cnt : Nat) (hcnt : cnt ≤ 100000) (tB qB hB nB cB B0 : Nat) (Sf : Nat → Prop) (w : World)
    (hin : HlIn w B0 ⟨rA, wA, bA, cA, rn, wn, bn, cn⟩ h) (ht : Rd w B0 1 encI tA rn t) (htb : ∀ y ∈ t, 0 ≤ y ∧ y ≤ 1000000) (hl : Rd w B0 1 encI lA rn l) (hlb : ∀ y ∈ l, 0 ≤ y ∧ y ≤ 10000000)
    (hS0 : ∀ b, b < B0 → Sf b) (hS1 : ∀ b, w.heap.size ≤ b → Sf b) (hB0 : B0 ≤ w.heap.size) (hSt : Sf tB ∧ Sf qB ∧ Sf hB ∧ Sf nB ∧ Sf cB)
    (ct : Blk w tB 30 #[.slice tA rn tc]) (cq : Blk w qB 97 #[.func (.func 70) #[] #[.pointer (some ⟨nB, 0, none⟩), .pointer (some ⟨cB, 0, none⟩)]]) (ch : Blk w hB 28 #[.slice rA rn rc, .slice wA wn wc, .slice bA bn bc, .slice cA cn cc])
    (cnn : Blk w nB 3 #[.int .i64 (cnt : Int)]) (cc9 : Blk w cB 35 #[.slice lA rn lc, .int .i64 out, .int .i64 pump]) :
    SeqX Fence.wide n Try.prog 68 #[.pointer (some ⟨tB, 0, none⟩), .pointer (some ⟨qB, 0, none⟩), .pointer (some ⟨hB, 0, none⟩)] (fun b : Nat => #[.slice (some ⟨b, 0, none⟩) rn rn]) (KpB Sf) (XSec h l out pump t cnt) (fun xs => xs.length = cnt) 2 w := by
  intro lp J Jx W hW hJ hJx hY h0
  have hrn : h.rooms.length = rn := hin.rm.1
  have hn1 : 1 ≤ rn := by rw [← hrn]; exact ok.n1
  obtain ⟨tb, to, rfl, htb0, htc⟩ := ht.2 (by omega)
  have HIT := Lib.hid (fun k => itL_ok ok (l := l) (out := out) (pump := pump) (by rw [ht.1, hrn]) htb hlb ho.1 hp k)
  have q1 := (ct.below hW ct.lt).cell 0
  have q2 := (cq.below hW cq.lt).cell 0
  have z1 := (ct.below hW ct.lt).lt
  have z2 := (cq.below hW cq.lt).lt
  simp only [List.getElem?_toArray, List.getElem?_cons_zero] at q1 q2
  have g1 : W.heap.size < W.heap.size + 1 := by omega
  have z2b : qB < W.heap.size + 1 := by omega
  have z2c : qB < W.heap.size + 1 + 1 := by omega
  have z1b : tB < W.heap.size + 1 := by omega
  have CH := Lib.hid (ch.below hW ch.lt)
  have CN := Lib.hid (cnn.below hW cnn.lt)
  have CC := Lib.hid (cc9.below hW cc9.lt)
  have HIN := Lib.hid (hin.below (hW.mono hB0))
  have HLL := Lib.hid (hl.below (hW.mono hB0))
  have HTC : Hid (∀ i x, t[i]? = some x → W.cell? ⟨tb, to + i, none⟩ = some (.int .i64 x)) := Lib.hid (fun i x hx => by
    have h9 := htc i x hx 0 (.int .i64 x) rfl
    rw [Nat.mul_one, Nat.add_zero] at h9
    exact (hW.cell (p := ⟨tb, to + i, none⟩) (by show tb < w.heap.size; omega)).trans h9)
  have HTL : Hid (t.length = rn) := Lib.hid ht.1
  have hS9 : ∀ b, W.heap.size ≤ b → Sf b := fun b hb => hS1 b (Nat.le_trans hW.size hb)
  have hWs : w.heap.size ≤ W.heap.size := hW.size
  clear ct cq ch cnn cc9 hin hl ht htc hW
  refine callsIn_of_wp_marks Try.func68 rfl trivial ?_
  simp only [Try.ntmps68, List.size_toArray, List.length_cons, List.length_nil, Nat.reduceAdd, Nat.reduceSub, Array.replicate_succ, Array.replicate_zero, List.push_toArray, List.append_toArray, List.nil_append, List.cons_append]
  gi_wp2
  obtain ⟨yB, hyB⟩ : ∃ z, z = W.heap.size := ⟨_, rfl⟩
  obtain ⟨oB, hoB⟩ : ∃ z, z = yB + 1 := ⟨_, rfl⟩
  obtain ⟨W0, hW0⟩ : ∃ z, z = (W.alloc (.cells #[.func (.yield lp) #[] #[]] 122)).alloc (.cells #[.slice (some ⟨tb, to, none⟩) rn tc] 30) := ⟨_, rfl⟩
  have hs0 : W0.heap.size = W.heap.size + 2 := by rw [hW0]; simp
  have hB0' : Below W.heap.size W W0 := by rw [hW0]; exact ((Below.refl _ _).alloc (Nat.le_refl _) _).alloc (by simp) _
  have bY : Blk W0 yB 122 #[.func (.yield lp) #[] #[]] := by rw [hW0, hyB]; exact Blk.alloc (heap_alloc_new W _) _
  have bO : Blk W0 oB 30 #[.slice (some ⟨tb, to, none⟩) rn tc] := by
    have e2 := heap_alloc_new (W.alloc (.cells #[.func (.yield lp) #[] #[]] 122)) (.cells #[.slice (some ⟨tb, to, none⟩) rn tc] 30)
    rw [World.size_alloc] at e2
    rw [hW0, hoB, hyB]
    exact e2
  have hJ0 : J [] W0 := hJ.grow h0 hB0'
  rw [← hW0, ← hyB, ← hoB]
  have CH0 := Lib.hid (CH.out.below hB0' CH.out.lt)
  have CN0 := Lib.hid (CN.out.below hB0' CN.out.lt)
  have CC0 := Lib.hid (CC.out.below hB0' CC.out.lt)
  have HIN0 := Lib.hid (HIN.out.below (hB0'.mono (Nat.le_trans hB0 hWs)))
  have HLL0 := Lib.hid (HLL.out.below (hB0'.mono (Nat.le_trans hB0 hWs)))
  have HYO : Hid (Sf yB ∧ Sf oB ∧ yB + 1 = oB ∧ yB = W.heap.size ∧ W0.heap.size = oB + 1) := Lib.hid ⟨hS9 yB (by omega), hS9 oB (by omega), hoB.symm, hyB, by omega⟩
  have HBY := Lib.hid bY
  obtain ⟨Sg, hSg⟩ : ∃ z : Nat → Prop, z = fun b => Sf b ∧ b ≠ oB := ⟨_, rfl⟩
  have HSG : Hid ((∀ b, b < W.heap.size → Sf b → Sg b) ∧ (∀ b, oB < b → Sg b) ∧ (∀ X Y, KpB Sf X Y → KpB Sg X Y) ∧ (∀ (X : World) (u : Value), KpB Sg X (X.setCell ⟨oB, 0, none⟩ u)) ∧ Sg yB) := Lib.hid (by
    subst hSg
    exact ⟨fun b hb h9 => ⟨h9, by omega⟩, fun b hb => ⟨hS9 b (by omega), by omega⟩, fun X Y h9 => ⟨h9.1, fun b o hb e hc => h9.2 b o hb.1 e hc⟩, fun X u => KpB.grown (grown_set X oB 0 u) (fun r e hr => by cases e; exact hr.2 rfl), hS9 yB (by omega), by omega⟩)
  have HSB : Hid (∀ b, b < B0 → Sg b) := Lib.hid (fun b hb => HSG.out.1 b (by omega) (hS0 b hb))
  have HSH : Hid (Sg nB ∧ Sg cB ∧ Sg hB) := Lib.hid ⟨HSG.out.1 _ CN.out.lt hSt.2.2.2.1, HSG.out.1 _ CC.out.lt hSt.2.2.2.2, HSG.out.1 _ CH.out.lt hSt.2.2.1⟩
  have HC0 : Hid (CurIs Sg rn oB (itL h l out pump t 0) W0) := Lib.hid ⟨tb, to, tc, bO, HSB.out tb htb0, HTL.out, fun i x hx => (hB0'.cell (p := ⟨tb, to + i, none⟩) (block_of_cell (HTC.out i x hx))).trans (HTC.out i x hx)⟩
  clear hSg
  clear hyB hoB
  clear q1 q2 z1 z2 g1 z2b z2c z1b bO hW0 HTC bY
  refine wpIn_rangeFunc_ownH rfl (by omega) (gf := 70) (lb := #[.pointer (some ⟨nB, 0, none⟩), .pointer (some ⟨cB, 0, none⟩)]) rfl trivial (enters_of Try.func70 (by kernel_rfl) rfl)
    (always_stops Fence.wide (n - 1) trivial rfl (by omega) nB cB cnt (.slice lA rn lc) (.int .i64 out) (.int .i64 pump) Sg hcnt HSH.out.1 HSH.out.2.1 W0 (CN0.out.cell 0) (CC0.out.cell 0) (CC0.out.cell 1) (CC0.out.cell 2))
    (fun h k => KpB.trans h k) (fun W l o o' _ ho hc _ => KpB.putObj W l o o' ho hc) (Below.refl _ _) (fun _ => rfl)
    (fun (pre : List Unit) V => ∃ xs : List Nat, xs.length = pre.length ∧ J xs V ∧ KpB Sg W0 V ∧ CurIs Sg rn oB (itL h l out pump t pre.length) V ∧ Blk V yB 122 #[.func (.yield lp) #[] #[]])
    (fun c _ V => c = .ret ∧ ∃ xs, Jx xs V)
    ?own ?ownx ?start
    (fun _ a' V => ∃ xB, Blk V xB 35 #[.slice lA rn lc, .int .i64 out, .int .i64 pump] ∧ a' = { tmps := #[.func (.yield lp) #[] #[], .pointer (some ⟨tB, 0, none⟩), .pointer (some ⟨qB, 0, none⟩), .pointer (some ⟨hB, 0, none⟩), .pointer (some ⟨yB, 0, none⟩), .pointer (some ⟨oB, 0, none⟩), .pointer (some ⟨xB, 0, none⟩), .slice (some ⟨tb, to, none⟩) rn tc, .func (.func 70) #[] #[.pointer (some ⟨nB, 0, none⟩), .pointer (some ⟨cB, 0, none⟩)], .agg #[.slice lA rn lc, .int .i64 out, .int .i64 pump], undef, undef, undef, undef, undef, undef, undef, undef], defers := [] })
    ?ownA ?assign ?body ?done ?stop
  case own =>
    rintro pre A B row ⟨xs, h1, h2, h3, h4, h5⟩ hg hr
    exact ⟨xs, h1, hJ xs A B row h2 hg (fun r e => by obtain ⟨q1, o, q2, q3⟩ := hr r e; exact ⟨by omega, Or.inr ⟨o, q2, q3⟩⟩), KpB.own Sg W0 h3 hg (fun r e => (hr r e).2), h4.own hg (fun r e => (hr r e).2), own_row h5 hg (fun r e => (hr r e).2)⟩
  case ownx =>
    rintro c pre A B row ⟨h1, xs, h2⟩ hg hr
    exact ⟨h1, xs, hJx xs A B row h2 hg (fun r e => by obtain ⟨q1, o, q2, q3⟩ := hr r e; exact ⟨by omega, Or.inr ⟨o, q2, q3⟩⟩)⟩
  case start => exact ⟨[], rfl, hJ0, KpB.refl _ _, HC0.out, HBY.out⟩
  case ownA =>
    rintro x a' _ A B row ⟨xB, h1, h2⟩ hg hr
    exact ⟨xB, own_row h1 hg (fun r e => (hr r e).2), h2⟩
  case assign =>
    rintro l' pre x V K ⟨xs, h1, h2, h3, h4, h5⟩ hK
    have hg := World.grownBy_alloc V (.cells #[.slice lA rn lc, .int .i64 out, .int .i64 pump] 35) none
    gi_wp2
    exact hK _ _ ((KeepsOthers.alloc _ _).from _) (KpB.grown hg (by simp)) ⟨xs, h1, hJ.alloc _ h2, KpB.trans h3 (KpB.grown hg (by simp)), h4.own hg (by simp), h5.alloc _⟩ ⟨V.heap.size, heap_alloc_new V _, rfl⟩
  case body =>
    rintro l' pre x a' V hl' ⟨r, hr⟩ ⟨xs, h1, h2, h3, h4, h5⟩ ⟨xB, bX, rfl⟩ hlt
    obtain ⟨b, off, c, hb, hrd⟩ := h4.rd hn1
    have bH := h3.blk HSH.out.2.2 CH0.out
    have hSz := h3.1
    have hinV : HlIn V V.heap.size ⟨rA, wA, bA, cA, rn, wn, bn, cn⟩ h := ⟨(HIN0.out.rm.ks h3.ks HSB.out).more (by omega), (HIN0.out.wl.ks h3.ks HSB.out).more (by omega), (HIN0.out.br.ks h3.ks HSB.out).more (by omega), (HIN0.out.cl.ks h3.ks HSB.out).more (by omega)⟩
    have HN := Lib.hid (nextS_any rA wA bA cA lA (some ⟨b, off, none⟩) rn rc wn wc bn bc cn cc lc c out pump h (itL h l out pump t pre.length) l V hinV ok ho hp hrd (HIT.out pre.length).2 ((HLL0.out.ks h3.ks HSB.out).more (by omega)) hlb)
    have c0 := bH.cell 0
    have c1 := bH.cell 1
    have c2 := bH.cell 2
    have c3 := bH.cell 3
    have zh := bH.lt
    have d0 := bX.cell 0
    have d1 := bX.cell 1
    have d2 := bX.cell 2
    have zx := bX.lt
    have e0 := hb.cell 0
    have zo := hb.lt
    simp only [List.getElem?_toArray, List.getElem?_cons_zero, List.getElem?_cons_succ] at c0 c1 c2 c3 d0 d1 d2 e0
    have HS := Lib.hid (And.intro h1 (And.intro h2 (And.intro h3 (And.intro h4 (And.intro h5 hb)))))
    clear bH hinV bX hb hrd h1 h2 h3 h4 h5 hr
    gi_wp2_with fail
    refine ⟨trivial, fun h9 => absurd h9 (by simp [Fence.wide]), ?_⟩
    refine (CallsIn.inRound l' (callsIn_wide.2 HN.out)).mono ?_
    rintro e V1 ⟨lb, rfl, hx, hle, hB1⟩
    obtain ⟨h1, h2, h3, h4, h5, hb⟩ := HS.out
    have hbo := hb.below hB1 hb.lt
    have hby := h5.below hB1 h5.lt
    have cY := hby.cell 0
    have zY := hby.lt
    have fO := hbo.frozen
    have eO := hbo.cell 0
    have zO := hbo.lt
    simp only [List.getElem?_toArray, List.getElem?_cons_zero] at cY eO
    have hyo := HYO.out
    have hne : yB ≠ oB := by omega
    have hne2 : oB ≠ yB := by omega
    have J1 := hJ.grow h2 hB1
    have J2 : J xs (V1.setCell ⟨oB, 0, none⟩ (.slice (some ⟨lb, 0, none⟩) rn rn)) := hJ.cell _ J1 (by omega) (by omega)
    have hge : W.heap.size + 2 ≤ lb := by omega
    have hxo : lb ≠ oB := by omega
    have X2 : XSec h l out pump t cnt W.heap.size xs lb (V1.setCell ⟨oB, 0, none⟩ (.slice (some ⟨lb, 0, none⟩) rn rn)) := ⟨by rw [h1]; exact hx.far hxo _, hge, by omega⟩
    obtain ⟨fn, tmps, assign, body, hy', hR⟩ := hY xs lb _ J2 X2
    have HR9 := Lib.hid (roundIn_in (l' := l') (m := n - 1 - 1 - 1) hR)
    have HF := Lib.hid (And.intro hbo (And.intro hby (And.intro hB1 hx)))
    clear hbo hby hx hR J1 J2 X2 h1 h2 h3 h4 h5 hb hyo hge hxo
    gi_wp2
    refine ⟨fun h9 => absurd h9 (by simp [Fence.wide]), HR9.out.mono ?_⟩
    obtain ⟨hbo, hby, hB1, hx⟩ := HF.out
    have hg9 := grown_set V1 oB 0 (.slice (some ⟨lb, 0, none⟩) rn rn)
    obtain ⟨h1, h2, h3, h4, h5, hb⟩ := HS.out
    obtain ⟨s1, s2, s3, s4, s5⟩ := HSG.out
    have hyo := HYO.out
    have hge : oB < lb := by have := h3.1; omega
    have hxo : lb ≠ oB := by omega
    have K1 : KpB Sg V (V1.setCell ⟨oB, 0, none⟩ (.slice (some ⟨lb, 0, none⟩) rn rn)) := KpB.trans (KpB.grown (grown_of_below hB1) (fun r e => by cases e)) (s4 V1 _)
    have F1 : KeepsFrom W0.heap.size V (V1.setCell ⟨oB, 0, none⟩ (.slice (some ⟨lb, 0, none⟩) rn rn)) := (KeepsFrom.of_grownBy (grown_of_below hB1) (fun r e => by cases e)).trans (KeepsFrom.of_grownBy hg9 (fun r e => by cases e; omega))
    have F2 : ∀ {X Y : World}, KeepsFrom W.heap.size X Y → KeepsFrom W0.heap.size X Y := fun h9 => ⟨h9.size, fun k o hk => h9.same k o (by omega)⟩
    rintro e V2 (⟨rfl, hJ2, hk2, hf2⟩ | ⟨rfl, hJx2, hf2⟩)
    · gi_wp2
      have b2 : Blk V2 lb 3 (intsA (itL h l out pump t (pre.length + 1))) := hk2.blk (hS9 lb (by omega)) (hx.far hxo _)
      have o2 : Blk V2 oB 30 #[.slice (some ⟨lb, 0, none⟩) rn rn] := hk2.blk (hS9 oB (by omega)) (by have h9 := hbo.set_ 0 (.slice (some ⟨lb, 0, none⟩) rn rn); simpa using h9)
      refine ⟨F1.trans (F2 hf2), K1.trans (s3 _ _ hk2), xs ++ [lb], by simp [h1], hJ2, (h3.trans K1).trans (s3 _ _ hk2), ?_, hk2.blk (hS9 yB (by omega)) (hby.far hne _)⟩
      rw [List.length_append, List.length_singleton]
      exact ⟨lb, 0, rn, o2, s2 lb hge, by rw [(HIT.out _).1, hrn], fun i x hx => by rw [Nat.zero_add]; exact b2.intAt hx⟩
    · gi_wp2
      exact ⟨F1.trans (F2 hf2), rfl, _, hJx2⟩
  case done =>
    rintro D ys V hD hys ⟨xs, h1, h2, h3, h4, h5⟩ hK
    have HF : Hid (xs.length = cnt ∧ J xs (V.putObj D (.deferred none))) := Lib.hid ⟨h1.trans hys, hJ.putObj _ h2 (by omega) hK rfl⟩
    have HKD := Lib.hid hK
    clear h1 h2 h3 h4 h5 hys hK
    gi_wp2
    refine ⟨by simp, .inl ⟨_, _, rfl, run_takeDeferred HKD.out, ?_⟩⟩
    refine ⟨_, results_none rfl _ _ _, ?_⟩
    exact ⟨⟨_, rfl⟩, .inl ⟨_, HF.out⟩⟩
  case stop =>
    rintro D c pre V hD _ ⟨rfl, xs, h2⟩ hK
    have HF : Hid (Jx xs (V.putObj D (.deferred none))) := Lib.hid (hJx.putObj _ h2 (by omega) hK rfl)
    have HKD := Lib.hid hK
    clear h2 hK
    gi_wp2
    refine ⟨by simp, .inl ⟨_, _, rfl, run_takeDeferred HKD.out, ?_⟩⟩
    refine ⟨_, results_none rfl _ _ _, ?_⟩
    exact ⟨⟨_, rfl⟩, .inr ⟨_, HF.out⟩⟩
end Go.Proofs.Ytldbciflpnhfpaa
