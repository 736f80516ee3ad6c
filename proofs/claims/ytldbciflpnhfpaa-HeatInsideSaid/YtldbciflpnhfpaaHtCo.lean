/- slices.AppendSeq over an iterator of lists. -/
import Derived.Test.YtldbciflpnhfpaaHtIc
import Derived.Test.YtldbciflpnhfpaaHtSl
import Derived.Maps.AppendAt
import Derived.Test.YtldbciflpnhfpaaHtIv
import Derived.Test.YtldbciflpnhfpaaHtM
import Derived.Test.YtldbciflpnhfpaaHtNb
import Derived.Shelf.Bits.Mul64
import Derived.Shelf.Spec.SlicesInsert
import Derived.Laws.CopyRow

set_option linter.unusedSimpArgs false
set_option linter.unusedVariables false
namespace Go.Proofs.Ytldbciflpnhfpaa
open Go.RowKit Go.Shelf
attribute [local go_sem] Oper.semAt_some

def XL (L : Nat → List Int) (cnt : Nat) : Nat → List Nat → Nat → World → Prop := fun B pre b W => Blk W b 3 (intsA (L (pre.length + 1))) ∧ B + 2 ≤ b ∧ pre.length < cnt
def slE (rn : Nat) (b : Nat) : List Value := [.slice (some ⟨b, 0, none⟩) rn rn]
def RowsL (V : World) (lo : Nat) (L : Nat → List Int) (pre : List Nat) : Prop := ∀ (i b : Nat), pre[i]? = some b → lo ≤ b ∧ Blk V b 3 (intsA (L (i + 1)))
structure CoI (w0 : World) (sB lo rn : Nat) (L : Nat → List Int) (v : Value) (pre : List Nat) (V : World) : Prop where
  box : Blk V sB 53 #[v]
  row : V.ownsRow lo 30 1 v pre.length (pre.flatMap (slE rn))
  els : RowsL V lo L pre
  low : Below w0.heap.size w0 V
theorem rowInfo9 : (Try.prog.info? 30).map (fun i => (i.zero, i.size, i.bytes)) = some (some (.slice none 0 0), 1, 24) := by kernel_rfl
theorem CoI.own {w0 V V' : World} {sB lo rn : Nat} {L : Nat → List Int} {v : Value} {pre : List Nat} {row : Option Nat} (h : CoI w0 sB lo rn L v pre V) (hg : V.grownBy V' row) (hr : ∀ r, row = some r → w0.heap.size ≤ r ∧ r ≠ sB ∧ (r < lo ∨ ∃ o : Obj, V.heap[r]? = some o ∧ o.isCells = false)) : CoI w0 sB lo rn L v pre V' := by
  have hnc : ∀ {r : Nat} {T cs}, row = some r → lo ≤ r → ¬ Blk V r T cs := fun {r T cs} e hl hb => by
    rcases (hr r e).2.2 with h9 | ⟨o, ho, hc⟩
    · omega
    · rw [show V.heap[r]? = _ from hb] at ho
      cases ho
      cases hc
  refine ⟨h.box.kept hg (fun e => (hr _ e.symm).2.1 rfl), h.row.kept hg ?_, fun i b hb => ?_, h.low.grown hg h.low.size (fun r e => (hr r e).1)⟩
  · rcases h.row.2 with ⟨e, _⟩ | ⟨g, cap, cur, e, hb, hgg, _⟩
    · left; rw [e]; rfl
    · right
      rw [e]
      intro e9
      exact hnc (show row = some g from e9.symm) hb hgg
  · obtain ⟨h1, h2⟩ := h.els i b hb
    exact ⟨h1, h2.kept hg (fun e => hnc e.symm h1 h2)⟩
theorem own_nc {W : World} {lo k n : Nat} {e : TypeId} {size : Nat} {v : Value} {xs : List Value} {o : Obj} (h : W.ownsRow lo e size v n xs) (hk : W.heap[k]? = some o) (ho : o.isCells = false) : some k ≠ v.ownBlock := by
  rcases h.2 with ⟨e9, _⟩ | ⟨g, cap, cur, e9, hb, hgg, _⟩
  · rw [e9]; intro h9; cases h9
  · rw [e9]
    intro h9
    obtain rfl : k = g := by simpa [Value.ownBlock] using h9
    rw [hgg] at hk
    cases hk
    cases ho
theorem own_obj {W : World} {lo k n : Nat} {e : TypeId} {size : Nat} {v : Value} {xs : List Value} {o : Obj} (h : W.ownsRow lo e size v n xs) (hv : v.ownBlock = some k) (hk : W.heap[k]? = some o) : lo ≤ k ∧ ∃ cs, o = .cells cs e := by
  rcases h.2 with ⟨e9, _⟩ | ⟨g, cap, cur, e9, hb, hgg, _⟩
  · rw [e9] at hv; cases hv
  · rw [e9] at hv
    obtain rfl : g = k := by simpa [Value.ownBlock] using hv
    rw [hgg] at hk
    cases hk
    exact ⟨hb, _, rfl⟩
set_option maxRecDepth 100000 in
set_option maxHeartbeats 4000000 in
theorem AppendSeq_any (gf : Nat) (lb0 : Array Value) (rn cnt : Nat) (hcnt : cnt ≤ 20000) (L : Nat → List Int) (w : World) (eg : ∀ args w, (callFunc gf args).run Try.prog w = .ok (.enter gf args) w)
    (hq : ∀ (Sf : Nat → Obj → Prop) (W : World), Below w.heap.size w W → (∀ b o, b < w.heap.size → Sf b o) → (∀ o, Sf (W.heap.size + 2) o ∧ Sf (W.heap.size + 3) o) → (∀ b cs, W.heap.size + 4 ≤ b → Sf b (.cells cs 3)) → SeqY Fence.wide 7 Try.prog gf lb0 (fun b : Nat => #[.slice (some ⟨b, 0, none⟩) rn rn]) (KpO Sf) (XL L cnt) (fun xs => xs.length = cnt) 2 W) :
    Calls Try.prog 67 #[.slice none 0 0, .func (.func gf) #[] lb0] w fun e w' => ∃ (v : Value) (pre : List Nat), e = .returned v ∧ pre.length = cnt ∧ w'.ownsRow w.heap.size 30 1 v cnt (pre.flatMap (slE rn)) ∧ RowsL w' w.heap.size L pre ∧ Below w.heap.size w w' := by
  obtain ⟨i0, hi, hz0, hz1, hz2⟩ := info_parts rowInfo9
  have HQ := Lib.hid hq
  clear hq
  refine (callsIn_wide (n := 8)).1 ?_
  refine callsIn_of_wp_marks Try.func67 rfl trivial ?_ rfl
  simp only [Try.ntmps67, List.size_toArray, List.length_cons, List.length_nil, Nat.reduceAdd, Nat.reduceSub, Array.replicate_succ, Array.replicate_zero, List.push_toArray, List.append_toArray, List.nil_append, List.cons_append]
  gi_wp2
  obtain ⟨sB, hsB⟩ : ∃ z, z = w.heap.size := ⟨_, rfl⟩
  obtain ⟨w1, hw1⟩ : ∃ z, z = w.alloc (.cells #[.slice none 0 0] 53) := ⟨_, rfl⟩
  have HB : Hid (Blk w1 sB 53 #[.slice none 0 0]) := Lib.hid (by rw [hw1, hsB]; exact heap_alloc_new w _)
  have HL : Hid (Below w.heap.size w w1) := Lib.hid (by rw [hw1]; exact (Below.refl _ _).alloc (Nat.le_refl _) _)
  have HZ : Hid (w.heap.size = sB ∧ w1.heap.size = sB + 1) := Lib.hid (by rw [hw1, hsB, World.size_alloc]; exact ⟨rfl, rfl⟩)
  rw [← hw1, ← hsB]
  clear hw1 hsB
  obtain ⟨Sf, hSf⟩ : ∃ z : Nat → Obj → Prop, z = fun b o => b ≠ sB ∧ (w1.heap.size + 4 ≤ b → ∃ cs, o = .cells cs 3) := ⟨_, rfl⟩
  have HF : Hid (∀ b o, Sf b o ↔ b ≠ sB ∧ (w1.heap.size + 4 ≤ b → ∃ cs, o = .cells cs 3)) := Lib.hid (fun b o => by rw [hSf])
  clear hSf
  have HC0 : Hid (CoI w sB (w1.heap.size + 4) rn L (.slice none 0 0) [] w1) := Lib.hid ⟨HB.out, World.ownsRow_nil _ _ _ _, fun i b h => by simp at h, HL.out⟩
  refine wpIn_range_y rfl (by omega) (gf := gf) (lb := lb0) rfl trivial eg (HQ.out Sf w1 HL.out (fun b o h => (HF.out b o).2 ?a1) (fun o => ⟨(HF.out _ o).2 ?a2, (HF.out _ o).2 ?a3⟩) (fun b cs h => (HF.out b _).2 ?a4)) (fun _ => rfl)
    (fun h k => KpO.trans h k) (fun W l o o' _ ho hc _ => KpO.putObj W l o o' ho hc)
    (fun (pre : List Nat) V => pre.length ≤ cnt ∧ ∃ v, CoI w sB (w1.heap.size + 4) rn L v pre V)
    (fun _ _ => False)
    ?own ?ownx ?start
    (fun pre b a' V => a' = { tmps := #[.slice none 0 0, .func (.func gf) #[] lb0, .pointer (some ⟨sB, 0, none⟩), undef, .slice none 0 0, .slice (some ⟨b, 0, none⟩) rn rn, .func (.func gf) #[] lb0, .slice (some ⟨b, 0, none⟩) rn rn, undef, undef, undef, undef, undef], defers := [] })
    ?hAx ?hX ?assign ?body ?done ?stop
  case a1 => exact ⟨by have := HZ.out; omega, fun h9 => absurd h9 (by have := HZ.out; omega)⟩
  case a2 => exact ⟨by have := HZ.out; omega, fun h9 => absurd h9 (by omega)⟩
  case a3 => exact ⟨by have := HZ.out; omega, fun h9 => absurd h9 (by omega)⟩
  case a4 => exact ⟨by have := HZ.out; omega, fun _ => ⟨cs, rfl⟩⟩
  case own =>
    rintro pre A B row ⟨h0, v, h1⟩ hg hr
    have hz := HZ.out
    exact ⟨h0, v, h1.own hg (fun r e => by obtain ⟨q1, q2⟩ := hr r e; exact ⟨by omega, by omega, q2.imp (fun h => by omega) id⟩)⟩
  case ownx =>
    intro pre A B row h
    exact h.elim
  case start => exact ⟨Nat.zero_le _, _, HC0.out⟩
  case hAx =>
    intro pre b a' V l o o' h _ _ _
    exact h
  case hX =>
    rintro pre x V l9 o o' ⟨h1, h2⟩ hl9 ho hc
    exact ⟨h1.kept (grownBy_putObj' V l9 o') (by intro e; cases e; rw [show V.heap[_]? = _ from h1] at ho; cases ho; cases hc), h2⟩
  case assign =>
    intro l9 pre x V K hI hx hK
    gi_wp2
    exact hK _ _ (KeepsFrom.refl _ _) (KpO.refl _ _) hI hx rfl
  case body =>
    rintro l9 pre x a' V hl9 ⟨r9, hr9⟩ ⟨h0, v, hI⟩ ⟨k1, k2, k3⟩ rfl
    obtain ⟨A9, c9, rfl⟩ := row_slice hI.row
    have c0 := hI.box.cell 0
    simp only [List.getElem?_toArray, List.getElem?_cons_zero] at c0
    have z0 := hI.box.lt
    have hz := HZ.out
    have hbig : w1.heap.size + 4 ≤ V.heap.size := by have := k1.lt; omega
    have HI := Lib.hid hI
    have HV := Lib.hid (And.intro k1 (And.intro k2 k3))
    have hp : pre.length < 20000 := by omega
    have HBG := Lib.hid hbig
    clear hI k1 k2 k3 hr9 hz h0
    gi_wp2_with (gi_at_builtin; refine wpListIn_append_own_at _ rfl (.tmp 8) (.tmp 10) 53 rfl (w1.heap.size + 4) 30 i0 (.slice none 0 0) 1 24 Try.underlying53 hi hz0 hz1 hz2 rfl (by decide) (.slice A9 pre.length c9) _ _ rfl (HI.out.row.alloc _) ⟨V.heap.size, 0, none⟩ 1 1 [.slice (some ⟨x, 0, none⟩) rn rn] rfl rfl ?_ ?_ ?_ ?_ ?_ ?_)
    case _ =>
      intro i z hz
      match i, hz with
      | 0, hz =>
        simp only [List.getElem?_cons_zero, Option.some.injEq] at hz
        subst hz
        simp [Addr.add, go_sem]
    case _ =>
      intro z hz
      simp only [List.mem_cons, List.mem_nil_iff, or_false] at hz
      subst hz
      rfl
    case _ => simp only [maxLen]; omega
    case _ => omega
    case _ => simp; omega
    intro v' w5 hown hg5 _ _
    obtain ⟨A8, c8, rfl⟩ := row_slice hown
    have hga := World.grownBy_alloc V (.cells #[.slice (some ⟨x, 0, none⟩) rn rn] 30) none
    have hra := HI.out.row.alloc (.cells #[.slice (some ⟨x, 0, none⟩) rn rn] 30)
    have hbx : Blk w5 sB 53 #[.slice A9 pre.length c9] := (Blk.alloc HI.out.box _).kept hg5 (own_ne hra (Blk.alloc HI.out.box _) (by decide))
    have c1 := hbx.cell 0
    simp only [List.getElem?_toArray, List.getElem?_cons_zero] at c1
    have z1 := hbx.lt
    have f1 := hbx.frozen
    have HX := Lib.hid (And.intro hown (And.intro hg5 (And.intro hga (And.intro hra hbx))))
    clear hown hg5 hga hra hbx c0 z0
    gi_wp2
    obtain ⟨hown, hg5, hga, hra, hbx⟩ := HX.out
    obtain ⟨k1, k2, k3⟩ := HV.out
    have hI := HI.out
    have hz := HZ.out
    have hbig := HBG.out
    have gB := grown_set w5 sB 0 (.slice A8 (pre.length + 1) c8)
    have hrow : ∀ r, (Value.slice A9 pre.length c9).ownBlock = some r → ∀ o, (V.alloc (.cells #[.slice (some ⟨x, 0, none⟩) rn rn] 30)).heap[r]? = some o → w1.heap.size + 4 ≤ r ∧ ∃ cs, o = .cells cs 30 := fun r e o ho => own_obj hra e ho
    have F1 : KeepsFrom w1.heap.size V w5 := ⟨Nat.le_trans hga.size hg5.size, fun k o hB hk ho => by
      have h1 := (hga.block k (Array.getElem?_eq_some_iff.1 hk).1 (fun e => by cases e)).trans hk
      exact (hg5.block k (Array.getElem?_eq_some_iff.1 h1).1 (own_nc hra h1 ho)).trans h1⟩
    have P1 : KpO Sf V w5 := (KpO.grown hga (fun r o e => by cases e)).trans (KpO.grown hg5 (fun r o e ho hs => by
      obtain ⟨h1, cs, h2⟩ := hrow r e o ho
      obtain ⟨cs2, h3⟩ := ((HF.out r o).1 hs).2 h1
      rw [h2] at h3
      simp at h3))
    refine ⟨F1.trans (KeepsFrom.of_grownBy gB (fun r e => by cases e; omega)), P1.trans (KpO.grown gB (fun r o e _ hs => by cases e; exact ((HF.out _ o).1 hs).1 rfl)), ?_, .slice A8 (pre.length + 1) c8, ?_⟩
    · rw [List.length_append, List.length_singleton]; omega
    · have hkeep : ∀ (b : Nat) (l : List Int), w1.heap.size + 4 ≤ b → Blk V b 3 (intsA l) → Blk (w5.setCell ⟨sB, 0, none⟩ (.slice A8 (pre.length + 1) c8)) b 3 (intsA l) := fun b l hb h9 =>
        ((Blk.alloc h9 _).kept hg5 (own_ne hra (Blk.alloc h9 _) (by decide))).far (p := ⟨sB, 0, none⟩) (by show b ≠ sB; omega) _
      refine ⟨blk1_set (g := sB) hbx _, ?_, fun i b hb => ?_, ?_⟩
      · rw [List.length_append, List.length_singleton, List.flatMap_append]
        exact hown.kept gB (Or.inr (own_ne hown hbx (by decide)).symm)
      · by_cases hi9 : i < pre.length
        · rw [List.getElem?_append_left hi9] at hb
          obtain ⟨h1, h2⟩ := hI.els i b hb
          exact ⟨h1, hkeep b _ h1 h2⟩
        · have h5 := (List.getElem?_eq_some_iff.1 hb).1
          simp only [List.length_append, List.length_cons, List.length_nil] at h5
          obtain rfl : i = pre.length := by omega
          rw [List.getElem?_append_right (Nat.le_refl _), Nat.sub_self] at hb
          simp at hb
          subst hb
          exact ⟨by omega, hkeep _ _ (by omega) k1⟩
      · have h1 := hI.low.grown hga hI.low.size (fun r e => by cases e)
        have h2 := h1.grown hg5 h1.size (fun r e => by
          obtain ⟨o, ho⟩ : ∃ o, (V.alloc (.cells #[.slice (some ⟨x, 0, none⟩) rn rn] 30)).heap[r]? = some o := by
            rcases hra.2 with ⟨e9, _⟩ | ⟨g, cap, cur, e9, hb, hgg, _⟩
            · rw [e9] at e; cases e
            · rw [e9] at e
              obtain rfl : g = r := by simpa [Value.ownBlock] using e
              exact ⟨_, hgg⟩
          have := (hrow r e o ho).1
          omega)
        exact h2.grown gB h2.size (fun r e => by cases e; omega)
  case done =>
    rintro D ys V hD hys ⟨_, v, hI⟩ hK
    obtain ⟨A9, c9, rfl⟩ := row_slice hI.row
    have c0 := hI.box.cell 0
    simp only [List.getElem?_toArray, List.getElem?_cons_zero] at c0
    have z0 := hI.box.lt
    have HKD := Lib.hid hK
    have HI := Lib.hid hI
    have hz : Hid (w.heap.size ≤ D ∧ w.heap.size ≤ w1.heap.size + 4 ∧ D ≠ sB) := Lib.hid (by have := HZ.out; omega)
    have HYS := Lib.hid hys
    clear hI hK hys
    gi_wp2
    refine ⟨by simp, .inl ⟨_, _, rfl, run_takeDeferred HKD.out, ?_⟩⟩
    have H2 : CoI w sB (w1.heap.size + 4) rn L (.slice A9 ys.length c9) ys (V.putObj D (.deferred none)) := HI.out.own (grownBy_putObj' V D _) (fun r e => by cases e; exact ⟨hz.out.1, hz.out.2.2, Or.inr ⟨_, HKD.out, rfl⟩⟩)
    refine ⟨_, results_tmp rfl _ _ _, _, ys, rfl, HYS.out, ?_, fun i b hb => ⟨Nat.le_trans hz.out.2.1 (H2.els i b hb).1, (H2.els i b hb).2⟩, H2.low⟩
    have h9 := row_low H2.row hz.out.2.1
    rw [← HYS.out]
    exact h9
  case stop =>
    intro D pre V _ h _
    exact h.elim
theorem Collect_any (gf : Nat) (lb0 : Array Value) (rn cnt : Nat) (hcnt : cnt ≤ 20000) (L : Nat → List Int) (w : World) (eg : ∀ args w, (callFunc gf args).run Try.prog w = .ok (.enter gf args) w)
    (hq : ∀ (Sf : Nat → Obj → Prop) (W : World), Below w.heap.size w W → (∀ b o, b < w.heap.size → Sf b o) → (∀ o, Sf (W.heap.size + 2) o ∧ Sf (W.heap.size + 3) o) → (∀ b cs, W.heap.size + 4 ≤ b → Sf b (.cells cs 3)) → SeqY Fence.wide 7 Try.prog gf lb0 (fun b : Nat => #[.slice (some ⟨b, 0, none⟩) rn rn]) (KpO Sf) (XL L cnt) (fun xs => xs.length = cnt) 2 W) :
    Calls Try.prog 39 #[.func (.func gf) #[] lb0] w fun e w' => ∃ (v : Value) (pre : List Nat), e = .returned v ∧ pre.length = cnt ∧ w'.ownsRow w.heap.size 30 1 v cnt (pre.flatMap (slE rn)) ∧ RowsL w' w.heap.size L pre ∧ Below w.heap.size w w' := by
  have K := Lib.hid (AppendSeq_any gf lb0 rn cnt hcnt L w eg hq)
  clear hq eg
  go_enter Try.func39, Try.ntmps39
  go_wp2_with fail
  refine K.out.mono ?_
  rintro e w' ⟨v, pre, rfl, h1, h2, h3, h4⟩
  obtain ⟨A9, c9, rfl⟩ := row_slice h2
  have HX := Lib.hid (And.intro h1 (And.intro h2 (And.intro h3 h4)))
  clear h1 h2 h3 h4
  go_wp2
  go_ret
  exact ⟨_, pre, rfl, HX.out⟩
end Go.Proofs.Ytldbciflpnhfpaa

/- What slices.Collect makes of heat's seconds. -/

set_option linter.unusedSimpArgs false
set_option linter.unusedVariables false
namespace Go.Proofs.Ytldbciflpnhfpaa
open Go.RowKit

theorem collectSeconds_any (rA wA bA cA tA : Option Addr) (rn rc wn wc bn bc cn cc tc : Nat) (h : Hl) (ok : HlOk h) (t : List Int) (cl : List Cz) (hcl9 : cl.length ≤ 20000) (tB qB hB gf : Nat) (lb0 : Array Value) (w : World)
    (hin : HlIn w w.heap.size ⟨rA, wA, bA, cA, rn, wn, bn, cn⟩ h) (ht : Rd w w.heap.size 1 encI tA rn t) (htb : ∀ y ∈ t, 0 ≤ y ∧ y ≤ 1000000) (hcl : ∀ x ∈ cl, CzOk w w.heap.size rn x)
    (eg : ∀ args w, (callFunc gf args).run Try.prog w = .ok (.enter gf args) w)
    (hq : ∀ (Sg : Nat → Obj → Prop) (W : World), Below w.heap.size w W → (∀ b o, b < w.heap.size → Sg b o) → SeqY Fence.wide (7 - 1) Try.prog gf lb0 encCz (KpO Sg) (XCs cl) (fun xs => xs = cl) 0 W)
    (ct : Blk w tB 30 #[.slice tA rn tc]) (cq : Blk w qB 97 #[.func (.func gf) #[] lb0]) (ch : Blk w hB 28 #[.slice rA rn rc, .slice wA wn wc, .slice bA bn bc, .slice cA cn cc]) :
    Calls Try.prog 39 #[.func (.func 68) #[] #[.pointer (some ⟨tB, 0, none⟩), .pointer (some ⟨qB, 0, none⟩), .pointer (some ⟨hB, 0, none⟩)]] w fun e w' => ∃ (v : Value) (pre : List Nat), e = .returned v ∧ pre.length = cl.length ∧ w'.ownsRow w.heap.size 30 1 v cl.length (pre.flatMap (slE rn)) ∧ RowsL w' w.heap.size (fun k => itC h t (cl.take k)) pre ∧ Below w.heap.size w w' := by
  refine Collect_any 68 _ rn cl.length hcl9 (fun k => itC h t (cl.take k)) w (enters_of Try.func68 (by kernel_rfl) rfl) ?_
  intro Sf W hW h1 h2 h3
  exact seconds_y 7 (by omega) rA wA bA cA tA rn rc wn wc bn bc cn cc tc h ok t cl tB qB hB w.heap.size gf lb0 Sf (fun Sg => ∀ b o, b < w.heap.size → Sg b o) W (hin.below hW) (ht.below hW) htb (fun x hx => ⟨(hcl x hx).n, (hcl x hx).rd.below hW, (hcl x hx).bd, (hcl x hx).o, (hcl x hx).p⟩) hW.size
    h1 (fun o => ⟨h1 _ o ch.lt, (h2 o).1, (h2 o).2⟩) h3 (fun oB hoB b o hb => ⟨h1 b o hb, by have := hW.size; omega⟩) eg
    (fun Sg W2 hW2 hg => hq Sg W2 (below3 hW hW2 (Nat.le_refl _)) hg) (ct.below hW ct.lt) (cq.below hW cq.lt) (ch.below hW ch.lt)
end Go.Proofs.Ytldbciflpnhfpaa

/- heat: Run, where all is valid. -/

set_option linter.unusedSimpArgs false
set_option linter.unusedVariables false
namespace Go.Proofs.Ytldbciflpnhfpaa
open Go.RowKit

/-- A fresh list of fresh lists. -/
def RunV (W : World) (z rn ln : Nat) (L : Nat → List Int) (v : Value) : Prop := ∃ (A : Option Addr) (c : Nat) (pre : List Nat), v = .slice A ln c ∧ pre.length = ln ∧ W.ownsRow z 30 1 v ln (pre.flatMap (slE rn)) ∧ RowsL W z L pre
theorem RunV.below {W W' : World} {z rn ln : Nat} {L : Nat → List Int} {v : Value} (h : RunV W z rn ln L v) (hb : Below W.heap.size W W') : RunV W' z rn ln L v := by
  obtain ⟨A, c, pre, e, h1, h2, h3⟩ := h
  refine ⟨A, c, pre, e, h1, h2.kept (grown_of_below hb) ?_, fun i b hi => ⟨(h3 i b hi).1, (h3 i b hi).2.below hb (h3 i b hi).2.lt⟩⟩
  rcases h2.2 with ⟨e, _⟩ | ⟨g, cap, cur, e, _⟩
  · left; rw [e]; rfl
  · right; rw [e]; intro h9; cases h9
theorem RunV.low {W : World} {z z' rn ln : Nat} {L : Nat → List Int} {v : Value} (h : RunV W z rn ln L v) (hz : z' ≤ z) : RunV W z' rn ln L v := by
  obtain ⟨A, c, pre, e, h1, h2, h3⟩ := h
  exact ⟨A, c, pre, e, h1, row_low h2 hz, fun i b hi => ⟨Nat.le_trans hz (h3 i b hi).1, (h3 i b hi).2⟩⟩
def ruPhi (z rn ln tc lc : Nat) (hs : Array Value) (tA lA : Option Addr) (L : Nat → List Int) : Nat → Value → World → (Nat → Nat) → Prop
  | 0, v, _, _ => v = .agg hs
  | 1, v, _, _ => v = .slice tA rn tc
  | 2, v, _, _ => v = .slice lA ln lc
  | 3, v, W, _ => ∃ sB, v = .func (.func 69) #[] #[.pointer (some ⟨sB, 0, none⟩)] ∧ Blk W sB 49 #[.slice lA ln lc]
  | 4, v, W, _ => ∃ tB qB hB sB, v = .func (.func 68) #[] #[.pointer (some ⟨tB, 0, none⟩), .pointer (some ⟨qB, 0, none⟩), .pointer (some ⟨hB, 0, none⟩)] ∧ Blk W tB 30 #[.slice tA rn tc] ∧ Blk W qB 97 #[.func (.func 69) #[] #[.pointer (some ⟨sB, 0, none⟩)]] ∧ Blk W hB 28 hs ∧ Blk W sB 49 #[.slice lA ln lc]
  | 5, v, W, _ => RunV W z rn ln L v
  | 6, v, W, _ => RunV W z rn ln L v
  | 7, v, _, _ => v = .int .i64 0
  | _, _, _, _ => True
theorem ruPhi_next {z rn ln tc lc : Nat} {hs : Array Value} {tA lA : Option Addr} {L : Nat → List Int} {W W' : World} (hb : Below W.heap.size W W') (j : Nat) (v : Value) {γ γ' : Nat → Nat} (h : ruPhi z rn ln tc lc hs tA lA L j v W γ) : ruPhi z rn ln tc lc hs tA lA L j v W' γ' := by
  unfold ruPhi at h ⊢
  split at h
  all_goals first | exact h | trivial | skip
  · obtain ⟨sB, e, h1⟩ := h; exact ⟨sB, e, h1.below hb h1.lt⟩
  · obtain ⟨tB, qB, hB, sB, e, h1, h2, h3, h4⟩ := h; exact ⟨tB, qB, hB, sB, e, h1.below hb h1.lt, h2.below hb h2.lt, h3.below hb h3.lt, h4.below hb h4.lt⟩
  · exact RunV.below h hb
  · exact RunV.below h hb
set_option maxRecDepth 100000 in
set_option maxHeartbeats 4000000 in
theorem Run_yes (rA wA bA cA : Option Addr) (rn rc wn wc bn bc cn cc : Nat) (tA lA : Option Addr) (tc ln lc : Nat) (t : List Int) (cl : List Cz) (h : Hl) (w : World) (hin : HlIn w w.heap.size ⟨rA, wA, bA, cA, rn, wn, bn, cn⟩ h) (ok : HlOk h) (hln : ln ≤ 20000) (ht : Rd w w.heap.size 1 encI tA rn t) (htb : ∀ x ∈ t, 0 ≤ x ∧ x ≤ 1000000) (hl : Rd w w.heap.size 3 Cs.enc lA ln (cl.map Prod.fst)) (hcl : ∀ x ∈ cl, CzOk w w.heap.size rn x) :
    Calls Try.prog 21 #[.agg #[.slice rA rn rc, .slice wA wn wc, .slice bA bn bc, .slice cA cn cc], .slice tA rn tc, .slice lA ln lc] w fun e w' => ∃ v, e = .returned (.tuple #[v, .int .i64 0]) ∧ RunV w' w.heap.size rn ln (fun k => itC h t (cl.take k)) v ∧ Below w.heap.size w w' := by
  have hn8 : rn ≤ 8 := by have h9 := hin.rm.1; dsimp only at h9; rw [← h9]; exact ok.n8
  have hlen : cl.length = ln := by have h9 := hl.1; simpa using h9
  have KC := Lib.hid (fun W (hW : Below w.heap.size w W) => Check_ok rA wA bA cA rn rc wn wc bn bc cn cc h W (hin.next hW) ok)
  have KN := Lib.hid (fun (ab : Nat) W (hW : Below w.heap.size w W) (hk : Blk W ab 30 #[.slice tA rn tc]) => checkNumbers_yes rA wA bA cA rn rc wn wc bn bc cn cc (some ⟨ab, 0, none⟩) lA 1 1 ln lc [⟨tA, rn, tc⟩] (cl.map Prod.fst) W (by omega) (by omega) (by omega) (rd_one (f := Ls.enc) _ hk rfl) (hl.next hW) (fun x hx => by
    rw [List.mem_singleton.1 hx]
    exact ⟨rfl, t, ht.next hW, htb⟩) (fun x hx => by
    obtain ⟨y, hy, rfl⟩ := List.mem_map.1 hx
    have h9 := hcl y hy
    exact ⟨h9.n, ⟨h9.o, h9.p⟩, y.2, h9.rd.next hW, h9.bd⟩))
  have KV := Lib.hid (fun W => Values_any lA ln lc W)
  have KS := Lib.hid (fun (sB : Nat) W => seconds_any (.slice rA rn rc) (.slice wA wn wc) (.slice bA bn bc) (.slice cA cn cc) tA rn tc (.func 69) #[] #[.pointer (some ⟨sB, 0, none⟩)] W)
  have KL := Lib.hid (fun (tB qB hB sB : Nat) (W : World) (hW : Below w.heap.size w W) (b1 : Blk W tB 30 #[.slice tA rn tc]) (b2 : Blk W qB 97 #[.func (.func 69) #[] #[.pointer (some ⟨sB, 0, none⟩)]]) (b3 : Blk W hB 28 #[.slice rA rn rc, .slice wA wn wc, .slice bA bn bc, .slice cA cn cc]) (b4 : Blk W sB 49 #[.slice lA ln lc]) =>
    collectSeconds_any rA wA bA cA tA rn rc wn wc bn bc cn cc tc h ok t cl (by omega) tB qB hB 69 #[.pointer (some ⟨sB, 0, none⟩)] W (hin.next hW) (ht.next hW) htb (fun x hx => ⟨(hcl x hx).n, (hcl x hx).rd.next hW, (hcl x hx).bd, (hcl x hx).o, (hcl x hx).p⟩) (enters_of Try.func69 (by kernel_rfl) rfl)
      (fun Sg W2 hW2 hg => values_y (7 - 1) (by omega) sB ln lc W.heap.size lA cl Sg W2 (b4.below hW2 b4.lt) ((hl.next hW).below hW2) (by omega) hW2.size hg) b1 b2 b3)
  have g1 : w.heap.size < w.heap.size + 1 := by omega
  have hbig : ¬ (20000 : Int) < (ln : Int) := by omega
  have HLN : Hid (cl.length = ln) := Lib.hid hlen
  clear hin ok ht htb hl hcl hn8 hlen hln
  go_enter Try.func21, Try.ntmps21
  go_wp2_with fail
  obtain ⟨bx, hbx⟩ : ∃ z, z = w.heap.size := ⟨_, rfl⟩
  obtain ⟨w1, hw1⟩ : ∃ z, z = w.alloc (.cells #[.slice rA rn rc, .slice wA wn wc, .slice bA bn bc, .slice cA cn cc] 28) := ⟨_, rfl⟩
  have BX : Hid (Blk w1 bx 28 #[.slice rA rn rc, .slice wA wn wc, .slice bA bn bc, .slice cA cn cc]) := Lib.hid (by rw [hw1, hbx]; exact heap_alloc_new w _)
  have Sw1 : Hid (w1.heap.size = bx + 1) := Lib.hid (by rw [hw1, hbx, World.size_alloc])
  have Zbx : Hid (w.heap.size ≤ bx) := Lib.hid (by rw [hbx]; exact Nat.le_refl _)
  have hBn : Below w.heap.size w w1 := by rw [hw1]; exact (Below.refl _ _).alloc (Nat.le_refl _) _
  rw [← hw1, ← hbx]
  have B0 : Hid (Below w.heap.size w w1) := Lib.hid hBn
  clear hw1 hbx hBn
  refine (KC.out _ B0.out).mono ?_
  rintro e w2 ⟨rfl, hB⟩
  have B1 : Hid (Below w1.heap.size w1 w2) := Lib.hid hB
  clear hB
  clear g1
  have hbk := BX.out.below B1.out BX.out.lt
  have s0 := hbk.cell 0
  have s1 := hbk.cell 1
  have s2 := hbk.cell 2
  have s3 := hbk.cell 3
  simp only [List.getElem?_toArray, List.getElem?_cons_zero, List.getElem?_cons_succ] at s0 s1 s2 s3
  have zs := hbk.lt
  clear hbk
  go_wp2_with fail
  obtain ⟨ab, hab⟩ : ∃ z, z = w2.heap.size := ⟨_, rfl⟩
  obtain ⟨w3, hw3⟩ : ∃ z, z = w2.alloc (.cells #[.slice tA rn tc] 30) := ⟨_, rfl⟩
  have AB : Hid (Blk w3 ab 30 #[.slice tA rn tc]) := Lib.hid (by rw [hw3, hab]; exact heap_alloc_new w2 _)
  have Sw3 : Hid (w3.heap.size = ab + 1) := Lib.hid (by rw [hw3, hab, World.size_alloc])
  have Zab : Hid (w2.heap.size ≤ ab) := Lib.hid (by rw [hab]; exact Nat.le_refl _)
  have hBn : Below w2.heap.size w2 w3 := by rw [hw3]; exact (Below.refl _ _).alloc (Nat.le_refl _) _
  rw [← hw3, ← hab]
  have B2 : Hid (Below w2.heap.size w2 w3) := Lib.hid hBn
  clear hw3 hab hBn
  refine (KN.out ab w3 (below3 (below3 B0.out B1.out (Nat.le_refl _)) B2.out (Nat.le_refl _)) AB.out).mono ?_
  rintro e w4 ⟨rfl, hB⟩
  have B3 : Hid (Below w3.heap.size w3 w4) := Lib.hid hB
  clear hB s0 s1 s2 s3 zs hbig
  go_wp2_with fail
  refine wp_region_free10 7 (by kernel_rfl) [some 26, some 27, some 28, some 29, some 30, some 31, some 6, some 7] [[], [], [], [2], [0, 1, 3, 3], [4, 4], [5, 5, 0, 1, 2, 3, 4, 5], [6, 0, 1, 2, 3, 4, 5, 6]] [(3, .pointer (some ⟨bx, 0, none⟩)), (1, .slice tA rn tc), (2, .slice lA ln lc)] (fun W _ => Below w4.heap.size w4 W) (ruPhi w.heap.size rn ln tc lc #[.slice rA rn rc, .slice wA wn wc, .slice bA bn bc, .slice cA cn cc] tA lA (fun k => itC h t (cl.take k))) (fun _ _ _ => True) (by kernel_rfl) (by kernel_rfl) rfl (by kernel_rfl) ?_ ?_ ⟨fun _ => 0, (Below.refl _ _).drew, fun _ _ => trivial⟩ ?_ ?_
  · intro z hz
    simp only [List.mem_cons, List.mem_nil_iff, or_false] at hz
    rcases hz with rfl | rfl | rfl
    all_goals exact ⟨by kernel_rfl, rfl⟩
  · intro i v W γ hi h
    rcases i with _ | _ | _ | _ | _ | _ | _ | _ | i
    all_goals first | exact h | (simp at hi)
  · refine ⟨?_, ?_, ?_, ?_, ?_, ?_, ?_, ?_, trivial⟩
    all_goals
      intro a9 W γ ev hcc hff hfx hR hψ hpre
      simp only [List.mem_cons, List.mem_nil_iff, or_false, forall_eq, forall_eq_or_imp] at hfx
      obtain ⟨f0, f1, f2⟩ := hfx
      have HR := Lib.hid hR
      clear hR
    · refine ⟨fun hg K hK => ?_, trivial⟩
      clear hg
      have hbk := BX.out.below (below3 (below3 (below3 B1.out B2.out (Nat.le_refl _)) B3.out (Nat.le_refl _)) HR.out (Nat.le_refl _)) BX.out.lt
      have zs := hbk.lt
      have s0 := hbk.cell 0
      have s1 := hbk.cell 1
      have s2 := hbk.cell 2
      have s3 := hbk.cell 3
      simp only [List.getElem?_toArray, List.getElem?_cons_zero, List.getElem?_cons_succ] at s0 s1 s2 s3
      clear hbk
      clear hpre hψ
      go_simp
      exact hK _ _ γ HR.out (fun _ _ _ _ h => h) (fun _ _ _ h => h) rfl
    · refine ⟨fun hg K hK => ?_, trivial⟩
      clear hg
      clear hpre hψ
      go_simp
      exact hK _ _ γ HR.out (fun _ _ _ _ h => h) (fun _ _ _ h => h) rfl
    · refine ⟨fun hg K hK => ?_, trivial⟩
      clear hg
      clear hpre hψ
      go_simp
      exact hK _ _ γ HR.out (fun _ _ _ _ h => h) (fun _ _ _ h => h) rfl
    · refine ⟨fun hg K hK => ?_, trivial⟩
      clear hg
      have q0 : ev (.tmp 28) = _ := hpre 2 (by decide)
      have HX := Lib.hid HR.out
      clear hpre hψ
      go_simp
      refine (KV.out W).mono ?_
      rintro e w7 ⟨sB, rfl, h1, _, hB9⟩
      exact hK _ w7 γ (below3 HX.out hB9 (Nat.le_refl _)) (fun j u hj hne h => ruPhi_next hB9 j u h) (fun _ _ _ h => h) ⟨sB, rfl, h1⟩
    · refine ⟨fun hg K hK => ?_, trivial⟩
      clear hg
      have q0 : ev (.tmp 26) = _ := hpre 0 (by decide)
      have q1 : ev (.tmp 27) = _ := hpre 1 (by decide)
      obtain ⟨sB, q3, h3⟩ := hpre 3 (by decide)
      replace q3 : ev (.tmp 29) = _ := q3
      have HX := Lib.hid (And.intro HR.out h3)
      clear hpre hψ h3
      go_simp
      refine (KS.out sB W).mono ?_
      rintro e w7 ⟨tB, qB, hB, rfl, ⟨h1, h2, h3⟩, _, _, _, hB9⟩
      exact hK _ w7 γ (below3 HX.out.1 hB9 (Nat.le_refl _)) (fun j u hj hne h => ruPhi_next hB9 j u h) (fun _ _ _ h => h) ⟨tB, qB, hB, sB, rfl, h1, h2, h3, HX.out.2.below hB9 HX.out.2.lt⟩
    · refine ⟨fun hg K hK => ?_, trivial⟩
      clear hg
      obtain ⟨tB, qB, hB, sB, q4, h1, h2, h3, h4⟩ := hpre 4 (by decide)
      replace q4 : ev (.tmp 30) = _ := q4
      have C := Lib.hid (KL.out tB qB hB sB W (below3 (below3 (below3 (below3 B0.out B1.out (Nat.le_refl _)) B2.out (Nat.le_refl _)) B3.out (Nat.le_refl _)) HR.out (Nat.le_refl _)) h1 h2 h3 h4)
      have HX := Lib.hid HR.out
      clear hpre hψ h1 h2 h3 h4
      go_simp
      refine C.out.mono ?_
      rintro e w7 ⟨v, pre, rfl, p1, p2, p3, hB9⟩
      obtain ⟨A9, c9, rfl⟩ := row_slice p2
      rw [HLN.out] at p1 p2
      exact hK _ w7 γ (below3 HX.out hB9 (Nat.le_refl _)) (fun j u hj hne h => ruPhi_next hB9 j u h) (fun _ _ _ h => h) (RunV.low ⟨A9, c9, pre, by rw [HLN.out], p1, by rw [HLN.out]; exact p2, p3⟩ (Nat.le_trans (below3 (below3 (below3 B0.out B1.out (Nat.le_refl _)) B2.out (Nat.le_refl _)) B3.out (Nat.le_refl _)).size HX.out.size))
    · refine ⟨fun hg K hK => ?_, trivial⟩
      clear hg
      have h5 : RunV W w.heap.size rn ln (fun k => itC h t (cl.take k)) (ev (.tmp 31)) := hpre 5 (by decide)
      obtain ⟨A9, c9, pre, q5, h6⟩ := h5
      rw [q5] at h6
      have HX := Lib.hid (And.intro HR.out h6)
      clear hpre hψ
      go_simp
      exact hK _ _ γ HX.out.1 (fun _ _ _ _ h => h) (fun _ _ _ h => h) ⟨A9, c9, pre, rfl, HX.out.2⟩
    · refine ⟨fun hg K hK => ?_, trivial⟩
      clear hg
      clear hpre hψ
      go_simp
      exact hK _ _ γ HR.out (fun _ _ _ _ h => h) (fun _ _ _ h => h) rfl
  · intro vs w5 γ hvl hR hφ
    have q6 := hφ 6 (by decide)
    have q7 := hφ 7 (by decide)
    have HR := Lib.hid hR
    clear hφ hR
    match vs, hvl with
    | [y0, y1, y2, y3, y4, y5, y6, y7], _ =>
    simp only [List.getD_cons_zero, List.getD_cons_succ] at q6 q7
    replace q6 : RunV w5 w.heap.size rn ln (fun k => itC h t (cl.take k)) y6 := q6
    obtain rfl : y7 = _ := q7
    have B4 : Hid (Below w4.heap.size w4 w5) := Lib.hid HR.out
    obtain ⟨A9, c9, pre, rfl, h6⟩ := q6
    have HF := Lib.hid (And.intro h6 (below3 (below3 (below3 (below3 B0.out B1.out (Nat.le_refl _)) B2.out (Nat.le_refl _)) B3.out (Nat.le_refl _)) B4.out (Nat.le_refl _)))
    clear HR h6
    simp [putAll]
    go_wp2
    refine bodyPost_ret (v := .tuple #[.slice A9 ln c9, .int .i64 0]) (by simp [results, Try.results21, go_sem]) rfl ?_
    exact ⟨_, rfl, ⟨A9, c9, pre, rfl, HF.out.1⟩, HF.out.2⟩
end Go.Proofs.Ytldbciflpnhfpaa

/- heat: Bounds, where all is valid. -/

set_option linter.unusedSimpArgs false
set_option linter.unusedVariables false
namespace Go.Proofs.Ytldbciflpnhfpaa
open Go.RowKit

def boPhi (z rn cnt tc : Nat) (hs cs : Array Value) (tA : Option Addr) (kp : Value) (L : Nat → List Int) : Nat → Value → World → (Nat → Nat) → Prop
  | 0, v, _, _ => v = .agg hs
  | 1, v, _, _ => v = .slice tA rn tc
  | 2, v, _, _ => v = kp
  | 3, v, _, _ => v = .agg cs
  | 4, v, _, _ => v = .int .i64 (cnt : Int)
  | 5, v, W, _ => ∃ nB cB, v = .func (.func 70) #[] #[.pointer (some ⟨nB, 0, none⟩), .pointer (some ⟨cB, 0, none⟩)] ∧ Blk W nB 3 #[.int .i64 (cnt : Int)] ∧ Blk W cB 35 cs
  | 6, v, W, _ => ∃ tB qB hB nB cB, v = .func (.func 68) #[] #[.pointer (some ⟨tB, 0, none⟩), .pointer (some ⟨qB, 0, none⟩), .pointer (some ⟨hB, 0, none⟩)] ∧ Blk W tB 30 #[.slice tA rn tc] ∧ Blk W qB 97 #[.func (.func 70) #[] #[.pointer (some ⟨nB, 0, none⟩), .pointer (some ⟨cB, 0, none⟩)]] ∧ Blk W hB 28 hs ∧ Blk W nB 3 #[.int .i64 (cnt : Int)] ∧ Blk W cB 35 cs
  | 7, v, W, _ => RunV W z rn cnt L v
  | 8, v, W, _ => RunV W z rn cnt L v
  | _, _, _, _ => True
theorem boPhi_next {z rn cnt tc : Nat} {hs cs : Array Value} {tA : Option Addr} {kp : Value} {L : Nat → List Int} {W W' : World} (hb : Below W.heap.size W W') (j : Nat) (v : Value) {γ γ' : Nat → Nat} (h : boPhi z rn cnt tc hs cs tA kp L j v W γ) : boPhi z rn cnt tc hs cs tA kp L j v W' γ' := by
  unfold boPhi at h ⊢
  split at h
  all_goals first | exact h | trivial | skip
  · obtain ⟨nB, cB, e, h1, h2⟩ := h; exact ⟨nB, cB, e, h1.below hb h1.lt, h2.below hb h2.lt⟩
  · obtain ⟨tB, qB, hB, nB, cB, e, h1, h2, h3, h4, h5⟩ := h; exact ⟨tB, qB, hB, nB, cB, e, h1.below hb h1.lt, h2.below hb h2.lt, h3.below hb h3.lt, h4.below hb h4.lt, h5.below hb h5.lt⟩
  · exact RunV.below h hb
  · exact RunV.below h hb
set_option maxRecDepth 100000 in
set_option maxHeartbeats 8000000 in
theorem Bounds_yes (rA wA bA cA : Option Addr) (rn rc wn wc bn bc cn cc : Nat) (aA zA tA uA : Option Addr) (ac zc tc uc cnt : Nat) (hcnt : cnt ≤ 20000) (o1 p1 o2 p2 : Int) (La Lb t u : List Int) (h : Hl) (w : World) (hin : HlIn w w.heap.size ⟨rA, wA, bA, cA, rn, wn, bn, cn⟩ h) (ok : HlOk h) (hc : ClIn w rn aA zA o1 p1 o2 p2 La Lb) (ht : Rd w w.heap.size 1 encI tA rn t) (htb : ∀ x ∈ t, 0 ≤ x ∧ x ≤ 1000000) (hu : Rd w w.heap.size 1 encI uA rn u) (hub : ∀ x ∈ u, 0 ≤ x ∧ x ≤ 1000000) (hle : leB t u = true) :
    Calls Try.prog 22 #[.agg #[.slice rA rn rc, .slice wA wn wc, .slice bA bn bc, .slice cA cn cc], .slice tA rn tc, .slice uA rn uc, .agg #[.slice aA rn ac, .int .i64 o1, .int .i64 p1, .slice zA rn zc, .int .i64 o2, .int .i64 p2], .int .i64 (cnt : Int)] w fun e w' => ∃ v v2, e = .returned (.tuple #[v, v2, .int .i64 0]) ∧ RunV w' w.heap.size rn cnt (fun k => itC h t ((List.replicate cnt (⟨⟨aA, rn, ac, o1, p1⟩, La⟩ : Cz)).take k)) v ∧ RunV w' w.heap.size rn cnt (fun k => itC h u ((List.replicate cnt (⟨⟨zA, rn, zc, o2, p2⟩, Lb⟩ : Cz)).take k)) v2 ∧ Below w.heap.size w w' := by
  have hn8 : rn ≤ 8 := by have h9 := hin.rm.1; dsimp only at h9; rw [← h9]; exact ok.n8
  have KC := Lib.hid (fun W (hW : Below w.heap.size w W) => checkBox_yes rA wA bA cA rn rc wn wc bn bc cn cc aA zA tA uA ac zc tc uc o1 p1 o2 p2 La Lb t u h W (hin.next hW) ok (hc.next hW) (ht.next hW) (hu.next hW) htb hub hle)
  have KT := Lib.hid (fun W => isTime_yes (n := (cnt : Int)) ⟨by omega, by omega⟩ W)
  have KA := Lib.hid (fun (c0 c1 c2 : Value) W => always_any c0 c1 c2 (cnt : Int) W)
  have KS := Lib.hid (fun (tA : Option Addr) (tc nB cB : Nat) W => seconds_any (.slice rA rn rc) (.slice wA wn wc) (.slice bA bn bc) (.slice cA cn cc) tA rn tc (.func 70) #[] #[.pointer (some ⟨nB, 0, none⟩), .pointer (some ⟨cB, 0, none⟩)] W)
  have KL := Lib.hid (fun (tA : Option Addr) (tc : Nat) (t : List Int) (x : Cz) (tB qB hB nB cB : Nat) (W : World) (hW : Below w.heap.size w W) (ht : Rd w w.heap.size 1 encI tA rn t) (htb : ∀ x ∈ t, 0 ≤ x ∧ x ≤ 1000000) (hx : CzOk w w.heap.size rn x) (b1 : Blk W tB 30 #[.slice tA rn tc]) (b2 : Blk W qB 97 #[.func (.func 70) #[] #[.pointer (some ⟨nB, 0, none⟩), .pointer (some ⟨cB, 0, none⟩)]]) (b3 : Blk W hB 28 #[.slice rA rn rc, .slice wA wn wc, .slice bA bn bc, .slice cA cn cc]) (b4 : Blk W nB 3 #[.int .i64 (cnt : Int)]) (b5 : Blk W cB 35 #[.slice x.1.A x.1.n x.1.c, .int .i64 x.1.out, .int .i64 x.1.pump]) =>
    collectSeconds_any rA wA bA cA tA rn rc wn wc bn bc cn cc tc h ok t (List.replicate cnt x) (by rw [List.length_replicate]; exact hcnt) tB qB hB 70 #[.pointer (some ⟨nB, 0, none⟩), .pointer (some ⟨cB, 0, none⟩)] W (hin.next hW) (ht.next hW) htb (fun y hy => by
      obtain rfl := (List.mem_replicate.1 hy).2
      exact ⟨hx.n, hx.rd.next hW, hx.bd, hx.o, hx.p⟩) (enters_of Try.func70 (by kernel_rfl) rfl)
      (fun Sg W2 hW2 hg => always_y (7 - 1) (by omega) nB cB cnt x Sg W2 (by omega) (b4.below hW2 b4.lt) (b5.below hW2 b5.lt) (fun o => ⟨hg _ o b4.lt, hg _ o b5.lt⟩)) b1 b2 b3)
  have HX1 : Hid (CzOk w w.heap.size rn ⟨⟨aA, rn, ac, o1, p1⟩, La⟩ ∧ CzOk w w.heap.size rn ⟨⟨zA, rn, zc, o2, p2⟩, Lb⟩) := Lib.hid ⟨⟨rfl, hc.ra, hc.ba, hc.o.1, hc.p.1⟩, ⟨rfl, hc.rb, hc.bb, hc.o.2, hc.p.2⟩⟩
  have HT := Lib.hid (And.intro ht htb)
  have HU := Lib.hid (And.intro hu hub)
  have g1 : w.heap.size < w.heap.size + 1 := by omega
  have g2 : w.heap.size < w.heap.size + 1 + 1 := by omega
  clear hin ok hc hn8 ht htb hu hub hle
  go_enter Try.func22, Try.ntmps22
  go_wp2_with fail
  obtain ⟨bx, hbx⟩ : ∃ z, z = w.heap.size := ⟨_, rfl⟩
  obtain ⟨w1, hw1⟩ : ∃ z, z = w.alloc (.cells #[.slice rA rn rc, .slice wA wn wc, .slice bA bn bc, .slice cA cn cc] 28) := ⟨_, rfl⟩
  have BX : Hid (Blk w1 bx 28 #[.slice rA rn rc, .slice wA wn wc, .slice bA bn bc, .slice cA cn cc]) := Lib.hid (by rw [hw1, hbx]; exact heap_alloc_new w _)
  have Sw1 : Hid (w1.heap.size = bx + 1) := Lib.hid (by rw [hw1, hbx, World.size_alloc])
  have Zbx : Hid (w.heap.size ≤ bx) := Lib.hid (by rw [hbx]; exact Nat.le_refl _)
  have hBn : Below w.heap.size w w1 := by rw [hw1]; exact (Below.refl _ _).alloc (Nat.le_refl _) _
  rw [← hw1, ← hbx]
  have B0 : Hid (Below w.heap.size w w1) := Lib.hid hBn
  clear hw1 hbx hBn
  obtain ⟨kb, hkb⟩ : ∃ z, z = bx + 1 := ⟨_, rfl⟩
  obtain ⟨w2, hw2⟩ : ∃ z, z = w1.alloc (.cells #[.slice aA rn ac, .int .i64 o1, .int .i64 p1, .slice zA rn zc, .int .i64 o2, .int .i64 p2] 37) := ⟨_, rfl⟩
  have KB : Hid (Blk w2 kb 37 #[.slice aA rn ac, .int .i64 o1, .int .i64 p1, .slice zA rn zc, .int .i64 o2, .int .i64 p2]) := Lib.hid (by have e2 := heap_alloc_new w1 (.cells #[.slice aA rn ac, .int .i64 o1, .int .i64 p1, .slice zA rn zc, .int .i64 o2, .int .i64 p2] 37); rw [Sw1.out] at e2; rw [hw2, hkb]; exact e2)
  have Sw2 : Hid (w2.heap.size = kb + 1) := Lib.hid (by rw [hw2, hkb, World.size_alloc, Sw1.out])
  have Zkb : Hid (w1.heap.size = kb) := Lib.hid (by rw [Sw1.out, hkb])
  have hBn : Below w1.heap.size w1 w2 := by rw [hw2]; exact (Below.refl _ _).alloc (Nat.le_refl _) _
  rw [← hw2, ← hkb]
  have B1 : Hid (Below w1.heap.size w1 w2) := Lib.hid hBn
  clear hw2 hkb hBn
  refine (KC.out _ (below3 B0.out B1.out (Nat.le_refl _))).mono ?_
  rintro e w3 ⟨rfl, hB⟩
  have B2 : Hid (Below w2.heap.size w2 w3) := Lib.hid hB
  clear hB
  clear g1 g2
  go_wp2_with fail
  refine (KT.out w3).mono ?_
  rintro e w3b ⟨rfl, hw9⟩
  obtain rfl := hw9.symm
  go_wp2_with fail
  refine wp_region_free10 8 (by kernel_rfl) [some 27, some 28, some 29, some 30, some 31, some 32, some 33, some 34, some 14] [[], [], [], [2], [], [3, 4], [0, 1, 5, 5], [6, 6], [7, 7, 0, 1, 2, 3, 4, 5, 6, 7]] [(5, .pointer (some ⟨bx, 0, none⟩)), (1, .slice tA rn tc), (8, .pointer (some ⟨kb, 0, none⟩)), (4, .int .i64 (cnt : Int))] (fun W _ => Below w3.heap.size w3 W) (boPhi w.heap.size rn cnt tc #[.slice rA rn rc, .slice wA wn wc, .slice bA bn bc, .slice cA cn cc] #[.slice aA rn ac, .int .i64 o1, .int .i64 p1] tA (.pointer (some ⟨kb, 0, none⟩)) (fun k => itC h t ((List.replicate cnt (⟨⟨aA, rn, ac, o1, p1⟩, La⟩ : Cz)).take k))) (fun _ _ _ => True) (by kernel_rfl) (by kernel_rfl) rfl (by kernel_rfl) ?_ ?_ ⟨fun _ => 0, (Below.refl _ _).drew, fun _ _ => trivial⟩ ?_ ?_
  · intro z hz
    simp only [List.mem_cons, List.mem_nil_iff, or_false] at hz
    rcases hz with rfl | rfl | rfl | rfl
    all_goals exact ⟨by kernel_rfl, rfl⟩
  · intro i v W γ hi h
    rcases i with _ | _ | _ | _ | _ | _ | _ | _ | _ | i
    all_goals first | exact h | (simp at hi)
  · refine ⟨?_, ?_, ?_, ?_, ?_, ?_, ?_, ?_, ?_, trivial⟩
    all_goals
      intro a9 W γ ev hcc hff hfx hR hψ hpre
      simp only [List.mem_cons, List.mem_nil_iff, or_false, forall_eq, forall_eq_or_imp] at hfx
      obtain ⟨f0, f1, f2, f3⟩ := hfx
      have HR := Lib.hid hR
      clear hR
    · refine ⟨fun hg K hK => ?_, trivial⟩
      clear hg
      have hbk := BX.out.below (below3 (below3 B1.out B2.out (Nat.le_refl _)) HR.out (Nat.le_refl _)) BX.out.lt
      have zs := hbk.lt
      have s0 := hbk.cell 0
      have s1 := hbk.cell 1
      have s2 := hbk.cell 2
      have s3 := hbk.cell 3
      simp only [List.getElem?_toArray, List.getElem?_cons_zero, List.getElem?_cons_succ] at s0 s1 s2 s3
      clear hbk
      clear hpre hψ
      go_simp
      exact hK _ _ γ HR.out (fun _ _ _ _ h => h) (fun _ _ _ h => h) rfl
    · refine ⟨fun hg K hK => ?_, trivial⟩
      clear hg
      clear hpre hψ
      go_simp
      exact hK _ _ γ HR.out (fun _ _ _ _ h => h) (fun _ _ _ h => h) rfl
    · refine ⟨fun hg K hK => ?_, trivial⟩
      clear hg
      clear hpre hψ
      go_simp
      exact hK _ _ γ HR.out (fun _ _ _ _ h => h) (fun _ _ _ h => h) rfl
    · refine ⟨fun hg K hK => ?_, trivial⟩
      clear hg
      have q0 : ev (.tmp 29) = _ := hpre 2 (by decide)
      have hbk := KB.out.below (below3 B2.out HR.out (Nat.le_refl _)) KB.out.lt
      have zs := hbk.lt
      have s0 := hbk.cell 0
      have s1 := hbk.cell 1
      have s2 := hbk.cell 2
      have s3 := hbk.cell 3
      have s4 := hbk.cell 4
      have s5 := hbk.cell 5
      simp only [List.getElem?_toArray, List.getElem?_cons_zero, List.getElem?_cons_succ] at s0 s1 s2 s3 s4 s5
      clear hbk
      clear hpre hψ
      go_simp
      exact hK _ _ γ HR.out (fun _ _ _ _ h => h) (fun _ _ _ h => h) rfl
    · refine ⟨fun hg K hK => ?_, trivial⟩
      clear hg
      clear hpre hψ
      go_simp
      exact hK _ _ γ HR.out (fun _ _ _ _ h => h) (fun _ _ _ h => h) rfl
    · refine ⟨fun hg K hK => ?_, trivial⟩
      clear hg
      have q0 : ev (.tmp 30) = _ := hpre 3 (by decide)
      have q1 : ev (.tmp 31) = _ := hpre 4 (by decide)
      have HX := Lib.hid HR.out
      clear hpre hψ
      go_simp
      refine (KA.out _ _ _ W).mono ?_
      rintro e w7 ⟨nB, cB, rfl, h1, h2, _, _, hB9⟩
      exact hK _ w7 γ (below3 HX.out hB9 (Nat.le_refl _)) (fun j u hj hne h => boPhi_next hB9 j u h) (fun _ _ _ h => h) ⟨nB, cB, rfl, h1, h2⟩
    · refine ⟨fun hg K hK => ?_, trivial⟩
      clear hg
      have q0 : ev (.tmp 27) = _ := hpre 0 (by decide)
      have q1 : ev (.tmp 28) = _ := hpre 1 (by decide)
      obtain ⟨nB, cB, q3, h3, h4⟩ := hpre 5 (by decide)
      replace q3 : ev (.tmp 32) = _ := q3
      have HX := Lib.hid (And.intro HR.out (And.intro h3 h4))
      clear hpre hψ h3 h4
      go_simp
      refine (KS.out tA tc nB cB W).mono ?_
      rintro e w7 ⟨tB, qB, hB, rfl, ⟨h1, h2, h3⟩, _, _, _, hB9⟩
      exact hK _ w7 γ (below3 HX.out.1 hB9 (Nat.le_refl _)) (fun j u hj hne h => boPhi_next hB9 j u h) (fun _ _ _ h => h) ⟨tB, qB, hB, nB, cB, rfl, h1, h2, h3, HX.out.2.1.below hB9 HX.out.2.1.lt, HX.out.2.2.below hB9 HX.out.2.2.lt⟩
    · refine ⟨fun hg K hK => ?_, trivial⟩
      clear hg
      obtain ⟨tB, qB, hB, nB, cB, q4, h1, h2, h3, h4, h5⟩ := hpre 6 (by decide)
      replace q4 : ev (.tmp 33) = _ := q4
      have C := Lib.hid (KL.out tA tc t ⟨⟨aA, rn, ac, o1, p1⟩, La⟩ tB qB hB nB cB W (below3 (below3 (below3 B0.out B1.out (Nat.le_refl _)) B2.out (Nat.le_refl _)) HR.out (Nat.le_refl _)) HT.out.1 HT.out.2 HX1.out.1 h1 h2 h3 h4 h5)
      have HX := Lib.hid HR.out
      clear hpre hψ h1 h2 h3 h4 h5
      go_simp
      refine C.out.mono ?_
      rintro e w7 ⟨v, pre, rfl, p1, p2, p3, hB9⟩
      rw [List.length_replicate] at p1 p2
      obtain ⟨A9, c9, rfl⟩ := row_slice p2
      exact hK _ w7 γ (below3 HX.out hB9 (Nat.le_refl _)) (fun j u hj hne h => boPhi_next hB9 j u h) (fun _ _ _ h => h) (RunV.low ⟨A9, c9, pre, rfl, p1, p2, p3⟩ (Nat.le_trans (below3 (below3 B0.out B1.out (Nat.le_refl _)) B2.out (Nat.le_refl _)).size HX.out.size))
    · refine ⟨fun hg K hK => ?_, trivial⟩
      clear hg
      have h5 : RunV W w.heap.size rn cnt (fun k => itC h t ((List.replicate cnt (⟨⟨aA, rn, ac, o1, p1⟩, La⟩ : Cz)).take k)) (ev (.tmp 34)) := hpre 7 (by decide)
      obtain ⟨A9, c9, pre, q5, h6⟩ := h5
      rw [q5] at h6
      have HX := Lib.hid (And.intro HR.out h6)
      clear hpre hψ
      go_simp
      exact hK _ _ γ HX.out.1 (fun _ _ _ _ h => h) (fun _ _ _ h => h) ⟨A9, c9, pre, rfl, HX.out.2⟩
  · intro vs w4 γ hvl hR hφ
    have q8 := hφ 8 (by decide)
    have HR := Lib.hid hR
    clear hφ hR
    match vs, hvl with
    | [y0, y1, y2, y3, y4, y5, y6, y7, y8], _ =>
    simp only [List.getD_cons_zero, List.getD_cons_succ] at q8
    replace q8 : RunV w4 w.heap.size rn cnt (fun k => itC h t ((List.replicate cnt (⟨⟨aA, rn, ac, o1, p1⟩, La⟩ : Cz)).take k)) y8 := q8
    have B3 : Hid (Below w3.heap.size w3 w4) := Lib.hid HR.out
    clear HR
    obtain ⟨A9, c9, pre, rfl, h6⟩ := q8
    have HV1 := Lib.hid h6
    clear h6
    simp [putAll]
    go_wp2_with fail
    refine wp_region_free10 8 (by kernel_rfl) [some 35, some 36, some 37, some 38, some 39, some 40, some 41, some 42, some 15] [[], [], [], [2], [], [3, 4], [0, 1, 5, 5], [6, 6], [7, 7, 0, 1, 2, 3, 4, 5, 6, 7]] [(5, .pointer (some ⟨bx, 0, none⟩)), (2, .slice uA rn uc), (8, .pointer (some ⟨kb, 0, none⟩)), (4, .int .i64 (cnt : Int))] (fun W _ => Below w4.heap.size w4 W) (boPhi w.heap.size rn cnt uc #[.slice rA rn rc, .slice wA wn wc, .slice bA bn bc, .slice cA cn cc] #[.slice zA rn zc, .int .i64 o2, .int .i64 p2] uA (.pointer (some ⟨kb, 3, none⟩)) (fun k => itC h u ((List.replicate cnt (⟨⟨zA, rn, zc, o2, p2⟩, Lb⟩ : Cz)).take k))) (fun _ _ _ => True) (by kernel_rfl) (by kernel_rfl) rfl (by kernel_rfl) ?_ ?_ ⟨fun _ => 0, (Below.refl _ _).drew, fun _ _ => trivial⟩ ?_ ?_
    · intro z hz
      simp only [List.mem_cons, List.mem_nil_iff, or_false] at hz
      rcases hz with rfl | rfl | rfl | rfl
      all_goals exact ⟨by kernel_rfl, rfl⟩
    · intro i v W γ hi h
      rcases i with _ | _ | _ | _ | _ | _ | _ | _ | _ | i
      all_goals first | exact h | (simp at hi)
    · refine ⟨?_, ?_, ?_, ?_, ?_, ?_, ?_, ?_, ?_, trivial⟩
      all_goals
        intro a9 W γ ev hcc hff hfx hR hψ hpre
        simp only [List.mem_cons, List.mem_nil_iff, or_false, forall_eq, forall_eq_or_imp] at hfx
        obtain ⟨f0, f1, f2, f3⟩ := hfx
        have HR := Lib.hid hR
        clear hR
      · refine ⟨fun hg K hK => ?_, trivial⟩
        clear hg
        have hbk := BX.out.below (below3 (below3 (below3 B1.out B2.out (Nat.le_refl _)) B3.out (Nat.le_refl _)) HR.out (Nat.le_refl _)) BX.out.lt
        have zs := hbk.lt
        have s0 := hbk.cell 0
        have s1 := hbk.cell 1
        have s2 := hbk.cell 2
        have s3 := hbk.cell 3
        simp only [List.getElem?_toArray, List.getElem?_cons_zero, List.getElem?_cons_succ] at s0 s1 s2 s3
        clear hbk
        clear hpre hψ
        go_simp
        exact hK _ _ γ HR.out (fun _ _ _ _ h => h) (fun _ _ _ h => h) rfl
      · refine ⟨fun hg K hK => ?_, trivial⟩
        clear hg
        clear hpre hψ
        go_simp
        exact hK _ _ γ HR.out (fun _ _ _ _ h => h) (fun _ _ _ h => h) rfl
      · refine ⟨fun hg K hK => ?_, trivial⟩
        clear hg
        clear hpre hψ
        go_simp
        exact hK _ _ γ HR.out (fun _ _ _ _ h => h) (fun _ _ _ h => h) rfl
      · refine ⟨fun hg K hK => ?_, trivial⟩
        clear hg
        have q0 : ev (.tmp 37) = _ := hpre 2 (by decide)
        have hbk := KB.out.below (below3 (below3 B2.out B3.out (Nat.le_refl _)) HR.out (Nat.le_refl _)) KB.out.lt
        have zs := hbk.lt
        have s0 := hbk.cell 0
        have s1 := hbk.cell 1
        have s2 := hbk.cell 2
        have s3 := hbk.cell 3
        have s4 := hbk.cell 4
        have s5 := hbk.cell 5
        simp only [List.getElem?_toArray, List.getElem?_cons_zero, List.getElem?_cons_succ] at s0 s1 s2 s3 s4 s5
        clear hbk
        clear hpre hψ
        go_simp
        exact hK _ _ γ HR.out (fun _ _ _ _ h => h) (fun _ _ _ h => h) rfl
      · refine ⟨fun hg K hK => ?_, trivial⟩
        clear hg
        clear hpre hψ
        go_simp
        exact hK _ _ γ HR.out (fun _ _ _ _ h => h) (fun _ _ _ h => h) rfl
      · refine ⟨fun hg K hK => ?_, trivial⟩
        clear hg
        have q0 : ev (.tmp 38) = _ := hpre 3 (by decide)
        have q1 : ev (.tmp 39) = _ := hpre 4 (by decide)
        have HX := Lib.hid HR.out
        clear hpre hψ
        go_simp
        refine (KA.out _ _ _ W).mono ?_
        rintro e w7 ⟨nB, cB, rfl, h1, h2, _, _, hB9⟩
        exact hK _ w7 γ (below3 HX.out hB9 (Nat.le_refl _)) (fun j u hj hne h => boPhi_next hB9 j u h) (fun _ _ _ h => h) ⟨nB, cB, rfl, h1, h2⟩
      · refine ⟨fun hg K hK => ?_, trivial⟩
        clear hg
        have q0 : ev (.tmp 35) = _ := hpre 0 (by decide)
        have q1 : ev (.tmp 36) = _ := hpre 1 (by decide)
        obtain ⟨nB, cB, q3, h3, h4⟩ := hpre 5 (by decide)
        replace q3 : ev (.tmp 40) = _ := q3
        have HX := Lib.hid (And.intro HR.out (And.intro h3 h4))
        clear hpre hψ h3 h4
        go_simp
        refine (KS.out uA uc nB cB W).mono ?_
        rintro e w7 ⟨tB, qB, hB, rfl, ⟨h1, h2, h3⟩, _, _, _, hB9⟩
        exact hK _ w7 γ (below3 HX.out.1 hB9 (Nat.le_refl _)) (fun j u hj hne h => boPhi_next hB9 j u h) (fun _ _ _ h => h) ⟨tB, qB, hB, nB, cB, rfl, h1, h2, h3, HX.out.2.1.below hB9 HX.out.2.1.lt, HX.out.2.2.below hB9 HX.out.2.2.lt⟩
      · refine ⟨fun hg K hK => ?_, trivial⟩
        clear hg
        obtain ⟨tB, qB, hB, nB, cB, q4, h1, h2, h3, h4, h5⟩ := hpre 6 (by decide)
        replace q4 : ev (.tmp 41) = _ := q4
        have C := Lib.hid (KL.out uA uc u ⟨⟨zA, rn, zc, o2, p2⟩, Lb⟩ tB qB hB nB cB W (below3 (below3 (below3 (below3 B0.out B1.out (Nat.le_refl _)) B2.out (Nat.le_refl _)) B3.out (Nat.le_refl _)) HR.out (Nat.le_refl _)) HU.out.1 HU.out.2 HX1.out.2 h1 h2 h3 h4 h5)
        have HX := Lib.hid HR.out
        clear hpre hψ h1 h2 h3 h4 h5
        go_simp
        refine C.out.mono ?_
        rintro e w7 ⟨v, pre, rfl, p1, p2, p3, hB9⟩
        rw [List.length_replicate] at p1 p2
        obtain ⟨A9, c9, rfl⟩ := row_slice p2
        exact hK _ w7 γ (below3 HX.out hB9 (Nat.le_refl _)) (fun j u hj hne h => boPhi_next hB9 j u h) (fun _ _ _ h => h) (RunV.low ⟨A9, c9, pre, rfl, p1, p2, p3⟩ (Nat.le_trans (below3 (below3 (below3 B0.out B1.out (Nat.le_refl _)) B2.out (Nat.le_refl _)) B3.out (Nat.le_refl _)).size HX.out.size))
      · refine ⟨fun hg K hK => ?_, trivial⟩
        clear hg
        have h5 : RunV W w.heap.size rn cnt (fun k => itC h u ((List.replicate cnt (⟨⟨zA, rn, zc, o2, p2⟩, Lb⟩ : Cz)).take k)) (ev (.tmp 42)) := hpre 7 (by decide)
        obtain ⟨A9, c9, pre, q5, h6⟩ := h5
        rw [q5] at h6
        have HX := Lib.hid (And.intro HR.out h6)
        clear hpre hψ
        go_simp
        exact hK _ _ γ HX.out.1 (fun _ _ _ _ h => h) (fun _ _ _ h => h) ⟨A9, c9, pre, rfl, HX.out.2⟩
    · intro vs w5 γ hvl hR hφ
      have q8 := hφ 8 (by decide)
      have HR := Lib.hid hR
      clear hφ hR
      match vs, hvl with
      | [y0, y1, y2, y3, y4, y5, y6, y7, y8], _ =>
      simp only [List.getD_cons_zero, List.getD_cons_succ] at q8
      replace q8 : RunV w5 w.heap.size rn cnt (fun k => itC h u ((List.replicate cnt (⟨⟨zA, rn, zc, o2, p2⟩, Lb⟩ : Cz)).take k)) y8 := q8
      have B4 : Hid (Below w4.heap.size w4 w5) := Lib.hid HR.out
      clear HR
      obtain ⟨A8, c8, pre2, rfl, h6⟩ := q8
      have HV2 := Lib.hid h6
      clear h6
      have HF := Lib.hid (RunV.below ⟨A9, c9, pre, rfl, HV1.out⟩ B4.out)
      have HFB := Lib.hid (below3 (below3 (below3 (below3 B0.out B1.out (Nat.le_refl _)) B2.out (Nat.le_refl _)) B3.out (Nat.le_refl _)) B4.out (Nat.le_refl _))
      simp [putAll]
      go_wp2
      refine bodyPost_ret (v := .tuple #[.slice A9 cnt c9, .slice A8 cnt c8, .int .i64 0]) (by simp [results, Try.results22, go_sem]) rfl ?_
      exact ⟨_, _, rfl, HF.out, ⟨A8, c8, pre2, rfl, HV2.out⟩, HFB.out⟩
end Go.Proofs.Ytldbciflpnhfpaa

/- slices.Repeat of one case. -/

set_option linter.unusedSimpArgs false
set_option linter.unusedVariables false
namespace Go.Proofs.Ytldbciflpnhfpaa
open Go.RowKit Go.Lib

theorem run_copy_row_k {P : Program} (w : World) (dT sT ty elem : TypeId) (size g o dLen dCap : Nat) (a : Addr) (sLen sCap : Nat) (cur : Array Value) (t : TypeId) (cs : List Value) (q : Nat)
    (hu : P.underlying dT = some (.slice elem)) (hs : (P.info? elem).map (·.size) = some size)
    (hg : w.heap[g]? = some (.cells cur t (0, 0))) (hq : Nat.min sLen dLen = q) (hn : cs.length = q * size)
    (hsrc : ∀ j v, cs[j]? = some v → w.cell? (a.add j) = some v) (hfit : o + cs.length ≤ cur.size) (h1 : ∀ v ∈ cs, v.oneCell' = true) :
    (Builtin.copy_ #[dT, sT] ty #[.slice (some ⟨g, o, none⟩) dLen dCap, .slice (some a) sLen sCap]).run P w =
      .ok (goInt q) (w.setRow g (cur.toList.take o ++ cs ++ cur.toList.drop (o + cs.length)).toArray) := by
  have hl := run_loadCells_list (P := P) w a cs hsrc
  have hst := run_storeCells_at P g o t cs 0 cur w hg (by simpa using hfit) h1
  simp only [Nat.add_zero] at hst
  cases hq2 : P.info? elem with
  | none => simp [hq2] at hs
  | some i =>
    have hi : i.size = size := by simpa [hq2] using hs
    rw [hn] at hl
    simp [Builtin.copy_, run_underlying hu, Builtin.lenOf, Builtin.firstCells, sizeOf, typeInfo, hq2, hi, hq, hl, hst]
def renMul : Go.Shelf.Ren := ⟨fun | 212 => 46 | 263 => 72 | 264 => 73 | n => n, fun | 46 => 104 | 51 => 127 | 53 => 130 | 146 => 128 | 148 => 131 | n => n, fun n => n⟩
theorem laysMul : Lays.n212 Try.prog renMul where
  mixed := by kernel_rfl
  f212 := Try.func46.trans (congrArg some (by kernel_rfl))
  f263 := Try.func72.trans (congrArg some (by kernel_rfl))
  f264 := Try.func73.trans (congrArg some (by kernel_rfl))
  t46 := Try.underlying104
  a46 := Try.isAgg104
  z46 := Try.sizeOf104
  v46 := Try.zeroValue104
  t51 := Try.underlying127
  a51 := Try.isAgg127
  z51 := Try.sizeOf127
  v51 := Try.zeroValue127
  t53 := Try.underlying130
  a53 := Try.isAgg130
  z53 := Try.sizeOf130
  v53 := Try.zeroValue130
  t146 := Try.underlying128
  a146 := Try.isAgg128
  z146 := Try.sizeOf128
  v146 := Try.zeroValue128
  t148 := Try.underlying131
  a148 := Try.isAgg131
  z148 := Try.sizeOf131
  v148 := Try.zeroValue131
theorem mul_one (y : Nat) (hy : y < 18446744073709551616) (w : World) :
    Calls Try.prog 46 #[.int .u64 1, .int .u64 (y : Int)] w fun e w' => e = .returned (.tuple #[.int .u64 0, .int .u64 (y : Int)]) ∧ w' = w := by
  have h := Any.bits_Mul laysMul 1 y (by omega) hy w
  have e1 : 1 * y / 18446744073709551616 = 0 := by omega
  have e2 : 1 * y % 18446744073709551616 = y := by omega
  rw [e1, e2] at h
  exact h
theorem setRow_blk {w : World} {g : Nat} {cur cs : Array Value} {t : TypeId} (h : Blk w g t cur) : Blk (w.setRow g cs) g t cs := setRow_heap w g cur _ t _ h
theorem setRow_far {w : World} {g k : Nat} {cs : Array Value} (h : k ≠ g) : (w.setRow g cs).heap[k]? = w.heap[k]? := by
  unfold World.setRow
  simp only [Array.getElem?_modify]
  split
  · rename_i e; exact absurd e.symm h
  · rfl
theorem setRow_low {B : Nat} {w0 w : World} {g : Nat} {cs : Array Value} (h : Below B w0 w) (hg : B ≤ g) : Below B w0 (w.setRow g cs) :=
  h.trans ⟨rfl, rfl, rfl, by unfold World.setRow; simp, fun k hk => setRow_far (by omega)⟩
theorem mul_one0 (y : Nat) (hy : y < 18446744073709551616) (w : World) : Calls Try.prog 46 #[.int .u64 1, .int .u64 (y : Int)] w fun e w' => e = .returned (.tuple #[.int .u64 0, .int .u64 (y : Int)]) ∧ w' = w := mul_one y hy w
theorem flat_len {α : Type} {f : α → List Value} {s : Nat} (hf : ∀ x, (f x).length = s) (l : List α) : (l.flatMap f).length = l.length * s := by
  induction l with
  | nil => simp
  | cons x l ih => rw [List.flatMap_cons, List.length_append, ih, hf, List.length_cons, Nat.succ_mul, Nat.add_comm]
theorem flat_take {α : Type} {f : α → List Value} {s : Nat} (hf : ∀ x, (f x).length = s) (a b : List α) : ((a ++ b).flatMap f).take (a.length * s) = a.flatMap f := by
  rw [List.flatMap_append]
  exact List.take_left' (flat_len hf a)
theorem flat_drop {α : Type} {f : α → List Value} {s : Nat} (hf : ∀ x, (f x).length = s) (a b : List α) : ((a ++ b).flatMap f).drop (a.length * s) = b.flatMap f := by
  rw [List.flatMap_append]
  exact List.drop_left' (flat_len hf a)
theorem madeCells_rep (z : Array Value) (hz : 0 < z.size) (n : Nat) : madeCells z (n * z.size) = ((List.replicate n z.toList).flatten).toArray := by
  unfold madeCells
  rw [← Array.toList_inj, Array.toList_map, Array.toList_range]
  show (List.range (n * z.size)).map _ = (List.replicate n z.toList).flatten
  induction n with
  | zero => simp
  | succ n ih =>
    rw [Nat.succ_mul, List.range_add, List.map_append, ih, List.replicate_succ', List.flatten_append, List.flatten_singleton, List.map_map]
    congr 1
    apply List.ext_getElem
    · simp
    · intro i h1 h2
      have h3 : i < z.size := by simpa using h2
      simp only [List.getElem_map, List.getElem_range, Function.comp_apply]
      rw [Nat.mul_comm n, Nat.mul_add_mod, Nat.mod_eq_of_lt h3, getElem!_pos z i h3]
      simp
def cs0 : Cs := ⟨none, 0, 0, 0, 0⟩
theorem cs_len : ∀ x : Cs, x.enc.length = 3 := fun _ => rfl
/-- make([]Case, n). -/
theorem run_makeCs (n : Nat) (hn : n ≤ 100000) (w : World) : (Instr.makeSlice 49 (.int .i64 n) (.int .i64 n)).run Try.prog w = .ok (.slice (some ⟨w.heap.size, 0, none⟩) n n) (w.alloc (.cells ((List.replicate n cs0).flatMap Cs.enc).toArray 35)) := by
  obtain ⟨i, hi, hz, hs, hb⟩ := info_parts caseInfo
  have h := run_make (P := Try.prog) w 49 35 i _ Try.underlying49 hi hz .i64 .i64 n n (by omega) (by omega) (by rw [hb]; omega) (by omega)
  have e : madeCells (Value.agg #[.slice none 0 0, .int .i64 0, .int .i64 0]).cells (n * 3) = ((List.replicate n cs0).flatMap Cs.enc).toArray := by
    have := madeCells_rep #[.slice none 0 0, .int .i64 0, .int .i64 0] (by simp) n
    rw [List.flatMap_replicate]
    exact this
  simp only [Int.toNat_natCast, hs, e] at h
  exact h
/-- The first k of n cases are x. -/
def repC (x : Cs) (k n : Nat) : List Value := (List.replicate k x ++ List.replicate (n - k) cs0).flatMap Cs.enc
theorem repC_len {x : Cs} {k n : Nat} (h : k ≤ n) : (repC x k n).length = n * 3 := by unfold repC; rw [flat_len cs_len]; simp; omega
theorem repC_step {x : Cs} {k q n : Nat} (h : k + q ≤ n) : (repC x k n).take (k * 3) ++ (List.replicate q x).flatMap Cs.enc ++ (repC x k n).drop (k * 3 + ((List.replicate q x).flatMap Cs.enc).length) = repC x (k + q) n := by
  unfold repC
  have e : n - k = q + (n - (k + q)) := by omega
  have h1 := flat_take cs_len (List.replicate k x) (List.replicate (n - k) cs0)
  have h2 := flat_drop cs_len (List.replicate k x ++ List.replicate q cs0) (List.replicate (n - (k + q)) cs0)
  rw [List.length_replicate] at h1
  rw [List.length_append, List.length_replicate, List.length_replicate, List.append_assoc, List.replicate_append_replicate, ← e] at h2
  rw [h1, flat_len cs_len, List.length_replicate, ← Nat.add_mul, h2, ← List.flatMap_append, ← List.flatMap_append, List.replicate_append_replicate]
theorem repC_one (x : Cs) (q : Nat) : ∀ u ∈ (List.replicate q x).flatMap Cs.enc, u.oneCell' = true := by
  intro u hu
  obtain ⟨y, hy, h⟩ := List.mem_flatMap.1 hu
  simp only [Cs.enc, List.mem_cons, List.mem_nil_iff, or_false] at h
  rcases h with rfl | rfl | rfl <;> rfl
set_option maxRecDepth 100000 in
set_option maxHeartbeats 2000000 in
theorem repeatC_any (xb xc n : Nat) (x : Cs) (w : World) (hx : Blk w xb 35 x.enc.toArray) (hn2 : n ≤ 400) :
    Calls Try.prog 24 #[.slice (some ⟨xb, 0, none⟩) 1 xc, .int .i64 (n : Int)] w fun e w' => ∃ nb, e = .returned (.slice (some ⟨nb, 0, none⟩) n n) ∧ w.heap.size ≤ nb ∧ Blk w' nb 35 ((List.replicate n x).flatMap Cs.enc).toArray ∧ Below w.heap.size w w' := by
  have KM := Lib.hid (fun W => mul_one n (by omega) W)
  have hmk := run_makeCs n (by omega)
  have u1 : IntKind.u64.wrap (n : Int) = (n : Int) := by rw [IntKind.wrap_u64]; omega
  have u2 : IntKind.i64.wrap (n : Int) = (n : Int) := IntWalk.i64_in _ (by omega)
  have u3 : ¬ ((n : Int) < 0) := by omega
  have u4 : ¬ ((9223372036854775807 : Int) < (n : Int)) := by omega
  have hXZ := hx.lt
  obtain ⟨nb, hnb⟩ : ∃ z, z = w.heap.size := ⟨_, rfl⟩
  obtain ⟨i0, hi0, hz0, hz1, hz2⟩ := info_parts caseInfo
  have hsz : (Try.prog.info? 35).map (·.size) = some 3 := by rw [hi0]; simp [hz1]
  have hex : x.enc.toArray.toList = x.enc := by simp
  obtain ⟨k0, hk0⟩ : ∃ z, z = Nat.min 1 n := ⟨_, rfl⟩
  have hk01 : k0 ≤ 1 ∧ k0 ≤ n ∧ (1 ≤ n → k0 = 1) := by rw [hk0]; simp only [Nat.min_def]; split <;> omega
  have HCP1 : Hid (∀ (W : World) (ty : TypeId) (dc : Nat), Blk W nb 35 (repC x 0 n).toArray → Blk W xb 35 x.enc.toArray → (Builtin.copy_ #[49, 49] ty #[.slice (some ⟨nb, 0, none⟩) n dc, .slice (some ⟨xb, 0, none⟩) 1 xc]).run Try.prog W = .ok (goInt (k0 : Nat)) (W.setRow nb (repC x k0 n).toArray)) := Lib.hid (fun W ty dc h1 h2 => by
    have h := run_copy_row_k (P := Try.prog) W 49 49 ty 35 3 nb 0 n dc ⟨xb, 0, none⟩ 1 xc (repC x 0 n).toArray 35 ((List.replicate k0 x).flatMap Cs.enc) k0 Try.underlying49 hsz h1 hk0.symm (by rw [flat_len cs_len, List.length_replicate])
      (fun j v hj => by
        rw [Addr.add_lit, Nat.zero_add, h2.cell]
        rcases Nat.le_one_iff_eq_zero_or_eq_one.1 hk01.1 with e | e
        · rw [e] at hj; simp at hj
        · rw [e] at hj; simpa using hj) (by rw [flat_len cs_len, List.length_replicate, List.size_toArray, repC_len (by omega)]; omega) (repC_one x k0)
    have h9 := repC_step (x := x) (k := 0) (q := k0) (n := n) (by omega)
    simp only [Nat.zero_mul, Nat.zero_add] at h9
    simp only [Nat.zero_add, List.toList_toArray] at h
    rw [h9] at h
    exact h)
  have HCP2 : Hid (∀ (W : World) (ty : TypeId) (k q dc sc : Nat), k + q ≤ n → Nat.min k (n - k) = q → Blk W nb 35 (repC x k n).toArray → (Builtin.copy_ #[49, 49] ty #[.slice (some ⟨nb, k * 3, none⟩) (n - k) dc, .slice (some ⟨nb, 0, none⟩) k sc]).run Try.prog W = .ok (goInt (q : Nat)) (W.setRow nb (repC x (k + q) n).toArray)) := Lib.hid (fun W ty k q dc sc hkq hq h1 => by
    have hqk : q ≤ k := by rw [← hq]; exact Nat.min_le_left _ _
    have h := run_copy_row_k (P := Try.prog) W 49 49 ty 35 3 nb (k * 3) (n - k) dc ⟨nb, 0, none⟩ k sc (repC x k n).toArray 35 ((List.replicate q x).flatMap Cs.enc) q Try.underlying49 hsz h1 hq (by rw [flat_len cs_len, List.length_replicate])
      (fun j v hj => by
        rw [Addr.add_lit, Nat.zero_add, h1.cell, List.getElem?_toArray]
        have h3 : repC x k n = (List.replicate q x).flatMap Cs.enc ++ (List.replicate (k - q) x ++ List.replicate (n - k) cs0).flatMap Cs.enc := by
          unfold repC
          rw [← List.flatMap_append, ← List.append_assoc, List.replicate_append_replicate, show q + (k - q) = k by omega]
        rw [h3, List.getElem?_append_left (List.getElem?_eq_some_iff.1 hj).1]
        exact hj) (by rw [flat_len cs_len, List.length_replicate, List.size_toArray, repC_len (by omega)]; omega) (repC_one x q)
    rw [List.toList_toArray, repC_step hkq] at h
    exact h)
  have HX := Lib.hid hx
  have mixed : Try.prog.follows .mixedOrders = true := by kernel_rfl
  have HK0 := Lib.hid hk01
  clear hx hi0 hz0 hz1 hz2 hsz hex hk0 hk01
  go_enter Try.func24, Try.ntmps24
  go_wp2_with fail
  refine (KM.out _).mono ?_
  rintro e w2 ⟨rfl, rfl⟩
  have hn0 : Blk (w2.alloc (.cells ((List.replicate n cs0).flatMap Cs.enc).toArray 35)) nb 35 (repC x 0 n).toArray := by rw [hnb]; exact heap_alloc_new w2 _
  have hx0 : Blk (w2.alloc (.cells ((List.replicate n cs0).flatMap Cs.enc).toArray 35)) xb 35 x.enc.toArray := HX.out.alloc _
  have hcp1 := fun ty dc => HCP1.out _ ty dc hn0 hx0
  rw [hnb] at hcp1
  go_wp2_with (at_builtin; refine wpList_copy_runI _ rfl _ _ 49 49 rfl _ _ rfl rfl (hcp1 _ _) ?_)
  rw [← hnb]
  have H1 : Hid (Blk ((w2.alloc (.cells ((List.replicate n cs0).flatMap Cs.enc).toArray 35)).setRow nb (repC x k0 n).toArray) nb 35 (repC x k0 n).toArray ∧ Below nb w2 ((w2.alloc (.cells ((List.replicate n cs0).flatMap Cs.enc).toArray 35)).setRow nb (repC x k0 n).toArray)) := Lib.hid ⟨setRow_blk hn0, setRow_low (by rw [hnb]; exact (Below.refl w2.heap.size w2).alloc (Nat.le_refl _) _) (Nat.le_refl _)⟩
  have HNB := Lib.hid hnb
  clear hn0 hx0 hcp1 hnb hXZ
  go_loopw [8] (fun i wr => ∃ k : Nat, (1 ≤ n → 1 ≤ k) ∧ k ≤ n ∧ i = .int .i64 k ∧ Hid (Blk wr nb 35 (repC x k n).toArray ∧ Below nb w2 wr)) (fun i _ => n - (RowKit.intOf i).toNat)
  case atStart => exact ⟨k0, fun h => by have := HK0.out.2.2 h; omega, HK0.out.2.1, rfl, H1⟩
  case round =>
    obtain ⟨k, hk1, hk, rfl, hrel⟩ := hrel
    by_cases hlt : k < n
    · obtain ⟨q, hq⟩ : ∃ q, q = Nat.min k (n - k) := ⟨_, rfl⟩
      have hq1 : 1 ≤ q := by have := hk1 (by omega); rw [hq]; simp only [Nat.min_def]; split <;> omega
      have hkq : k + q ≤ n := by rw [hq]; simp only [Nat.min_def]; split <;> omega
      have hcp := fun ty dc sc => HCP2.out wr.drew ty k q dc sc hkq hq.symm hrel.out.1
      have hk0 : (0 : Int) ≤ (k : Int) := by omega
      have hkn : (k : Int) < (n : Int) := by omega
      have hkn2 : (k : Int) ≤ (n : Int) := by omega
      have hb2 : ¬ (n = k) := by omega
      have hb3 : ¬ (n - k = 0) := by omega
      obtain ⟨kq, hkq2⟩ : ∃ z, z = k + q := ⟨_, rfl⟩
      have hw : IntKind.i64.wrap ((k : Int) + (q : Int)) = (kq : Int) := by rw [← Int.natCast_add, ← hkq2]; exact IntWalk.i64_in _ (by omega)
      have H2 : Hid (Blk (wr.drew.setRow nb (repC x (k + q) n).toArray) nb 35 (repC x (k + q) n).toArray ∧ Below nb w2 (wr.drew.setRow nb (repC x (k + q) n).toArray)) := Lib.hid ⟨setRow_blk (show Blk wr.drew nb _ _ from hrel.out.1), setRow_low hrel.out.2.drew (Nat.le_refl _)⟩
      rw [← hkq2] at H2 hcp
      have HQ := Lib.hid (And.intro hq1 (And.intro hkq hkq2))
      clear hq hq1 hkq hkq2 hrel
      go_wp2
      go_region_law_o (refine step_copy_runI rfl _ _ 49 49 rfl _ _ (by simp [Act.eval, Act.put]) (by simp [Act.eval, Act.put]) (hcp _ _ _) ?_)
      go_wp2
      simp [Act.put]
      go_wp2
      go_roundw
      case rel => exact ⟨kq, by have := HQ.out; omega, by have := HQ.out; omega, rfl, H2⟩
      case measure => have := HQ.out; simp [RowKit.intOf]; omega
    · obtain rfl : n = k := by omega
      have HR := hrel
      clear hrel
      go_wp2
      go_ret
      refine ⟨nb, rfl, by rw [HNB.out]; exact Nat.le_refl _, ?_, ?_⟩
      · have := HR.out.1
        unfold repC at this
        rw [Nat.sub_self, List.replicate_zero, List.append_nil] at this
        exact this
      · rw [← HNB.out]
        exact HR.out.2
end Go.Proofs.Ytldbciflpnhfpaa
