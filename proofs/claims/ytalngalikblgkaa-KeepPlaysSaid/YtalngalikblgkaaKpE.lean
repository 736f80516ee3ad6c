/- keep: the states that are lost. -/
import Derived.Test.YtalngalikblgkaaKpD
import Derived.Maps.OwnIn

set_option linter.unusedSimpArgs false
set_option linter.unusedVariables false
namespace Go.Proofs.Ytalngalikblgkaa
open Go.RowKit Go.Shelf
attribute [local go_sem] Oper.semAt_some

theorem states_stops (F : Fence) (n : Nat) (hf : F.fn 79) (hro : F.round = none) (hn : 1 ≤ n) (Bp ib io ic S : Nat) (Sf : Nat → Prop) (inn : List Bool) (hlen : inn.length = S) (hS : S ≤ 100000) (hBp : Sf Bp) (hib : Sf ib) (w : World)
    (cp : w.cell? ⟨Bp, 0, none⟩ = some (.slice (some ⟨ib, io, none⟩) S ic)) (cI : ∀ (i : Nat) (b : Bool), inn[i]? = some b → w.cell? ⟨ib, io + i, none⟩ = some (.bool b)) :
    SeqStopsK F n Try.prog 79 #[.pointer (some ⟨Bp, 0, none⟩)] (fun x : Fin S => #[.int .i64 (x.val : Int)]) (KpS Sf) (fun ys => ys = stTo S inn S) (fun _ => True) S w := fun l J Jx W hW hJ _ hY h0 =>
  states1_in F n hf hro hn l Bp ib io ic S Sf inn hlen hS hBp hib J Jx W hJ (fun pre x W1 _ => hY pre x W1) ((hW.cell (block_of_cell cp)).trans cp) (fun i b e => (hW.cell (block_of_cell (cI i b e))).trans (cI i b e)) h0
/-- What lies below a row, and what is of another type, is no part of the row. -/
theorem own_ge {W : World} {n₀ i : Nat} {e : TypeId} {size k : Nat} {v : Value} {xs : List Value} (h : W.ownsRow n₀ e size v k xs) (hi : i < n₀) : some i ≠ v.ownBlock := by
  intro eg
  rcases h.2 with ⟨rfl, _⟩ | ⟨g', cap, cur, rfl, hb, _, _⟩
  · simp [Value.ownBlock] at eg
  · obtain rfl : i = g' := by simpa [Value.ownBlock] using eg
    omega
/-- Behind the append to a boxed slice, and the store into the box. -/
theorem Boxed.appended2 {W w1 : World} {n₀ b B : Nat} {t e : TypeId} {size : Nat} {v v' : Value} {k m : Nat} {xs ys : List Value} {tmp : Obj}
    (hv : Boxed W B t v) (hte : t ≠ e) (hrow : W.ownsRow n₀ e size v k xs) (hn₀ : n₀ ≤ W.heap.size) (hB : B < n₀) (hbB : b ≤ B)
    (hown' : w1.ownsRow n₀ e size v' m ys) (hgrow : (W.alloc tmp).grownBy w1 v.ownBlock) :
    Boxed w1 B t v ∧ Boxed (w1.setCell ⟨B, 0, none⟩ v') B t v' ∧ (w1.setCell ⟨B, 0, none⟩ v').ownsRow n₀ e size v' m ys ∧ KeepsOthers W (w1.setCell ⟨B, 0, none⟩ v') ∧ Below b W (w1.setCell ⟨B, 0, none⟩ v') ∧
    (∀ Sf : Nat → Prop, (∀ i, Sf i → i ≠ B ∧ some i ≠ v.ownBlock) → KpS Sf W (w1.setCell ⟨B, 0, none⟩ v')) ∧
    (∀ i T cs, i ≠ B → some i ≠ v.ownBlock → Blk W i T cs → Blk (w1.setCell ⟨B, 0, none⟩ v') i T cs) := by
  have hbw : B ≤ W.heap.size := by omega
  have h := Boxed.appended (tmp := tmp) hv hte (row_low hrow (by omega)) hbw (Nat.le_refl _) (row_low hown' (by omega)) hgrow
  refine ⟨h.1, h.2.1, ?_, h.2.2.2.1, h.2.2.2.2.mono hbB, ?_, ?_⟩
  · exact hown'.kept (grownBy_setCell' w1 B v') (.inr (h.1.not_row hte hown').symm)
  · intro Sf hS
    refine ((KpS.grown (World.grownBy_alloc W tmp none) (by simp)).trans (KpS.grown hgrow (fun r er hr => ?_))).trans (KpS.grown (grownBy_setCell' w1 B v') (fun r er hr => ?_))
    · exact (hS r hr).2 er.symm
    · cases er
      exact (hS _ hr).1 rfl
  · intro i T cs hi hin hb
    have h1 : Blk (W.alloc tmp) i T cs := hb.alloc tmp
    have h2 : Blk w1 i T cs := h1.kept hgrow hin
    exact h2.kept (grownBy_setCell' w1 B v') (by simp; omega)
theorem blk_own {β : Type} (b : Nat) (t : TypeId) (f : β → Array Value) : Own (fun s W => Blk W b t (f s)) := fun s X Y row hs hg hrow =>
  hs.kept hg (fun e' => by obtain ⟨o, ho, hc⟩ := hrow b e'.symm; rw [show X.heap[b]? = _ from hs] at ho; cases ho; cases hc)
/-- Of the states that have come, those that no control keeps. -/
def lostTo (g : Gm) (inn : List Bool) (pre : List (Fin g.S)) : List Int := (pre.filter fun x => leastK g inn x.val == -1).map fun x => (x.val : Int)
theorem lostTo_snoc (g : Gm) (inn : List Bool) (pre : List (Fin g.S)) (x : Fin g.S) : lostTo g inn (pre ++ [x]) = lostTo g inn pre ++ (if leastK g inn x.val = -1 then [(x.val : Int)] else []) := by
  unfold lostTo
  rw [List.filter_append, List.map_append]
  by_cases h : leastK g inn x.val = -1
  · rw [if_pos h]; simp [h]
  · rw [if_neg h]; simp [h]
set_option maxRecDepth 100000 in
set_option maxHeartbeats 4000000 in
theorem lost_any (nA gA iA cA rA : Option Addr) (nn nc gn gc iN ic cn cc rn rc : Nat) (g : Gm) (inn : List Bool) (w : World) (hin : GmIn w w.heap.size ⟨nA, gA, nn, nc, gn, gc⟩ g) (ok : GmOk g) (hI : Rd w w.heap.size 1 encB iA iN inn) (hiN : iN = g.S) :
    Calls Try.prog 68 #[.agg #[.int .i64 (g.S : Int), .int .i64 (g.C : Int), .int .i64 (g.H : Int), .slice nA nn nc, .slice gA gn gc, .slice iA iN ic, .slice cA cn cc, .slice rA rn rc]] w fun e w' => ∃ A c, e = .returned (.slice A (lostTo g inn (stTo g.S inn g.S)).length c) ∧ Below w.heap.size w w' ∧ w'.ownsRow w.heap.size 3 1 (.slice A (lostTo g inn (stTo g.S inn g.S)).length c) (lostTo g inn (stTo g.S inn g.S)).length ((lostTo g inn (stTo g.S inn g.S)).map (Value.int .i64)) := by
  subst hiN
  obtain ⟨ib, io, e1, hib, hci⟩ := hI.2 ok.s0
  subst e1
  have KL := Lib.hid (fun (s : Nat) W (h : Below w.heap.size w W) (hs : s < g.S) => leastK_any nA gA (some ⟨ib, io, none⟩) cA rA nn nc gn gc g.S ic cn cc rn rc g inn s W (hin.next' h) ok (hI.next h) rfl hs)
  have HCI : Hid (∀ (i : Nat) (b : Bool), inn[i]? = some b → w.cell? ⟨ib, io + i, none⟩ = some (.bool b)) := Lib.hid (fun i b e => by simpa [encB] using hci i b e 0 _ rfl)
  have HLI := Lib.hid hI.1
  have HIB := Lib.hid hib
  have hs1 := ok.s1
  refine (callsIn_wide (n := 9)).1 ?_
  clear hin hI hci hib ok
  refine callsIn_of_wp_marks Try.func68 rfl trivial ?_ rfl
  simp only [Try.ntmps68, List.size_toArray, List.length_cons, List.length_nil, Nat.reduceAdd, Nat.reduceSub, Array.replicate_succ, Array.replicate_zero, List.push_toArray, List.append_toArray, List.nil_append, List.cons_append]
  gi_wp2_with fail
  refine ⟨trivial, ?_⟩
  refine (states_in Fence.wide _ trivial rfl _ _ _ _).mono ?_
  rintro e w2 ⟨rfl, rfl⟩
  gi_wp2
  obtain ⟨W0, hW0⟩ : ∃ W0, (((w.alloc (.cells #[.int .i64 (g.S : Int), .int .i64 (g.C : Int), .int .i64 (g.H : Int), .slice nA nn nc, .slice gA gn gc, .slice (some ⟨ib, io, none⟩) g.S ic, .slice cA cn cc, .slice rA rn rc] 92)).alloc (.cells #[.slice none 0 0] 22)).alloc (.cells #[.slice (some ⟨ib, io, none⟩) g.S ic, .slice cA cn cc, .slice rA rn rc] 27)) = W0 := ⟨_, rfl⟩
  have hsz : W0.heap.size = w.heap.size + 3 := by rw [← hW0]; simp
  have hBw : Below w.heap.size w W0 := by rw [← hW0]; (repeat' (first | (with_reducible exact Below.refl _ _) | (with_reducible assumption) | (with_reducible refine below_drewN ?_ _) | (with_reducible refine below_after (by assumption) ?_ ?_) | (with_reducible refine Below.drew ?_) | (with_reducible refine Below.alloc ?_ ?_ _) | (with_reducible refine Below.setCell ?_ ?_ _) | omega | (simp; omega) | (simp; done)))
  have b1 : Blk W0 w.heap.size 92 #[.int .i64 (g.S : Int), .int .i64 (g.C : Int), .int .i64 (g.H : Int), .slice nA nn nc, .slice gA gn gc, .slice (some ⟨ib, io, none⟩) g.S ic, .slice cA cn cc, .slice rA rn rc] := by rw [← hW0]; exact (Blk.alloc (heap_alloc_new w _) _).alloc _
  have b2 : Blk W0 (w.heap.size + 1) 22 #[.slice none 0 0] := by
    have e2 := heap_alloc_new (w.alloc (.cells #[.int .i64 (g.S : Int), .int .i64 (g.C : Int), .int .i64 (g.H : Int), .slice nA nn nc, .slice gA gn gc, .slice (some ⟨ib, io, none⟩) g.S ic, .slice cA cn cc, .slice rA rn rc] 92)) (.cells #[.slice none 0 0] 22)
    simp only [World.size_alloc] at e2
    rw [← hW0]
    exact Blk.alloc e2 _
  have b3 : Blk W0 (w.heap.size + 1 + 1) 27 #[.slice (some ⟨ib, io, none⟩) g.S ic, .slice cA cn cc, .slice rA rn rc] := by
    have e2 := heap_alloc_new ((w.alloc (.cells #[.int .i64 (g.S : Int), .int .i64 (g.C : Int), .int .i64 (g.H : Int), .slice nA nn nc, .slice gA gn gc, .slice (some ⟨ib, io, none⟩) g.S ic, .slice cA cn cc, .slice rA rn rc] 92)).alloc (.cells #[.slice none 0 0] 22)) (.cells #[.slice (some ⟨ib, io, none⟩) g.S ic, .slice cA cn cc, .slice rA rn rc] 27)
    simp only [World.size_alloc] at e2
    rw [← hW0]
    exact e2
  rw [hW0]
  clear hW0
  obtain ⟨Sf, hSf⟩ : ∃ Sf : Nat → Prop, Sf = fun b => b < w.heap.size ∨ b = w.heap.size + 1 + 1 := ⟨_, rfl⟩
  obtain ⟨i0, hi, hz0, hz1', hz2'⟩ := info_parts intInfo
  refine wpIn_rangeFunc_ownG rfl (by omega) (gf := 79) (lb := #[.pointer (some ⟨w.heap.size + 1 + 1, 0, none⟩)]) rfl trivial (enters_of Try.func79 (by kernel_rfl) rfl)
    (states_stops Fence.wide (9 - 1) trivial rfl (by omega) (w.heap.size + 1 + 1) ib io ic g.S Sf inn HLI.out (by omega) (by rw [hSf]; exact Or.inr rfl) (by rw [hSf]; exact Or.inl HIB.out) W0 (b3.cell 0) (fun i b e => (hBw.cell (p := ⟨ib, io + i, none⟩) HIB.out).trans (HCI.out i b e)))
    (fun h k => KpS.trans h k) (fun W l o o' _ ho hc _ => KpS.putObj W l o o' ho hc) (Below.refl _ _) (fun _ => rfl)
    (fun pre W => (Blk W w.heap.size 92 #[.int .i64 (g.S : Int), .int .i64 (g.C : Int), .int .i64 (g.H : Int), .slice nA nn nc, .slice gA gn gc, .slice (some ⟨ib, io, none⟩) g.S ic, .slice cA cn cc, .slice rA rn rc] ∧ (∃ v, Boxed W (w.heap.size + 1) 22 v ∧ W.ownsRow W0.heap.size 3 1 v (lostTo g inn pre).length ((lostTo g inn pre).map (Value.int .i64)) ∧ True)) ∧ Below w.heap.size W0 W)
    (fun _ _ _ => False)
    (OwnFrom.and (OwnFrom.and (Own.from (blk_own _ _ _) _) (Own.from (holdsRow_own W0.heap.size (w.heap.size + 1) 22 3 1 (fun pre => (lostTo g inn pre).length) (fun pre => (lostTo g inn pre).map (Value.int .i64)) (fun _ _ => True)) _)) (ownFrom_below (by omega) (by omega)))
    (fun _ _ _ _ _ hs _ _ => hs)
    ⟨⟨b1, ⟨_, b2, World.ownsRow_nil _ _ _ _, trivial⟩⟩, Below.refl _ _⟩
    (fun x => { tmps := #[.agg #[.int .i64 (g.S : Int), .int .i64 (g.C : Int), .int .i64 (g.H : Int), .slice nA nn nc, .slice gA gn gc, .slice (some ⟨ib, io, none⟩) g.S ic, .slice cA cn cc, .slice rA rn rc], .pointer (some ⟨w.heap.size, 0, none⟩), .slice none 0 0, .pointer (some ⟨w.heap.size + 1, 0, none⟩), .int .i64 (x.val : Int), .pointer (some ⟨w.heap.size, 5, none⟩), .agg #[.slice (some ⟨ib, io, none⟩) g.S ic, .slice cA cn cc, .slice rA rn rc], .func (.func 79) #[] #[.pointer (some ⟨w.heap.size + 1 + 1, 0, none⟩)], .int .i64 (x.val : Int), undef, undef, undef, undef, undef, undef, undef, undef, undef, undef, undef, undef], defers := [] }) ?assign ?body ?done ?stop
  case assign =>
    rintro l x W K hK
    gi_wp2
    exact hK
  case body =>
    rintro l pre x W ⟨⟨b1, ⟨v, b2, hr, _⟩⟩, hB⟩ hlt
    have hx := x.isLt
    have c0 := b1.cell 0
    have c1 := b1.cell 1
    have c2 := b1.cell 2
    have c3 := b1.cell 3
    have c4 := b1.cell 4
    have c5 := b1.cell 5
    have c6 := b1.cell 6
    have c7 := b1.cell 7
    simp only [List.getElem?_toArray, List.getElem?_cons_zero, List.getElem?_cons_succ] at c0 c1 c2 c3 c4 c5 c6 c7
    obtain ⟨q, hq⟩ : ∃ q, q = leastK g inn x.val := ⟨_, rfl⟩
    have K := Lib.hid (KL.out x.val W (hBw.trans hB) x.isLt)
    rw [← hq] at K
    have hz1 := b1.lt
    have HB := Lib.hid (And.intro b1 (And.intro b2 (And.intro hr hB)))
    have HSN := Lib.hid (lostTo_snoc g inn pre x)
    rw [← hq] at HSN
    have hll : (lostTo g inn pre).length ≤ 400 := by
      have h1 : (lostTo g inn pre).length ≤ pre.length := by unfold lostTo; rw [List.length_map]; exact List.length_filter_le _ _
      omega
    clear b1 b2 hr hB hq
    gi_wp2_with fail
    refine ⟨trivial, ?_⟩
    refine (CallsIn.inRound l (callsIn_wide.2 K.out)).mono ?_
    rintro e W1 ⟨rfl, hB1⟩
    have G1 := grown_of_below hB1
    obtain ⟨b1, b2, hr, hB⟩ := HB.out
    have b1' := b1.below hB1 b1.lt
    have b2' : Boxed W1 (w.heap.size + 1) 22 v := Blk.below b2 hB1 (Blk.lt b2)
    have hr' := row_next hr hB1
    have hB' : Below w.heap.size W0 W1 := hB.trans (hB1.mono (by have := hB.size; omega))
    have hk1 : KeepsFrom W0.heap.size W W1 := KeepsFrom.of_grownBy G1 (fun j e => by cases e)
    have hp1 : KpS Sf W W1 := KpS.grown G1 (by simp)
    have hz2 := hB1.size
    have hz3 : W0.heap.size ≤ W.heap.size := HB.out.2.2.2.size
    by_cases hq1 : q = -1
    · subst hq1
      have c9 := b2'.cell
      have f9 := b2'.frozen
      have z9 := Blk.lt b2'
      have HX := Lib.hid (And.intro b1' (And.intro b2' (And.intro hr' (And.intro hB' (And.intro hk1 hp1)))))
      clear b1 b2 hr hB b1' b2' hr' hB' hk1 hp1 G1 hB1 c0 c1 c2 c3 c4 c5 c6 c7 HB
      gi_wp2_with (gi_at_builtin; refine wpListIn_append_own_at _ rfl (.tmp 16) (.tmp 18) 22 rfl W0.heap.size 3 i0 (.int .i64 0) 1 8 Try.underlying22 hi hz0 hz1' hz2' rfl (by decide) v _ _ rfl (HX.out.2.2.1.alloc _) ⟨W1.heap.size, 0, none⟩ 1 1 [.int .i64 (x.val : Int)] rfl rfl ?_ ?_ ?_ ?_ ?_ ?_)
      case _ =>
        intro i z hz
        match i, hz with
        | 0, hz =>
          simp only [List.getElem?_cons_zero, Option.some.injEq] at hz
          subst hz
          simp [Addr.add, go_sem]
      case _ =>
        intro z hz
        simp only [List.mem_cons, List.mem_nil_iff, or_false] at hz
        subst hz
        rfl
      case _ => simp only [maxLen]; omega
      case _ => omega
      case _ => simp; omega
      intro v' w5 hown hg5 _ _
      obtain ⟨g', cap', rfl⟩ := ownsRow_succ hown
      obtain ⟨b1', b2', hr', hB', hk1, hp1⟩ := HX.out
      rw [← hsz] at hown
      obtain ⟨q1', q2', q3', q4', q5', q6', q7'⟩ := Boxed.appended2 (b := w.heap.size) (t := 22) b2' (by decide) hr' (by omega) (by omega) (by omega) hown hg5
      have f1 := q1'.cell
      have f2 := q1'.frozen
      have HQ : Hid _ := Lib.hid (And.intro q2' (And.intro q3' (And.intro q4' (And.intro q5' (And.intro q6' q7')))))
      clear q1' q2' q3' q4' q5' q6' q7' hown hg5 b1' b2' hr' hB' hk1 hp1
      gi_wp2
      obtain ⟨q2', q3', q4', q5', q6', q7'⟩ := HQ.out
      obtain ⟨b1', b2', hr', hB', hk1, hp1⟩ := HX.out
      have hks := q6' Sf (fun i hi => by
        rw [hSf] at hi
        rcases hi with h | h
        · exact ⟨by omega, own_ge hr' (by omega)⟩
        · exact ⟨by omega, own_ge hr' (by omega)⟩)
      refine ⟨hk1.trans (q4'.from _), hp1.trans hks, ⟨q7' _ _ _ (by omega) (own_ne hr' b1' (by decide)) b1', ⟨_, q2', ?_, trivial⟩⟩, hB'.trans q5'⟩
      rw [HSN.out, show (∀ A B : List Int, (if True then A else B) = A) from fun _ _ => if_pos trivial]
      have h := q3'
      simp only [List.length_append, List.length_cons, List.length_nil, List.map_append, List.map_cons, List.map_nil] at h ⊢
      exact h
    · have hq2 : (q == -1) = false := beq_eq_false_iff_ne.2 hq1
      rw [if_neg hq1, List.append_nil] at HSN
      have HX := Lib.hid (And.intro b1' (And.intro b2' (And.intro hr' (And.intro hB' (And.intro hk1 hp1)))))
      clear b1 b2 hr hB b1' b2' hr' hB' hk1 hp1 G1 hB1 c0 c1 c2 c3 c4 c5 c6 c7 HB hq1
      gi_wp2
      obtain ⟨b1', b2', hr', hB', hk1, hp1⟩ := HX.out
      exact ⟨hk1, hp1, ⟨b1', ⟨v, b2', by rw [HSN.out]; exact hr', trivial⟩⟩, hB'⟩
  case done =>
    rintro D ys W hD hys ⟨⟨b1, ⟨v, b2, hr, _⟩⟩, hB⟩ hK
    rw [hys] at hr
    obtain ⟨A, c, rfl⟩ := row_slice hr
    have cl := b2.cell
    have HR := Lib.hid (And.intro hr hB)
    have HKD := Lib.hid hK
    clear b1 b2 hr hB hK hys
    gi_wp2
    refine ⟨by simp, .inl ⟨_, _, rfl, run_takeDeferred HKD.out, ?_⟩⟩
    exact ⟨_, results_tmp rfl _ _ _, A, c, rfl, (hBw.trans HR.out.2).trans (belowK_b (w := w) (Nat.le_refl _) W D _ _ (by omega) HKD.out rfl rfl), ownsRow_putObj (row_low HR.out.1 (by omega)) _ HKD.out rfl⟩
  case stop =>
    rintro D c pre W _ _ h _
    exact h.elim
end Go.Proofs.Ytalngalikblgkaa
