/- bank: worst. -/
import Derived.Test.YtnpkcipeacogcaaBkO
import Derived.WalkMore

set_option linter.unusedSimpArgs false
set_option linter.unusedVariables false
namespace Go.Proofs.Ytnpkcipeacogcaa
open Go.RowKit Go.Shelf
attribute [local go_sem] Oper.semAt_some

theorem round_keeps {W w2 W3 W' : World} {lb sb B : Nat} (h2 : Below W.heap.size W w2) (h3 : Below w2.heap.size w2 W3) (hk : Keep (fun b => b = lb ∨ b = sb) W3 W') (hl : lb < B) (hs : sb < B) :
    KeepsFrom B W W' ∧ W.heap.size ≤ W'.heap.size ∧ ∀ b, b ≠ lb → b ≠ sb → b < W.heap.size → W'.heap[b]? = W.heap[b]? := by
  have hz := Nat.le_trans h2.size (Nat.le_trans h3.size hk.size)
  have key : ∀ b, b ≠ lb → b ≠ sb → b < W.heap.size → W'.heap[b]? = W.heap[b]? := fun b n1 n2 hb => by
    have k1 := h2.size
    have k2 := h3.size
    exact (hk.block b (by omega) (fun e => e.elim n1 n2)).trans ((h3.block b (by omega)).trans (h2.block b hb))
  exact ⟨⟨hz, fun k o hB ho _ => (key k (by omega) (by omega) (Array.getElem?_eq_some_iff.1 ho).1).trans ho⟩, hz, key⟩
set_option maxRecDepth 100000 in
set_option maxHeartbeats 4000000 in
theorem worst_any (bA gA lA : Option Addr) (bn bc n gc ln lc : Nat) (bs : List Bat) (gs : List Gen) (l : List Spn) (b : Int) (w : World)
    (hin : ArgsIn w w.heap.size bA bn bs gA n gs lA ln l) (ok : ArgsOk bs gs l) (b0 : 0 ≤ b) (b1 : b ≤ 1000000) :
    Calls Try.prog 35 #[.agg #[.slice bA bn bc, .slice gA n gc], .slice lA ln lc, .int .i64 b] w fun e w' => ∃ A c fs g1 g2, e = .returned (.tuple #[.slice A n c, .agg #[.int .i64 (runOf bs gs l fs).dark, .slice (some ⟨g1, 0, none⟩) bn bn, .slice (some ⟨g2, 0, none⟩) n n, .int .i64 (runOf bs gs l fs).served]]) ∧ Below w.heap.size w w' ∧ w'.ownsRow w.heap.size 3 1 (.slice A n c) n (fs.flatMap encI) ∧ ResIn w.heap.size w' g1 g2 (runOf bs gs l fs) ∧ Fl gs fs ∧ sumI fs ≤ b ∧ ∀ ts, Fl gs ts → sumI ts ≤ b → ¬ earlierP (runOf bs gs l ts).dark (runOf bs gs l fs).dark := by
  refine (callsIn_wide (n := 9)).1 ?_
  have HIN := Lib.hid hin
  have OK := Lib.hid ok
  have hgn : n ≤ 6 := by have := ok.ng; have := hin.gen.1; omega
  have HBL : Hid (bs.length = bn) := Lib.hid hin.bat.1
  have HGL : Hid (gs.length = n) := Lib.hid hin.gen.1
  have KR : Hid (∀ (fA : Option Addr) (fc : Nat) (fs : List Int) (W : World), Below w.heap.size w W → Rd W W.heap.size 1 encI fA n fs → Fl gs fs → Calls Try.prog 27 #[.agg #[.slice bA bn bc, .slice gA n gc], .slice lA ln lc, .slice fA n fc] W fun e w' => ∃ g1 g2, e = .returned (.agg #[.int .i64 (runOf bs gs l fs).dark, .slice (some ⟨g1, 0, none⟩) bn bn, .slice (some ⟨g2, 0, none⟩) n n, .int .i64 (runOf bs gs l fs).served]) ∧ Below W.heap.size W w' ∧ ResIn W.heap.size w' g1 g2 (runOf bs gs l fs)) := Lib.hid (by
    intro fA fc fs W hW hf hfl
    refine (result_any bA gA lA fA bn bc n gc ln lc n fc bs gs l fs W (HIN.out.next hW) hf OK.out hfl.ok).mono ?_
    rintro e w' ⟨g1, g2, h1, h2, h3⟩
    refine ⟨g1, g2, ?_, h2, h3⟩
    obtain ⟨e1, e2⟩ := runOf_len (bs := bs) (l := l) hfl
    rw [h1]
    unfold resVal
    rw [show (runL 0 (ply0 bs gs fs) (secsL l)) = runOf bs gs l fs from rfl, e1, e2, HBL.out, HGL.out])
  have HZ : Hid (Fl gs (List.replicate n 0)) := Lib.hid (by rw [← HGL.out]; exact Fl.zeros ok.gen)
  have HDK := Lib.hid (fun fs => runOf_dark bs gs l fs)
  have HLEN : Hid ((secsL l).length ≤ 20000) := Lib.hid ok.len
  have HGEN := Lib.hid hin.gen
  have HGOK : Hid (∀ g ∈ gs, GenOk g) := Lib.hid ok.gen
  obtain ⟨run, hrun⟩ : ∃ z, z = runOf bs gs l := ⟨_, rfl⟩
  rw [← hrun] at KR HDK ⊢
  clear hin ok hrun
  have KL := Lib.hid (fun W => lists_in Fence.wide 8 trivial rfl gA n gc b W)
  refine callsIn_of_wp_marks Try.func35 rfl trivial ?_ rfl
  simp only [Try.ntmps35, List.size_toArray, List.length_cons, List.length_nil, Nat.reduceAdd, Nat.reduceSub, Array.replicate_succ, Array.replicate_zero, List.push_toArray, List.append_toArray, List.nil_append, List.cons_append]
  gi_wp2
  refine wpIn_wide.2 ?_
  apply wp_scope_straight
  refine (wpIn_wide (n := 9)).1 ?_
  gi_wp2
  rw [show ∀ V, Sem.run Try.prog (Instr.makeSlice 30 (.int .i64 n) (.int .i64 n)) V = _ from run_makeInts n (by omega)]
  gi_wp2_with fail
  refine ⟨trivial, ?_⟩
  obtain ⟨W1, hW1⟩ : ∃ z, z = ((((w.alloc (.cells #[.slice bA bn bc, .slice gA n gc] 26)).alloc (.cells #[.slice lA ln lc] 28)).alloc (.cells #[.int .i64 0, .slice none 0 0, .slice none 0 0, .int .i64 0] 40)).alloc (.cells (intsA (List.replicate n 0)) 3)).alloc (.cells #[.slice (some ⟨w.heap.size + 1 + 1 + 1, 0, none⟩) n n] 30) := ⟨_, rfl⟩
  rw [← hW1]
  have hLW1 : Below w.heap.size w W1 := by rw [hW1]; (repeat' (first | (with_reducible exact Below.refl _ _) | (with_reducible assumption) | (with_reducible refine below_drewN ?_ _) | (with_reducible refine below_after (by assumption) ?_ ?_) | (with_reducible refine Below.drew ?_) | (with_reducible refine Below.alloc ?_ ?_ _) | (with_reducible refine Below.setCell ?_ ?_ _) | omega | (simp; omega) | (simp; done)))
  have hz1 : W1.heap.size = w.heap.size + 5 := by rw [hW1]; simp
  have q1 : Blk W1 w.heap.size 26 #[.slice bA bn bc, .slice gA n gc] := by rw [hW1]; exact ((((Blk.alloc (heap_alloc_new w _) _).alloc _).alloc _).alloc _)
  have q2 : Blk W1 (w.heap.size + 1) 28 #[.slice lA ln lc] := by
    have h := heap_alloc_new (w.alloc (.cells #[.slice bA bn bc, .slice gA n gc] 26)) (.cells #[.slice lA ln lc] 28)
    rw [World.size_alloc] at h
    rw [hW1]; exact (((Blk.alloc h _).alloc _).alloc _)
  have q3 : Blk W1 (w.heap.size + 1 + 1) 40 #[.int .i64 0, .slice none 0 0, .slice none 0 0, .int .i64 0] := by
    have h := heap_alloc_new ((w.alloc (.cells #[.slice bA bn bc, .slice gA n gc] 26)).alloc (.cells #[.slice lA ln lc] 28)) (.cells #[.int .i64 0, .slice none 0 0, .slice none 0 0, .int .i64 0] 40)
    rw [World.size_alloc, World.size_alloc] at h
    rw [hW1]; exact ((Blk.alloc h _).alloc _)
  have q4 : Blk W1 (w.heap.size + 1 + 1 + 1) 3 (intsA (List.replicate n 0)) := by
    have h := heap_alloc_new (((w.alloc (.cells #[.slice bA bn bc, .slice gA n gc] 26)).alloc (.cells #[.slice lA ln lc] 28)).alloc (.cells #[.int .i64 0, .slice none 0 0, .slice none 0 0, .int .i64 0] 40)) (.cells (intsA (List.replicate n 0)) 3)
    rw [World.size_alloc, World.size_alloc, World.size_alloc] at h
    rw [hW1]; exact (Blk.alloc h _)
  have q5 : Blk W1 (w.heap.size + 1 + 1 + 1 + 1) 30 #[.slice (some ⟨w.heap.size + 1 + 1 + 1, 0, none⟩) n n] := by
    have h := heap_alloc_new ((((w.alloc (.cells #[.slice bA bn bc, .slice gA n gc] 26)).alloc (.cells #[.slice lA ln lc] 28)).alloc (.cells #[.int .i64 0, .slice none 0 0, .slice none 0 0, .int .i64 0] 40)).alloc (.cells (intsA (List.replicate n 0)) 3)) (.cells #[.slice (some ⟨w.heap.size + 1 + 1 + 1, 0, none⟩) n n] 30)
    rw [World.size_alloc, World.size_alloc, World.size_alloc, World.size_alloc] at h
    rw [hW1]; exact h
  have hrd0 : Rd W1 W1.heap.size 1 encI (some ⟨w.heap.size + 1 + 1 + 1, 0, none⟩) n (List.replicate n 0) := by
    have h := q4.rdI
    rw [List.length_replicate] at h
    exact h
  have KR1 := Lib.hid (KR.out _ n _ W1 hLW1 hrd0 HZ.out)
  have Q := Lib.hid (And.intro q1 (And.intro q2 (And.intro q3 (And.intro q4 q5))))
  have HLW1 := Lib.hid hLW1
  clear q1 q2 q3 q4 q5 hrd0 hLW1 hW1
  refine (callsIn_wide.2 KR1.out).mono ?_
  rintro e w1 ⟨g1, g2, rfl, hB1, hR1⟩
  have hz1' : w.heap.size + 5 ≤ w1.heap.size := by have := hB1.size; omega
  have r1 := Q.out.1.below hB1 Q.out.1.lt
  have r2 := Q.out.2.1.below hB1 Q.out.2.1.lt
  have r3 := Q.out.2.2.1.below hB1 Q.out.2.2.1.lt
  have r4 := Q.out.2.2.2.1.below hB1 Q.out.2.2.2.1.lt
  have r5 := Q.out.2.2.2.2.below hB1 Q.out.2.2.2.2.lt
  have HLw := Lib.hid (below3 HLW1.out hB1 (Nat.le_refl _))
  have HR1 := Lib.hid hR1
  have c0 : w1.cell? ⟨w.heap.size, 1, none⟩ = some (.slice gA n gc) := r1.cell 1
  have RR := Lib.hid (And.intro r1 (And.intro r2 (And.intro r3 (And.intro r4 r5))))
  have zw : w.heap.size < w1.heap.size := by omega
  clear r1 r2 r3 r4 r5 hB1 hR1 KR1 Q HLW1
  gi_wp2_with fail
  refine wpIn_wide.2 ?_
  apply wp_label
  gi_wp2_with fail
  refine ⟨trivial, ?_⟩
  refine (KL.out _).mono ?_
  rintro e w2 ⟨rfl, rfl⟩
  gi_wp2
  obtain ⟨W0, hW0⟩ : ∃ z, z = ((w1.alloc (.cells #[.int .i64 (run (List.replicate n 0)).dark, .slice (some ⟨g1, 0, none⟩) bn bn, .slice (some ⟨g2, 0, none⟩) n n, .int .i64 (run (List.replicate n 0)).served] 40)).alloc (.cells #[.slice gA n gc] 24)).alloc (.cells #[.int .i64 b] 3) := ⟨_, rfl⟩
  rw [← hW0]
  have hB0 : Below w1.heap.size w1 W0 := by rw [hW0]; (repeat' (first | (with_reducible exact Below.refl _ _) | (with_reducible assumption) | (with_reducible refine below_drewN ?_ _) | (with_reducible refine below_after (by assumption) ?_ ?_) | (with_reducible refine Below.drew ?_) | (with_reducible refine Below.alloc ?_ ?_ _) | (with_reducible refine Below.setCell ?_ ?_ _) | omega | (simp; omega) | (simp; done)))
  have hz0 : W0.heap.size = w1.heap.size + 3 := by rw [hW0]; simp
  have s1 : Blk W0 w1.heap.size 40 #[.int .i64 (run (List.replicate n 0)).dark, .slice (some ⟨g1, 0, none⟩) bn bn, .slice (some ⟨g2, 0, none⟩) n n, .int .i64 (run (List.replicate n 0)).served] := by rw [hW0]; exact ((Blk.alloc (heap_alloc_new w1 _) _).alloc _)
  have s2 : Blk W0 (w1.heap.size + 1) 24 #[.slice gA n gc] := by
    have h := heap_alloc_new (w1.alloc (.cells #[.int .i64 (run (List.replicate n 0)).dark, .slice (some ⟨g1, 0, none⟩) bn bn, .slice (some ⟨g2, 0, none⟩) n n, .int .i64 (run (List.replicate n 0)).served] 40)) (.cells #[.slice gA n gc] 24)
    rw [World.size_alloc] at h
    rw [hW0]; exact Blk.alloc h _
  have s3 : Blk W0 (w1.heap.size + 1 + 1) 3 #[.int .i64 b] := by
    have h := heap_alloc_new ((w1.alloc (.cells #[.int .i64 (run (List.replicate n 0)).dark, .slice (some ⟨g1, 0, none⟩) bn bn, .slice (some ⟨g2, 0, none⟩) n n, .int .i64 (run (List.replicate n 0)).served] 40)).alloc (.cells #[.slice gA n gc] 24)) (.cells #[.int .i64 b] 3)
    rw [World.size_alloc, World.size_alloc] at h
    rw [hW0]; exact h
  have hLW0 := below3 HLw.out hB0 (Nat.le_refl _)
  have hS0 : WoS w #[.slice bA bn bc, .slice gA n gc] (.slice lA ln lc) (w.heap.size + 1 + 1 + 1 + 1) w1.heap.size (W0.heap.size + 2) n bn n run (some ⟨w.heap.size + 1 + 1 + 1, 0, none⟩) n (List.replicate n 0) g1 g2 W0 := by
    have hrr := HR1.out
    refine ⟨hLW0, RR.out.1.below hB0 RR.out.1.lt, RR.out.2.1.below hB0 RR.out.2.1.lt, RR.out.2.2.1.below hB0 RR.out.2.2.1.lt, RR.out.2.2.2.2.below hB0 RR.out.2.2.2.2.lt, ?_, s1, ⟨by have := hrr.b1; omega, by have := hrr.b2; omega, hrr.e.below hB0 hrr.e.lt, hrr.b.below hB0 hrr.b.lt⟩, ?_, by have := hrr.e.lt; omega, by have := hrr.b.lt; omega⟩
    · have h4 := RR.out.2.2.2.1.below hB0 RR.out.2.2.2.1.lt
      refine ⟨by rw [encI_flat, List.length_map, List.length_replicate]; omega, .inr ⟨_, n, _, rfl, by omega, h4, Nat.le_refl _, by unfold maxLen; omega, by simp [intsA], ?_⟩⟩
      rw [encI_flat]
      simp [intsA]
    · intro e
      have : w.heap.size + 1 + 1 + 1 = W0.heap.size + 2 := by simpa [Value.ownBlock] using e
      omega
  have HS0 := Lib.hid hS0
  have hseq := Lib.hid (lists1_seq (w1.heap.size + 1) (w1.heap.size + 1 + 1) w.heap.size gA n gc gs b W0 (HGEN.out.below hLW0) hLW0.size hgn HGOK.out b0 b1 s2 s3)
  clear hW0 hB0 s1 s2 s3 hLW0 hS0 c0 KL HR1 RR HLw
  refine range_block rfl (by omega) (gf := 50) (lb := #[.pointer (some ⟨w1.heap.size + 1, 0, none⟩), .pointer (some ⟨w1.heap.size + 1 + 1, 0, none⟩)]) rfl trivial (enters_of Try.func50 (by kernel_rfl) rfl)
    hseq.out (fun h k => h.trans k)
    (fun W l o o' hl ho hc _ => ⟨(grownBy_putObj' W l o').size, fun k hk hkl => (grownBy_putObj' W l o').block k hkl (by intro e; cases e; omega), fun t cs hb => hb.kept (grownBy_putObj' W l o') (by intro e; cases e; exact notcells ho hc _ _ hb)⟩)
    (Below.refl _ _) (fun _ => rfl)
    (fun x W l o o' hx ho hc => ⟨ownsRow_putObj hx.1 o' ho hc, hx.2.1, hx.2.2.1, Nat.lt_of_lt_of_le hx.2.2.2 (grownBy_putObj' W l o').size⟩)
    (WoI w #[.slice bA bn bc, .slice gA n gc] (.slice lA ln lc) (w.heap.size + 1 + 1 + 1 + 1) w1.heap.size (W0.heap.size + 2) n bn n run gs b)
    (WoX w #[.slice bA bn bc, .slice gA n gc] (.slice lA ln lc) (w.heap.size + 1 + 1 + 1 + 1) w1.heap.size (W0.heap.size + 2) n bn n run gs b)
    (WoI.own (by omega) (by omega) (by omega) (by omega)) (WoX.own (by omega) (by omega) (by omega) (by omega)) (WoI.abides (by omega) (by omega) (by omega)) (WoX.abides (by omega) (by omega) (by omega))
    ⟨_, _, _, _, _, HS0.out, HZ.out, by have := sumI_zer (List.replicate n 0); unfold zer at this; rw [List.length_replicate] at this; omega, fun y hy => by simp at hy⟩
    (fun x => { tmps := #[.agg #[.slice bA bn bc, .slice gA n gc], .slice lA ln lc, .int .i64 b, .pointer (some ⟨w.heap.size, 0, none⟩), .pointer (some ⟨w.heap.size + 1, 0, none⟩), undef, .slice none 0 0, .pointer (some ⟨w.heap.size + 1 + 1, 0, none⟩), .pointer (some ⟨w.heap.size + 1 + 1 + 1 + 1, 0, none⟩), .pointer (some ⟨w1.heap.size, 0, none⟩), .slice x.A n x.c, undef, .pointer (some ⟨w.heap.size, 1, none⟩), .slice gA n gc, .int .i64 n, .slice (some ⟨w.heap.size + 1 + 1 + 1, 0, none⟩) n n, .agg #[.slice bA bn bc, .slice gA n gc], .slice lA ln lc, .slice (some ⟨w.heap.size + 1 + 1 + 1, 0, none⟩) n n,
      .agg #[.int .i64 (run (List.replicate n 0)).dark, .slice (some ⟨g1, 0, none⟩) bn bn, .slice (some ⟨g2, 0, none⟩) n n, .int .i64 (run (List.replicate n 0)).served], .pointer (some ⟨w.heap.size, 1, none⟩), .slice gA n gc, .int .i64 b, .func (.func 50) #[] #[.pointer (some ⟨w1.heap.size + 1, 0, none⟩), .pointer (some ⟨w1.heap.size + 1 + 1, 0, none⟩)], .slice x.A n x.c, undef, undef, undef, undef, undef, undef, undef, undef, undef, undef, undef, undef, undef, undef, undef, undef, undef, undef, undef, undef], defers := [] }) ?assign ?body ?done ?stop
  case assign =>
    rintro l x W K hK
    gi_wp2
    exact hK
  case body =>
    rintro l pre x W ⟨A, c, fs, u1, u2, hS, hF, hsm, hE⟩ hX
    obtain ⟨hXr, hXf, hXs, hXg⟩ := hX
    have hrowx : W.ownsRow w.heap.size 3 1 (.slice x.A n x.c) n (x.l.flatMap encI) := ⟨hXr.1, hXr.2.imp id fun ⟨g, cap, cu, e1, e2, e3⟩ => ⟨g, cap, cu, e1, by omega, e3⟩⟩
    have hownx : ∀ g, (Value.slice x.A n x.c).ownBlock = some g → W0.heap.size + 2 < g := fun g e => by have := (World.ownsRow.lt hXr g e).1; omega
    have KX := Lib.hid (KR.out x.A x.c x.l W hS.low (row_rdI hrowx) hXf)
    obtain ⟨d0, d1⟩ := HDK.out x.l
    obtain ⟨d2, d3⟩ := HDK.out fs
    have hlen := HLEN.out
    have b0 : W.cell? ⟨w.heap.size, 0, none⟩ = some (.slice bA bn bc) := hS.bb.cell 0
    have b1' : W.cell? ⟨w.heap.size, 1, none⟩ = some (.slice gA n gc) := hS.bb.cell 1
    have b2 : W.cell? ⟨w.heap.size + 1, 0, none⟩ = some (.slice lA ln lc) := hS.lo.cell 0
    have z0 := hS.bb.lt
    have z1 := hS.lo.lt
    have HS := Lib.hid hS
    have HE := Lib.hid hE
    have HF := Lib.hid hF
    have HXF := Lib.hid hXf
    have HROW := Lib.hid hrowx
    have HOWN := Lib.hid hownx
    clear hS hE hF hXf hrowx hXr hownx
    by_cases hd : (run x.l).dark = 0
    · have e1 : ((run x.l).dark == 0) = true := by simp [hd]
      have HD := Lib.hid hd
      clear hd
      gi_wp2_with fail
      refine ⟨trivial, ?_⟩
      refine (CallsIn.inRound l (callsIn_wide.2 KX.out)).mono ?_
      rintro e w2 ⟨k1, k2, rfl, hB2, hR2⟩
      have HB2 := Lib.hid hB2
      have HR2 := Lib.hid hR2
      obtain ⟨W3, hW3⟩ : ∃ z, z = w2.alloc (.cells #[.int .i64 (run x.l).dark, .slice (some ⟨k1, 0, none⟩) bn bn, .slice (some ⟨k2, 0, none⟩) n n, .int .i64 (run x.l).served] 40) := ⟨_, rfl⟩
      have HB3 : Hid (Below w2.heap.size w2 W3) := Lib.hid (by rw [hW3]; exact (Below.refl _ _).alloc (Nat.le_refl _) _)
      have HXB : Hid (Blk W3 w2.heap.size 40 #[.int .i64 (run x.l).dark, .slice (some ⟨k1, 0, none⟩) bn bn, .slice (some ⟨k2, 0, none⟩) n n, .int .i64 (run x.l).served]) := Lib.hid (by rw [hW3]; exact heap_alloc_new w2 _)
      have HS3 := Lib.hid ((HS.out.next HB2.out (by omega) (by omega) (by omega)).next HB3.out (by omega) (by omega) (by omega))
      have HLB : Hid (Blk W3 (w.heap.size + 1 + 1 + 1 + 1) 30 #[.slice A n c]) := Lib.hid HS3.out.li
      have HSB : Hid (Blk W3 w1.heap.size 40 #[.int .i64 (run fs).dark, .slice (some ⟨u1, 0, none⟩) bn bn, .slice (some ⟨u2, 0, none⟩) n n, .int .i64 (run fs).served]) := Lib.hid HS3.out.st
      have hzW := hB2.size
      have hxl : w2.heap.size ≠ w.heap.size + 1 + 1 + 1 + 1 := by omega
      have hxs : w2.heap.size ≠ w1.heap.size := by omega
      have hls : w.heap.size + 1 + 1 + 1 + 1 ≠ w1.heap.size := by omega
      have zsb := HSB.out.lt
      have e2 : w2.cell? ⟨w1.heap.size, 0, none⟩ = some (.int .i64 (run fs).dark) := ((HS.out.next HB2.out (by omega) (by omega) (by omega)).st).cell 0
      have zsw : w1.heap.size < w2.heap.size := by omega
      clear hB2 hR2
      gi_wp2_with fail
      rw [← hW3]
      clear hW3
      refine wpIn_round_free10 (by kernel_rfl) 3 (by kernel_rfl) [some 33, some 34, none, none] [[], [], [0, 0], [1, 2, 0, 1, 2]] [(8, .pointer (some ⟨w.heap.size + 1 + 1 + 1 + 1, 0, none⟩)), (9, .pointer (some ⟨w1.heap.size, 0, none⟩)), (10, .slice x.A n x.c), (11, .pointer (some ⟨w2.heap.size, 0, none⟩))] (PhR (WoA W3 (w.heap.size + 1 + 1 + 1 + 1) w1.heap.size (.slice A n c) #[(.int .i64 (run fs).dark), (.slice (some ⟨u1, 0, none⟩) bn bn), (.slice (some ⟨u2, 0, none⟩) n n), (.int .i64 (run fs).served)]) (WoA W3 (w.heap.size + 1 + 1 + 1 + 1) w1.heap.size (.slice x.A n x.c) #[(.int .i64 (run fs).dark), (.slice (some ⟨u1, 0, none⟩) bn bn), (.slice (some ⟨u2, 0, none⟩) n n), (.int .i64 (run fs).served)]) (WoA W3 (w.heap.size + 1 + 1 + 1 + 1) w1.heap.size (.slice x.A n x.c) #[(.int .i64 (run x.l).dark), (.slice (some ⟨k1, 0, none⟩) bn bn), (.slice (some ⟨k2, 0, none⟩) n n), (.int .i64 (run x.l).served)])) (woPhi (.slice x.A n x.c) (.int .i64 (run x.l).dark) (.slice (some ⟨k1, 0, none⟩) bn bn) (.slice (some ⟨k2, 0, none⟩) n n) (.int .i64 (run x.l).served)) (phPsi 2) (by kernel_rfl) (by kernel_rfl) rfl (by kernel_rfl) ?_ ?_ ⟨fun _ => 0, PhR.begin ⟨(Keep.refl _ _).drew, HLB.out, HSB.out⟩, fun i _ => phPsi_0⟩ ?_ ?_
      · intro z hz
        simp only [List.mem_cons, List.mem_nil_iff, or_false] at hz
        rcases hz with rfl | rfl | rfl | rfl
        all_goals exact ⟨by kernel_rfl, rfl⟩
      · intro i v W γ hi h
        rcases i with _ | _ | _ | _ | i
        all_goals first | exact h | (simp at hi)
      · refine ⟨?_, ?_, ?_, ?_, trivial⟩
        all_goals
          intro a W γ ev hcc hff hfx hR hψ hpre
          simp only [List.mem_cons, List.mem_nil_iff, or_false, forall_eq, forall_eq_or_imp] at hfx
          obtain ⟨f0, f1, f2, f3⟩ := hfx
          have HR := Lib.hid hR
          clear hR
          refine ⟨fun _ K hK => ?_, trivial⟩

        · clear hpre hψ
          go_simp
          exact hK _ _ γ HR.out (fun _ _ _ _ h => h) (fun _ _ _ h => h) rfl
        · have hc := wo_x HR.out (hψ.2 (by decide)) HXB.out hxl hxs
          obtain ⟨zx, x0, x1, x2, x3⟩ := hc
          clear hpre hψ
          go_simp
          exact hK _ _ γ HR.out (fun _ _ _ _ h => h) (fun _ _ _ h => h) rfl
        · have q0 : ev (.tmp 33) = _ := hpre 0 (by decide)
          have hγ : γ 0 = 0 := hψ.1 rfl
          have h0 := PhR.is0 HR.out hγ
          have hb := h0.2.1
          have d0 : W.cell? ⟨w.heap.size + 1 + 1 + 1 + 1, 0, none⟩ = some (.slice A n c) := hb.cell 0
          have fz := hb.frozen 0
          have hzz := hb.lt
          have hfin := wo_st1 (v := .slice x.A n x.c) hls h0
          clear hb h0
          go_simp
          refine hK undef _ (fun _ => 1) (PhR.to1 hfin) (fun j u h1 h2 h3 => woPhi_1 hγ h2 h3) (fun _ j h1 h2 => phPsi_1 h1) (show (1 : Nat) ≠ 0 by decide)
        · have q0 : ev (.tmp 34) = _ := hpre 1 (by decide)
          have h1 := PhR.is1 HR.out (hψ.2 (by decide)) (hpre 2 (by decide))
          have h1 := h1.2
          have hb := h1.2.2
          have d0 : W.cell? ⟨w1.heap.size, 0, none⟩ = some (.int .i64 (run fs).dark) := hb.cell 0
          have d1 : W.cell? ⟨w1.heap.size, 1, none⟩ = some (.slice (some ⟨u1, 0, none⟩) bn bn) := hb.cell 1
          have d2 : W.cell? ⟨w1.heap.size, 2, none⟩ = some (.slice (some ⟨u2, 0, none⟩) n n) := hb.cell 2
          have d3 : W.cell? ⟨w1.heap.size, 3, none⟩ = some (.int .i64 (run fs).served) := hb.cell 3
          have fz := hb.frozen
          have hzz := hb.lt
          have hfin := wo_st2 (r0 := (.int .i64 (run x.l).dark)) (r1 := (.slice (some ⟨k1, 0, none⟩) bn bn)) (r2 := (.slice (some ⟨k2, 0, none⟩) n n)) (r3 := (.int .i64 (run x.l).served)) hls h1
          clear hb h1
          go_simp
          refine hK undef _ (fun _ => 2) (PhR.to2 hfin) (fun j u h1 h2 h3 => woPhi_2 h2 h3) (fun h => absurd rfl h) rfl
      · intro vs w' γ hvl hR hφ
        have qe : γ 0 = 2 := hφ 3 (by decide)
        have HR := Lib.hid hR
        clear hφ hR
        match vs, hvl with
        | [y0, y1, y2, y3], _ =>
        have h2' := Lib.hid (PhR.is2 HR.out qe)
        clear qe HR
        simp [putAll]
        gi_wp2
        obtain ⟨hk1, hk2, hk3⟩ := round_keeps (B := W0.heap.size) HB2.out HB3.out h2'.out.1 (by omega) (by omega)
        exact ⟨hk1, rfl, _, _, _, _, _, HS3.out.swap h2'.out (by omega) (by omega) (row_next HROW.out (HB2.out.trans (HB3.out.mono HB2.out.size))) ⟨by have := HR2.out.b1; omega, by have := HR2.out.b2; omega, HR2.out.e.below HB3.out HR2.out.e.lt, HR2.out.b.below HB3.out HR2.out.b.lt⟩ (fun e => by have := HOWN.out _ e; omega) (by have := HR2.out.b1; omega) (by have := HR2.out.b2; omega), HXF.out, hXs, HD.out⟩
    · have e1 : ((run x.l).dark == 0) = false := by simp [hd]
      have HD := Lib.hid hd
      clear hd
      gi_wp2_with fail
      refine ⟨trivial, ?_⟩
      refine (CallsIn.inRound l (callsIn_wide.2 KX.out)).mono ?_
      rintro e w2 ⟨k1, k2, rfl, hB2, hR2⟩
      have HB2 := Lib.hid hB2
      have HR2 := Lib.hid hR2
      obtain ⟨W3, hW3⟩ : ∃ z, z = w2.alloc (.cells #[.int .i64 (run x.l).dark, .slice (some ⟨k1, 0, none⟩) bn bn, .slice (some ⟨k2, 0, none⟩) n n, .int .i64 (run x.l).served] 40) := ⟨_, rfl⟩
      have HB3 : Hid (Below w2.heap.size w2 W3) := Lib.hid (by rw [hW3]; exact (Below.refl _ _).alloc (Nat.le_refl _) _)
      have HXB : Hid (Blk W3 w2.heap.size 40 #[.int .i64 (run x.l).dark, .slice (some ⟨k1, 0, none⟩) bn bn, .slice (some ⟨k2, 0, none⟩) n n, .int .i64 (run x.l).served]) := Lib.hid (by rw [hW3]; exact heap_alloc_new w2 _)
      have HS3 := Lib.hid ((HS.out.next HB2.out (by omega) (by omega) (by omega)).next HB3.out (by omega) (by omega) (by omega))
      have HLB : Hid (Blk W3 (w.heap.size + 1 + 1 + 1 + 1) 30 #[.slice A n c]) := Lib.hid HS3.out.li
      have HSB : Hid (Blk W3 w1.heap.size 40 #[.int .i64 (run fs).dark, .slice (some ⟨u1, 0, none⟩) bn bn, .slice (some ⟨u2, 0, none⟩) n n, .int .i64 (run fs).served]) := Lib.hid HS3.out.st
      have hzW := hB2.size
      have hxl : w2.heap.size ≠ w.heap.size + 1 + 1 + 1 + 1 := by omega
      have hxs : w2.heap.size ≠ w1.heap.size := by omega
      have hls : w.heap.size + 1 + 1 + 1 + 1 ≠ w1.heap.size := by omega
      have zsb := HSB.out.lt
      have e2 : w2.cell? ⟨w1.heap.size, 0, none⟩ = some (.int .i64 (run fs).dark) := ((HS.out.next HB2.out (by omega) (by omega) (by omega)).st).cell 0
      have zsw : w1.heap.size < w2.heap.size := by omega
      clear hB2 hR2
      gi_wp2_with fail
      rw [← hW3]
      clear hW3
      have KE := Lib.hid (earlier_any (run x.l).dark (run fs).dark W3 d0 (by omega) d2 (by omega))
      by_cases he : earlierP (run x.l).dark (run fs).dark
      · rw [decide_eq_true he] at KE
        have HEE := Lib.hid he
        clear he
        refine ⟨trivial, ?_⟩
        refine (CallsIn.inRound l (callsIn_wide.2 KE.out)).mono ?_
        rintro e w4 ⟨rfl, hw4⟩
        rw [hw4]
        clear hw4
        gi_wp2
        refine wpIn_round_free10 (by kernel_rfl) 3 (by kernel_rfl) [some 41, some 42, none, none] [[], [], [0, 0], [1, 2, 0, 1, 2]] [(8, .pointer (some ⟨w.heap.size + 1 + 1 + 1 + 1, 0, none⟩)), (9, .pointer (some ⟨w1.heap.size, 0, none⟩)), (10, .slice x.A n x.c), (11, .pointer (some ⟨w2.heap.size, 0, none⟩))] (PhR (WoA W3 (w.heap.size + 1 + 1 + 1 + 1) w1.heap.size (.slice A n c) #[(.int .i64 (run fs).dark), (.slice (some ⟨u1, 0, none⟩) bn bn), (.slice (some ⟨u2, 0, none⟩) n n), (.int .i64 (run fs).served)]) (WoA W3 (w.heap.size + 1 + 1 + 1 + 1) w1.heap.size (.slice x.A n x.c) #[(.int .i64 (run fs).dark), (.slice (some ⟨u1, 0, none⟩) bn bn), (.slice (some ⟨u2, 0, none⟩) n n), (.int .i64 (run fs).served)]) (WoA W3 (w.heap.size + 1 + 1 + 1 + 1) w1.heap.size (.slice x.A n x.c) #[(.int .i64 (run x.l).dark), (.slice (some ⟨k1, 0, none⟩) bn bn), (.slice (some ⟨k2, 0, none⟩) n n), (.int .i64 (run x.l).served)])) (woPhi (.slice x.A n x.c) (.int .i64 (run x.l).dark) (.slice (some ⟨k1, 0, none⟩) bn bn) (.slice (some ⟨k2, 0, none⟩) n n) (.int .i64 (run x.l).served)) (phPsi 2) (by kernel_rfl) (by kernel_rfl) rfl (by kernel_rfl) ?_ ?_ ⟨fun _ => 0, PhR.begin ⟨(Keep.refl _ _).drew, HLB.out, HSB.out⟩, fun i _ => phPsi_0⟩ ?_ ?_
        · intro z hz
          simp only [List.mem_cons, List.mem_nil_iff, or_false] at hz
          rcases hz with rfl | rfl | rfl | rfl
          all_goals exact ⟨by kernel_rfl, rfl⟩
        · intro i v W γ hi h
          rcases i with _ | _ | _ | _ | i
          all_goals first | exact h | (simp at hi)
        · refine ⟨?_, ?_, ?_, ?_, trivial⟩
          all_goals
            intro a W γ ev hcc hff hfx hR hψ hpre
            simp only [List.mem_cons, List.mem_nil_iff, or_false, forall_eq, forall_eq_or_imp] at hfx
            obtain ⟨f0, f1, f2, f3⟩ := hfx
            have HR := Lib.hid hR
            clear hR
            refine ⟨fun _ K hK => ?_, trivial⟩

          · clear hpre hψ
            go_simp
            exact hK _ _ γ HR.out (fun _ _ _ _ h => h) (fun _ _ _ h => h) rfl
          · have hc := wo_x HR.out (hψ.2 (by decide)) HXB.out hxl hxs
            obtain ⟨zx, x0, x1, x2, x3⟩ := hc
            clear hpre hψ
            go_simp
            exact hK _ _ γ HR.out (fun _ _ _ _ h => h) (fun _ _ _ h => h) rfl
          · have q0 : ev (.tmp 41) = _ := hpre 0 (by decide)
            have hγ : γ 0 = 0 := hψ.1 rfl
            have h0 := PhR.is0 HR.out hγ
            have hb := h0.2.1
            have d0 : W.cell? ⟨w.heap.size + 1 + 1 + 1 + 1, 0, none⟩ = some (.slice A n c) := hb.cell 0
            have fz := hb.frozen 0
            have hzz := hb.lt
            have hfin := wo_st1 (v := .slice x.A n x.c) hls h0
            clear hb h0
            go_simp
            refine hK undef _ (fun _ => 1) (PhR.to1 hfin) (fun j u h1 h2 h3 => woPhi_1 hγ h2 h3) (fun _ j h1 h2 => phPsi_1 h1) (show (1 : Nat) ≠ 0 by decide)
          · have q0 : ev (.tmp 42) = _ := hpre 1 (by decide)
            have h1 := PhR.is1 HR.out (hψ.2 (by decide)) (hpre 2 (by decide))
            have h1 := h1.2
            have hb := h1.2.2
            have d0 : W.cell? ⟨w1.heap.size, 0, none⟩ = some (.int .i64 (run fs).dark) := hb.cell 0
            have d1 : W.cell? ⟨w1.heap.size, 1, none⟩ = some (.slice (some ⟨u1, 0, none⟩) bn bn) := hb.cell 1
            have d2 : W.cell? ⟨w1.heap.size, 2, none⟩ = some (.slice (some ⟨u2, 0, none⟩) n n) := hb.cell 2
            have d3 : W.cell? ⟨w1.heap.size, 3, none⟩ = some (.int .i64 (run fs).served) := hb.cell 3
            have fz := hb.frozen
            have hzz := hb.lt
            have hfin := wo_st2 (r0 := (.int .i64 (run x.l).dark)) (r1 := (.slice (some ⟨k1, 0, none⟩) bn bn)) (r2 := (.slice (some ⟨k2, 0, none⟩) n n)) (r3 := (.int .i64 (run x.l).served)) hls h1
            clear hb h1
            go_simp
            refine hK undef _ (fun _ => 2) (PhR.to2 hfin) (fun j u h1 h2 h3 => woPhi_2 h2 h3) (fun h => absurd rfl h) rfl
        · intro vs w' γ hvl hR hφ
          have qe : γ 0 = 2 := hφ 3 (by decide)
          have HR := Lib.hid hR
          clear hφ hR
          match vs, hvl with
          | [y0, y1, y2, y3], _ =>
          have h2' := Lib.hid (PhR.is2 HR.out qe)
          clear qe HR
          simp [putAll]
          gi_wp2
          obtain ⟨hk1, hk2, hk3⟩ := round_keeps (B := W0.heap.size) HB2.out HB3.out h2'.out.1 (by omega) (by omega)
          refine ⟨hk1, ⟨hk2, fun k hk hlt => hk3 k (by omega) (by omega) hlt, fun t cs hb => (hk3 _ (by omega) (by omega) hb.lt).trans hb⟩, _, _, _, _, _, HS3.out.swap h2'.out (by omega) (by omega) (row_next HROW.out (HB2.out.trans (HB3.out.mono HB2.out.size))) ⟨by have := HR2.out.b1; omega, by have := HR2.out.b2; omega, HR2.out.e.below HB3.out HR2.out.e.lt, HR2.out.b.below HB3.out HR2.out.b.lt⟩ (fun e => by have := HOWN.out _ e; omega) (by have := HR2.out.b1; omega) (by have := HR2.out.b2; omega), HXF.out, hXs, fun y hy hey => ?_⟩
          rcases List.mem_append.1 hy with hy | hy
          · have h1 := HE.out y hy
            have h2 := HEE.out
            unfold earlierP at h1 h2 hey
            omega
          · rw [List.mem_singleton.1 hy] at hey
            unfold earlierP at hey
            omega
      · rw [decide_eq_false he] at KE
        have HEE := Lib.hid he
        clear he
        refine ⟨trivial, ?_⟩
        refine (CallsIn.inRound l (callsIn_wide.2 KE.out)).mono ?_
        rintro e w4 ⟨rfl, hw4⟩
        rw [hw4]
        clear hw4
        gi_wp2
        obtain ⟨hk1, hk2, hk3⟩ := round_keeps (lb := 0) (sb := 0) (B := W0.heap.size) HB2.out HB3.out (Keep.refl _ _) (by omega) (by omega)
        refine ⟨hk1, ⟨hk2, fun k hk hlt => (HB3.out.block k (by have := HB2.out.size; omega)).trans (HB2.out.block k hlt), fun t cs hb => (hb.below HB2.out hb.lt).below HB3.out (hb.below HB2.out hb.lt).lt⟩, _, _, _, _, _, HS3.out, HF.out, hsm, fun y hy => ?_⟩
        rcases List.mem_append.1 hy with hy | hy
        · exact HE.out y hy
        · rw [List.mem_singleton.1 hy]
          exact HEE.out
  case done =>
    rintro D xs W hD hS ⟨A, c, fs, u1, u2, hI, hF, hsm, hE⟩ hK
    have HALL : Hid (∀ ts, Fl gs ts → sumI ts ≤ b → ¬ earlierP (run ts).dark (run fs).dark) := Lib.hid (fun ts ht hts => by
      obtain ⟨y, hy, rfl⟩ := List.mem_map.1 (hS.2 ts ht hts)
      exact hE y hy)
    clear hS hE
    have HI := Lib.hid hI
    have HFL := Lib.hid hF
    have HK := Lib.hid hK
    have c1 : W.cell? ⟨w.heap.size + 1 + 1 + 1 + 1, 0, none⟩ = some (.slice A n c) := hI.li.cell 0
    have y0 : W.cell? ⟨w1.heap.size, 0, none⟩ = some (.int .i64 (run fs).dark) := hI.st.cell 0
    have y1 : W.cell? ⟨w1.heap.size, 1, none⟩ = some (.slice (some ⟨u1, 0, none⟩) bn bn) := hI.st.cell 1
    have y2 : W.cell? ⟨w1.heap.size, 2, none⟩ = some (.slice (some ⟨u2, 0, none⟩) n n) := hI.st.cell 2
    have y3 : W.cell? ⟨w1.heap.size, 3, none⟩ = some (.int .i64 (run fs).served) := hI.st.cell 3
    have r0 : W.cell? ⟨w.heap.size + 1 + 1, 0, none⟩ = some (.int .i64 0) := hI.rs.cell 0
    have r1 : W.cell? ⟨w.heap.size + 1 + 1, 1, none⟩ = some (.slice none 0 0) := hI.rs.cell 1
    have r2 : W.cell? ⟨w.heap.size + 1 + 1, 2, none⟩ = some (.slice none 0 0) := hI.rs.cell 2
    have r3 : W.cell? ⟨w.heap.size + 1 + 1, 3, none⟩ = some (.int .i64 0) := hI.rs.cell 3
    have fz0 := hI.rs.frozen 0
    have fz1 := hI.rs.frozen 1
    have fz2 := hI.rs.frozen 2
    have fz3 := hI.rs.frozen 3
    have zr := hI.rs.lt
    have zs := hI.st.lt
    have zl := hI.li.lt
    clear hI hF hK
    gi_wp2
    refine wpIn_wide.2 ?_
    go_still_tail 3, (by kernel_rfl)
    change wpList _ _ _ _ _ W.drew
    go_wp2
    obtain ⟨W', hW'⟩ : ∃ z, z = (((W.setCell ⟨w.heap.size + 1 + 1, 0, none⟩ (.int .i64 (run fs).dark)).setCell ⟨w.heap.size + 1 + 1, 1, none⟩ (.slice (some ⟨u1, 0, none⟩) bn bn)).setCell ⟨w.heap.size + 1 + 1, 2, none⟩ (.slice (some ⟨u2, 0, none⟩) n n)).setCell ⟨w.heap.size + 1 + 1, 3, none⟩ (.int .i64 (run fs).served) := ⟨_, rfl⟩
    have hrow : Blk W' (w.heap.size + 1 + 1) 40 #[.int .i64 (run fs).dark, .slice (some ⟨u1, 0, none⟩) bn bn, .slice (some ⟨u2, 0, none⟩) n n, .int .i64 (run fs).served] := by
      have k := (((HI.out.rs.set_ 0 (.int .i64 (run fs).dark)).set_ 1 (.slice (some ⟨u1, 0, none⟩) bn bn)).set_ 2 (.slice (some ⟨u2, 0, none⟩) n n)).set_ 3 (.int .i64 (run fs).served)
      rw [hW']
      simpa only [List.setIfInBounds_toArray, List.set_cons_zero, List.set_cons_succ] using k
    have hkeep : Keep (fun b => b = w.heap.size + 1 + 1) W W' := by rw [hW']; exact ((((Keep.refl (fun b => b = w.heap.size + 1 + 1) W).setCell (p := ⟨w.heap.size + 1 + 1, 0, none⟩) rfl _).setCell (p := ⟨w.heap.size + 1 + 1, 1, none⟩) rfl _).setCell (p := ⟨w.heap.size + 1 + 1, 2, none⟩) rfl _).setCell (p := ⟨w.heap.size + 1 + 1, 3, none⟩) rfl _
    have hK' : Hid (W'.drew.heap[D]? = some (.deferred (some []))) := Lib.hid <| (hkeep.block D (Array.getElem?_eq_some_iff.1 HK.out).1 (by have := HI.out.li; omega)).trans HK.out
    have q0 := hrow.cell 0
    have q1 := hrow.cell 1
    have q2 := hrow.cell 2
    have q3 := hrow.cell 3
    have HLW : Hid (Below w.heap.size w W') := Lib.hid (HI.out.low.trans (hkeep.below HI.out.low.size (fun b hb => by omega)))
    have HROW : Hid (W'.ownsRow w.heap.size 3 1 (.slice A n c) n (fs.flatMap encI)) := Lib.hid ⟨HI.out.row.1, HI.out.row.2.imp id fun ⟨g, cap, cu, e1, e2, e3, e4⟩ => ⟨g, cap, cu, e1, e2, hkeep.blk (show Blk W g _ cu from e3) (blk_ne (show Blk W g _ cu from e3) HI.out.rs (by decide)), e4⟩⟩
    have HRE : Hid (ResIn w.heap.size W' u1 u2 (run fs)) := Lib.hid ⟨HI.out.re.b1, HI.out.re.b2, hkeep.blk HI.out.re.e (blk_ne HI.out.re.e HI.out.rs (by decide)), hkeep.blk HI.out.re.b (blk_ne HI.out.re.b HI.out.rs (by decide))⟩
    have HRS := Lib.hid hrow
    rw [← hW']
    clear hW' hrow hkeep c1 y0 y1 y2 y3 r0 r1 r2 r3 fz0 fz1 fz2 fz3
    simp at q0 q1 q2 q3
    have Q0 := Lib.hid (And.intro q0 (And.intro q1 (And.intro q2 q3)))
    clear q0 q1 q2 q3 zr zs zl
    gi_wp2
    refine ⟨by simp, .inl ⟨_, _, rfl, run_takeDeferred hK'.out, ?_⟩⟩
    refine ⟨.tuple #[.slice A n c, .agg #[.int .i64 (run fs).dark, .slice (some ⟨u1, 0, none⟩) bn bn, .slice (some ⟨u2, 0, none⟩) n n, .int .i64 (run fs).served]], ?_, A, c, fs, u1, u2, rfl, ?_⟩
    · have hP : ∀ i, (W'.drew.putObj D (.deferred none)).cell? ⟨w.heap.size + 1 + 1, i, none⟩ = W'.cell? ⟨w.heap.size + 1 + 1, i, none⟩ := fun i => World.cell?_of_block (w := W') ((grownBy_putObj' W'.drew D _).block (w.heap.size + 1 + 1) HRS.out.lt (by intro e; cases e; exact notcells hK'.out rfl _ _ HRS.out))
      have q0 := (hP 0).trans Q0.out.1
      have q1 := (hP 1).trans Q0.out.2.1
      have q2 := (hP 2).trans Q0.out.2.2.1
      have q3 := (hP 3).trans Q0.out.2.2.2
      simp [results, Try.results35, go_sem, q0, q1, q2, q3]
    · have hg := grownBy_putObj' W'.drew D (.deferred none)
      have hn := notcells hK'.out rfl
      refine ⟨HLW.out.drew.trans (belowK_b (w := w) (Nat.le_refl _) W'.drew D _ _ (by omega) hK'.out rfl rfl), ownsRow_putObj (W := W'.drew) HROW.out _ hK'.out rfl, ⟨HRE.out.b1, HRE.out.b2, Blk.kept (W := W'.drew) HRE.out.e hg (by intro e; cases e; exact hn _ _ HRE.out.e), Blk.kept (W := W'.drew) HRE.out.b hg (by intro e; cases e; exact hn _ _ HRE.out.b)⟩, HFL.out, hsm, HALL.out⟩
  case stop =>
    rintro D cd pre W hD _ ⟨rfl, A, c, fs, u1, u2, hI, hF, hsm, hdk⟩ hK
    have HALL : Hid (∀ ts, Fl gs ts → sumI ts ≤ b → ¬ earlierP (run ts).dark (run fs).dark) := Lib.hid (fun ts _ _ h => by
      have := (HDK.out ts).1
      unfold earlierP at h
      omega)
    clear hdk
    have HI := Lib.hid hI
    have HFL := Lib.hid hF
    have HK := Lib.hid hK
    have c1 : W.cell? ⟨w.heap.size + 1 + 1 + 1 + 1, 0, none⟩ = some (.slice A n c) := hI.li.cell 0
    have y0 : W.cell? ⟨w1.heap.size, 0, none⟩ = some (.int .i64 (run fs).dark) := hI.st.cell 0
    have y1 : W.cell? ⟨w1.heap.size, 1, none⟩ = some (.slice (some ⟨u1, 0, none⟩) bn bn) := hI.st.cell 1
    have y2 : W.cell? ⟨w1.heap.size, 2, none⟩ = some (.slice (some ⟨u2, 0, none⟩) n n) := hI.st.cell 2
    have y3 : W.cell? ⟨w1.heap.size, 3, none⟩ = some (.int .i64 (run fs).served) := hI.st.cell 3
    have r0 : W.cell? ⟨w.heap.size + 1 + 1, 0, none⟩ = some (.int .i64 0) := hI.rs.cell 0
    have r1 : W.cell? ⟨w.heap.size + 1 + 1, 1, none⟩ = some (.slice none 0 0) := hI.rs.cell 1
    have r2 : W.cell? ⟨w.heap.size + 1 + 1, 2, none⟩ = some (.slice none 0 0) := hI.rs.cell 2
    have r3 : W.cell? ⟨w.heap.size + 1 + 1, 3, none⟩ = some (.int .i64 0) := hI.rs.cell 3
    have fz0 := hI.rs.frozen 0
    have fz1 := hI.rs.frozen 1
    have fz2 := hI.rs.frozen 2
    have fz3 := hI.rs.frozen 3
    have zr := hI.rs.lt
    have zs := hI.st.lt
    have zl := hI.li.lt
    clear hI hF hK
    gi_wp2
    refine wpIn_wide.2 ?_
    go_still_tail 3, (by kernel_rfl)
    change wpList _ _ _ _ _ W.drew
    go_wp2
    obtain ⟨W', hW'⟩ : ∃ z, z = (((W.setCell ⟨w.heap.size + 1 + 1, 0, none⟩ (.int .i64 (run fs).dark)).setCell ⟨w.heap.size + 1 + 1, 1, none⟩ (.slice (some ⟨u1, 0, none⟩) bn bn)).setCell ⟨w.heap.size + 1 + 1, 2, none⟩ (.slice (some ⟨u2, 0, none⟩) n n)).setCell ⟨w.heap.size + 1 + 1, 3, none⟩ (.int .i64 (run fs).served) := ⟨_, rfl⟩
    have hrow : Blk W' (w.heap.size + 1 + 1) 40 #[.int .i64 (run fs).dark, .slice (some ⟨u1, 0, none⟩) bn bn, .slice (some ⟨u2, 0, none⟩) n n, .int .i64 (run fs).served] := by
      have k := (((HI.out.rs.set_ 0 (.int .i64 (run fs).dark)).set_ 1 (.slice (some ⟨u1, 0, none⟩) bn bn)).set_ 2 (.slice (some ⟨u2, 0, none⟩) n n)).set_ 3 (.int .i64 (run fs).served)
      rw [hW']
      simpa only [List.setIfInBounds_toArray, List.set_cons_zero, List.set_cons_succ] using k
    have hkeep : Keep (fun b => b = w.heap.size + 1 + 1) W W' := by rw [hW']; exact ((((Keep.refl (fun b => b = w.heap.size + 1 + 1) W).setCell (p := ⟨w.heap.size + 1 + 1, 0, none⟩) rfl _).setCell (p := ⟨w.heap.size + 1 + 1, 1, none⟩) rfl _).setCell (p := ⟨w.heap.size + 1 + 1, 2, none⟩) rfl _).setCell (p := ⟨w.heap.size + 1 + 1, 3, none⟩) rfl _
    have hK' : Hid (W'.drew.heap[D]? = some (.deferred (some []))) := Lib.hid <| (hkeep.block D (Array.getElem?_eq_some_iff.1 HK.out).1 (by have := HI.out.li; omega)).trans HK.out
    have q0 := hrow.cell 0
    have q1 := hrow.cell 1
    have q2 := hrow.cell 2
    have q3 := hrow.cell 3
    have HLW : Hid (Below w.heap.size w W') := Lib.hid (HI.out.low.trans (hkeep.below HI.out.low.size (fun b hb => by omega)))
    have HROW : Hid (W'.ownsRow w.heap.size 3 1 (.slice A n c) n (fs.flatMap encI)) := Lib.hid ⟨HI.out.row.1, HI.out.row.2.imp id fun ⟨g, cap, cu, e1, e2, e3, e4⟩ => ⟨g, cap, cu, e1, e2, hkeep.blk (show Blk W g _ cu from e3) (blk_ne (show Blk W g _ cu from e3) HI.out.rs (by decide)), e4⟩⟩
    have HRE : Hid (ResIn w.heap.size W' u1 u2 (run fs)) := Lib.hid ⟨HI.out.re.b1, HI.out.re.b2, hkeep.blk HI.out.re.e (blk_ne HI.out.re.e HI.out.rs (by decide)), hkeep.blk HI.out.re.b (blk_ne HI.out.re.b HI.out.rs (by decide))⟩
    have HRS := Lib.hid hrow
    rw [← hW']
    clear hW' hrow hkeep c1 y0 y1 y2 y3 r0 r1 r2 r3 fz0 fz1 fz2 fz3
    simp at q0 q1 q2 q3
    have Q0 := Lib.hid (And.intro q0 (And.intro q1 (And.intro q2 q3)))
    clear q0 q1 q2 q3 zr zs zl
    gi_wp2
    refine ⟨by simp, .inl ⟨_, _, rfl, run_takeDeferred hK'.out, ?_⟩⟩
    refine ⟨.tuple #[.slice A n c, .agg #[.int .i64 (run fs).dark, .slice (some ⟨u1, 0, none⟩) bn bn, .slice (some ⟨u2, 0, none⟩) n n, .int .i64 (run fs).served]], ?_, A, c, fs, u1, u2, rfl, ?_⟩
    · have hP : ∀ i, (W'.drew.putObj D (.deferred none)).cell? ⟨w.heap.size + 1 + 1, i, none⟩ = W'.cell? ⟨w.heap.size + 1 + 1, i, none⟩ := fun i => World.cell?_of_block (w := W') ((grownBy_putObj' W'.drew D _).block (w.heap.size + 1 + 1) HRS.out.lt (by intro e; cases e; exact notcells hK'.out rfl _ _ HRS.out))
      have q0 := (hP 0).trans Q0.out.1
      have q1 := (hP 1).trans Q0.out.2.1
      have q2 := (hP 2).trans Q0.out.2.2.1
      have q3 := (hP 3).trans Q0.out.2.2.2
      simp [results, Try.results35, go_sem, q0, q1, q2, q3]
    · have hg := grownBy_putObj' W'.drew D (.deferred none)
      have hn := notcells hK'.out rfl
      refine ⟨HLW.out.drew.trans (belowK_b (w := w) (Nat.le_refl _) W'.drew D _ _ (by omega) hK'.out rfl rfl), ownsRow_putObj (W := W'.drew) HROW.out _ hK'.out rfl, ⟨HRE.out.b1, HRE.out.b2, Blk.kept (W := W'.drew) HRE.out.e hg (by intro e; cases e; exact hn _ _ HRE.out.e), Blk.kept (W := W'.drew) HRE.out.b hg (by intro e; cases e; exact hn _ _ HRE.out.b)⟩, HFL.out, hsm, HALL.out⟩
end Go.Proofs.Ytnpkcipeacogcaa
